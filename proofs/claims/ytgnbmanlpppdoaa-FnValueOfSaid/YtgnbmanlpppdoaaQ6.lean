/- Texts merged: W6 Math12 W7 V8 W8 V9 T2 T4 W9 X1 Math13 Pl1 Y1 Math14. -/
import Derived.Test.YtgnbmanlpppdoaaQ5
import Derived.Lib.AppendZerosOnto
import Derived.Lib.AppendZeros
/- Lists one behind the other; whether numbers have both signs: by the program. -/
namespace Go.Proofs.Ytgnbmanlpppdoaa
open Go.RowKit Go.Lib

def Grown (n : Nat) (w : World) (e : Ending) (w' : World) : Prop :=
  ∃ G, n ≤ G ∧ e = .returned (.slice (some ⟨w.heap.size, 0, none⟩) 0 G) ∧ IU w (.slice (some ⟨w.heap.size, 0, none⟩) 0 G) [] w'
set_option maxRecDepth 100000 in
set_option maxHeartbeats 2000000 in
theorem Grow_any (n : Nat) (w : World) (h1 : 1 ≤ n) (hn : n ≤ 100) : Calls Try.prog 110 #[.slice none 0 0, .int .i64 n] w (Grown n w) := by
  obtain ⟨i0, hi0, hz0, hs0, hb0⟩ := info_parts Try.infoI
  have hr := run_append_grow_zeros (P := Try.prog) w 32 3 32 3 i0 (.int .i64 0) .i64 .i64 Try.underlying32 Try.underlying3 hi0 hz0 none 0 0 [] (run_firstCells_none w.drew i0.size 0 0 0) n (by omega) (by omega) (by omega) (by omega) (by rw [hb0]; omega) (growslice_fits (by omega) (by rw [hb0]; omega))
  rw [Nat.zero_add] at hr
  have hG1 := grownCap_ge w n 0 3
  have hG2 := grownCap_le_maxLen w n 0 3 (by unfold maxLen; omega)
  generalize grownCap w n 0 3 = G at *
  have HU : Hid (IU w (.slice (some ⟨w.heap.size, 0, none⟩) 0 G) [] (w.drew.alloc (.cells (([] : List Value).toArray ++ Builtin.zeroCells (Value.int .i64 0).cells n ++ Builtin.zeroCells (Value.int .i64 0).cells (G - n)) 3))) := Lib.hid (by
    refine ⟨⟨World.ownsRow_made (e := 3) (size := 1) w.drew _ G (Nat.le_refl _) hG2 ?_, fun k hk => ?_⟩, below_up ((Below.refl w.heap.size w).drew) (below_alloc w.drew _)⟩
    · simp [Builtin.zeroCells, Value.cells]; omega
    · simp [Value.ownBlock] at hk; simp; omega)
  have h2 : ¬ ((n : Int) < 0) := by omega
  have h3 : (0 : Int) < (n : Int) := by omega
  have HG1 := Lib.hid hG1
  unfold maxLen at hG2
  generalize w.drew.alloc (.cells (([] : List Value).toArray ++ Builtin.zeroCells (Value.int .i64 0).cells n ++ Builtin.zeroCells (Value.int .i64 0).cells (G - n)) 3) = W1 at *
  have HR := Lib.hid hr
  clear hr
  go_enter Try.func110, Try.ntmps110
  go_wp2_with (at_builtin; refine wpList_append_run _ rfl _ _ _ _ rfl _ _ rfl rfl _ _ HR.out ?_)
  go_ret
  exact ⟨G, HG1.out, rfl, HU.out⟩

/-- The first i lists, one behind the other. -/
def catL (xss : List (List Int)) : Nat → List Int
  | 0 => []
  | i + 1 => catL xss i ++ gr xss i
theorem catL_len (xss : List (List Int)) (h : ∀ p, p < xss.length → (gr xss p).length ≤ 3) : ∀ {i}, i ≤ xss.length → (catL xss i).length ≤ 3 * i
  | 0, _ => by simp [catL]
  | i + 1, hi => by
    have := catL_len xss h (i := i) (by omega)
    have := h i (by omega)
    rw [catL, List.length_append]; omega
theorem catL_bd {xss : List (List Int)} (h : ∀ p, p < xss.length → ∀ x ∈ gr xss p, -1000000 ≤ x ∧ x ≤ 1000000) : ∀ {i}, i ≤ xss.length → ∀ x ∈ catL xss i, -1000000 ≤ x ∧ x ≤ 1000000
  | 0, _, x, hx => by simp [catL] at hx
  | i + 1, hi, x, hx => by
    rcases List.mem_append.1 hx with hx | hx
    · exact catL_bd h (i := i) (by omega) x hx
    · exact h i (by omega) x hx

set_option maxRecDepth 100000 in
set_option maxHeartbeats 2000000 in
theorem Concat_any (A : Option Addr) (n c : Nat) (xss : List (List Int)) (w : World) (hx : IntRows w A n c xss) (hn : n ≤ 8) (hl : ∀ p, p < xss.length → (gr xss p).length ≤ 3) (hp0 : ∀ p, p < xss.length → 0 < (gr xss p).length) (hb : ∀ p, p < xss.length → ∀ x ∈ gr xss p, -1000000 ≤ x ∧ x ≤ 1000000) (h1 : 1 ≤ (catL xss n).length) :
    Calls Try.prog 99 #[.slice A n c] w (NewI w (catL xss n)) := by
  have HX := Lib.hid hx
  have HL := Lib.hid hl
  have HPP := Lib.hid hp0
  have LX := Lib.hid hx.len
  have HCL := Lib.hid (fun i (hi : i ≤ n) => catL_len xss hl (i := i) (by rw [LX.out]; exact hi))
  have HCB := Lib.hid (fun i (hi : i ≤ n) => catL_bd hb (i := i) (by rw [LX.out]; exact hi))
  have HZ : Hid ((catL xss 0).length = 0 ∧ catL xss 0 = []) := Lib.hid ⟨rfl, rfl⟩
  clear hx hl hb hp0
  go_enter Try.func99, Try.ntmps99
  go_wp2
  go_loop [3, 11] (fun s i => ∃ k : Nat, k ≤ n ∧ i = .int .i64 k ∧ s = .int .i64 (catL xss k).length) (fun _ i => n - (intOf i).toNat)
  case atStart => exact ⟨0, Nat.zero_le _, rfl, by rw [HZ.out.1]; rfl⟩
  case round =>
    obtain ⟨k, hk, rfl, rfl⟩ := hrel
    by_cases hlt : k < n
    · obtain ⟨b, o, rfl, hc⟩ := HX.out.at_ (by omega)
      obtain ⟨R, cc, c1, hR⟩ := hc k hlt
      have hb1 := HCL.out k hk
      have hb2 := HL.out k (by rw [LX.out]; exact hlt)
      have HS : Hid ((catL xss (k + 1)).length = (catL xss k).length + (gr xss k).length) := Lib.hid (by rw [catL, List.length_append])
      have hnn : ¬ (((catL xss k).length : Int) + ((gr xss k).length : Int) < 0) := by omega
      clear hc hR
      generalize (catL xss k).length = L at *
      generalize (gr xss k).length = M at *
      go_wp2
      go_round
      case rel => exact ⟨k + 1, by omega, by go_num, by rw [HS.out]; go_num⟩
      case measure => simp [intOf]; omega
    · obtain rfl : k = n := by omega
      have HG := Lib.hid (Grow_any (catL xss k).length w h1 (by have := HCL.out k (Nat.le_refl k); omega))
      go_wp2_with fail
      refine HG.out.mono ?_
      rintro e w1 ⟨G, hG, rfl, hu⟩
      have HU := Lib.hid hu
      clear hu hG HG
      rw [← HZ.out.2] at HU
      go_wp2
      go_loopw [6, 27] (fun v i wr => ∃ p : Nat, p ≤ k ∧ i = .int .i64 p ∧ Hid (IU w v (catL xss p) wr)) (fun _ i _ => k - (intOf i).toNat)
      case atStart => exact ⟨0, Nat.zero_le _, rfl, HU⟩
      case round =>
        clear HU
        obtain ⟨p, hp, rfl, HU⟩ := hrel
        obtain ⟨Av, cv, rfl⟩ := HU.out.bi.form
        by_cases hlp : p < k
        · obtain ⟨b, o, rfl, hc⟩ := HX.out.at_ (by omega)
          obtain ⟨R, cc, c1, hR⟩ := hc p hlp
          have d1 := Keep.below HU.out.up _ _ c1
          have HR := Lib.hid (hR.keep (Keep.below HU.out.up))
          have HML := Lib.hid (HCL.out p hp)
          have HRL := Lib.hid (HL.out p (by rw [LX.out]; exact hlp))
          have HS : Hid (catL xss (p + 1) = catL xss p ++ gr xss p) := Lib.hid rfl
          have HP0 := Lib.hid (HPP.out p (by rw [LX.out]; exact hlp))
          clear hc c1 hR
          generalize gr xss p = r at *
          generalize catL xss p = ys at *
          have HOW := Lib.hid (show wr.ownsRow w.heap.size 3 1 (.slice Av ys.length cv) ys.length (ys.map iv) from HU.out.bi.own)
          have hwz := HU.out.up.size
          obtain ⟨i0, hi0, hz0, hz1, hz2⟩ := info_parts Try.info_int
          · obtain ⟨b', o', rfl, hcr⟩ := HR.out.at_ HP0.out
            have HCR := Lib.hid hcr
            clear hcr
            go_wp2_with (at_builtin; refine wpList_append_own_at _ rfl _ _ 32 rfl w.heap.size 3 i0 (.int .i64 0) 1 8 Try.underlying32 hi0 hz0 hz1 hz2 rfl (by decide) _ ys.length (ys.map iv) rfl HOW.out ⟨b', o', none⟩ r.length cc (r.map iv) rfl ?c1 ?c2 ?c3 ?c4 ?c5 ?c6 ?_)
            case c1 => simp
            case c2 => have := news_take (j := r.length) rfl HCR.out; rw [List.take_length] at this; exact this
            case c3 => exact ones_map _
            case c4 => have := HML.out; have := HRL.out; unfold maxLen; omega
            case c5 => have := HML.out; have := HRL.out; omega
            case c6 => exact hwz
            intro v' w5 hown' hgrow _ _
            have HU5 := Lib.hid (HU.out.pushs hown' hgrow)
            clear HOW hown' hgrow HU d1 HR HCR
            go_wp2
            go_roundw
            case rel => exact ⟨p + 1, by omega, by go_num, Lib.hid (by rw [HS.out]; exact HU5.out)⟩
            case measure => simp [intOf]; omega
        · obtain rfl : p = k := by omega
          have HN := Lib.hid (HU.out.new (by have := HCL.out p (Nat.le_refl p); omega) (fun y hy => by have := HCB.out p (Nat.le_refl p) y hy; omega))
          go_wp2
          go_ret
          exact HN.out
/-- Whether one number is below 0, and another one above. -/
def bothB (xs : List Int) : Bool := decide (lst xs < 0) && decide (0 < mxl xs)
set_option maxHeartbeats 1000000 in
theorem haveBothSigns_any (A : Option Addr) (n c : Nat) (xs : List Int) (w : World) (hx : Ints w A n c xs) (h0 : 0 < n) :
    Calls Try.prog 98 #[.slice A n c] w fun e w' => e = .returned (.bool (bothB xs)) ∧ Quiet w w' := by
  have HX := Lib.hid hx
  have HC := Lib.hid (Min_any A n c xs w hx h0)
  clear hx
  by_cases hm : lst xs < 0
  · have hd : decide (lst xs < 0) = true := by simpa using hm
    have HE : Hid (bothB xs = decide (0 < mxl xs)) := Lib.hid (by unfold bothB; rw [hd, Bool.true_and])
    generalize lst xs = L at *
    go_enter Try.func98, Try.ntmps98
    go_wp2_with fail
    refine HC.out.mono ?_
    rintro e w2 ⟨rfl, q, rfl⟩
    have HC2 := Lib.hid (Max_any A n c xs _ (HX.out.keep (Keep.drewN w q)) h0)
    clear HC
    by_cases hx : 0 < mxl xs
    · have hd2 : decide (0 < mxl xs) = true := by simpa using hx
      rw [hd2] at HE
      generalize mxl xs = M at *
      go_wp2_with fail
      refine HC2.out.mono ?_
      rintro e w3 ⟨rfl, q2, rfl⟩
      go_wp2
      go_ret
      exact ⟨ret_bool HE.out.symm, ⟨_, rfl⟩⟩
    · have hd2 : decide (0 < mxl xs) = false := by simpa using hx
      rw [hd2] at HE
      generalize mxl xs = M at *
      go_wp2_with fail
      refine HC2.out.mono ?_
      rintro e w3 ⟨rfl, q2, rfl⟩
      go_wp2
      go_ret
      exact ⟨ret_bool HE.out.symm, ⟨_, rfl⟩⟩
  · have hd : decide (lst xs < 0) = false := by simpa using hm
    have HE : Hid (bothB xs = false) := Lib.hid (by unfold bothB; rw [hd, Bool.false_and])
    generalize lst xs = L at *
    go_enter Try.func98, Try.ntmps98
    go_wp2_with fail
    refine HC.out.mono ?_
    rintro e w2 ⟨rfl, q, rfl⟩
    clear HC
    go_wp2
    go_ret
    exact ⟨ret_bool HE.out.symm, ⟨_, rfl⟩⟩
end Go.Proofs.Ytgnbmanlpppdoaa

/- Signs of the sums of cofactors, as both programs ask for them. Plain. -/
namespace Go.Proofs.Ytgnbmanlpppdoaa
open V (sumN detN rowC colC cofN minorN skip sgn Asc Kern)

theorem mn_le {xs : List Int} : ∀ {k j : Nat}, j ≤ k → mn xs k ≤ gi xs j
  | 0, j, h => by obtain rfl : j = 0 := by omega
                  exact Int.le_refl _
  | k + 1, j, h => by
    rw [mn]
    by_cases e : j = k + 1
    · subst e; omega
    · have := mn_le (xs := xs) (k := k) (j := j) (by omega); omega
theorem mn_mem {xs : List Int} : ∀ k, ∃ j, j ≤ k ∧ mn xs k = gi xs j
  | 0 => ⟨0, Nat.le_refl _, rfl⟩
  | k + 1 => by
    obtain ⟨j, hj, e⟩ := mn_mem (xs := xs) k
    rw [mn]
    by_cases h : mn xs k ≤ gi xs (k + 1)
    · exact ⟨j, by omega, by omega⟩
    · exact ⟨k + 1, Nat.le_refl _, by omega⟩
theorem bothB_false {xs : List Int} (h0 : 0 < xs.length) : bothB xs = false ↔ (∀ p, p < xs.length → 0 ≤ gi xs p) ∨ ∀ p, p < xs.length → gi xs p ≤ 0 := by
  unfold bothB lst mxl
  rw [Bool.and_eq_false_iff, decide_eq_false_iff_not, decide_eq_false_iff_not]
  constructor
  · rintro (h | h)
    · exact .inl fun p hp => by have := mn_le (xs := xs) (k := xs.length - 1) (j := p) (by omega); omega
    · exact .inr fun p hp => by have := mx_ge xs (k := xs.length - 1) (j := p) (by omega); omega
  · rintro (h | h)
    · obtain ⟨j, hj, e⟩ := mn_mem (xs := xs) (xs.length - 1)
      exact .inl (by have := h j (by omega); omega)
    · obtain ⟨j, hj, e⟩ := mx_at xs (xs.length - 1)
      exact .inr (by have := h j (by omega); omega)
theorem gi_app_l {xs ys : List Int} {p : Nat} (h : p < xs.length) : gi (xs ++ ys) p = gi xs p := by
  rw [gi_get h, gi_get (by simp; omega), List.getElem_append_left h]
theorem gi_app_r {xs ys : List Int} {p : Nat} (h : p < ys.length) : gi (xs ++ ys) (xs.length + p) = gi ys p := by
  rw [gi_get h, gi_get (by simp; omega), List.getElem_append_right (by omega)]; congr 1; omega
theorem sgn_app {xs ys : List Int} {P : Int → Prop} : (∀ p, p < (xs ++ ys).length → P (gi (xs ++ ys) p)) ↔ (∀ p, p < xs.length → P (gi xs p)) ∧ ∀ p, p < ys.length → P (gi ys p) := by
  rw [List.length_append]
  constructor
  · intro h
    exact ⟨fun p hp => by rw [← gi_app_l (ys := ys) hp]; exact h p (by omega), fun p hp => by rw [← gi_app_r (xs := xs) hp]; exact h _ (by omega)⟩
  · rintro ⟨h1, h2⟩ p hp
    by_cases e : p < xs.length
    · rw [gi_app_l e]; exact h1 p e
    · obtain ⟨q, rfl⟩ : ∃ q, p = xs.length + q := ⟨p - xs.length, by omega⟩
      rw [gi_app_r (by omega)]; exact h2 q (by omega)

theorem rowC_det0 {k : Nat} (h1 : 1 ≤ k) (hk : k ≤ 3) (f : Nat → Nat → Int) (h : ∀ p, p < k → rowC k f p = 0) : detN k f = 0 := by
  have : k = 1 ∨ k = 2 ∨ k = 3 := by omega
  rcases this with rfl | rfl | rfl
  · have := h 0 (by omega)
    simp [rowC, sumN, cofN, sgn, detN] at this
  · have a := h 0 (by omega)
    have b := h 1 (by omega)
    simp [rowC, sumN, cofN, sgn, detN, minorN, skip] at a b ⊢
    grind
  · have a := h 0 (by omega)
    have b := h 1 (by omega)
    have c := h 2 (by omega)
    obtain ⟨e0, e1, e2⟩ := V.rowC3 f
    have e : detN 3 f = rowC 3 f 0 * f 0 0 + rowC 3 f 1 * f 1 0 + rowC 3 f 2 * f 2 0 := by rw [V.det3, e0, e1, e2]; grind
    rw [e, a, b, c]; omega
theorem colC_det0 {k : Nat} (h1 : 1 ≤ k) (hk : k ≤ 3) (f : Nat → Nat → Int) (h : ∀ p, p < k → colC k f p = 0) : detN k f = 0 := by
  have : k = 1 ∨ k = 2 ∨ k = 3 := by omega
  rcases this with rfl | rfl | rfl
  · have := h 0 (by omega)
    simp [colC, sumN, cofN, sgn, detN] at this
  · have a := h 0 (by omega)
    have b := h 1 (by omega)
    simp [colC, sumN, cofN, sgn, detN, minorN, skip] at a b ⊢
    grind
  · have a := h 0 (by omega)
    have b := h 1 (by omega)
    have c := h 2 (by omega)
    obtain ⟨e0, e1, e2⟩ := V.colC3 f
    have e : detN 3 f = colC 3 f 0 * f 0 0 + colC 3 f 1 * f 0 1 + colC 3 f 2 * f 0 2 := by rw [V.det3, e0, e1, e2]; grind
    rw [e, a, b, c]; omega
theorem kXY_sum {a : List (List Int)} {k : Nat} (hk : k ≤ 3) (r s : Nat → Nat) : sumN (gi (kX a r s k)) k = sumN (gi (kY a r s k)) k := by
  rw [sumN_congr (f := gi (kX a r s k)) (g := rowC k (kf a r s)) fun p hp => by unfold kX; rw [gi_cofL hp],
    sumN_congr (f := gi (kY a r s k)) (g := colC k (kf a r s)) fun p hp => by unfold kY; rw [gi_cofL hp, rowC_tr hk]]
  exact sumN_swap (fun i j => cofN k (kf a r s) i j) k k
/-- The one test is the other two. -/
theorem sgn_ok {a : List (List Int)} {k : Nat} {r s : Nat → Nat} (h1 : 1 ≤ k) (hk : k ≤ 3) (hd : detN k (kf a r s) ≠ 0) : bothB (kX a r s k ++ kY a r s k) = false ↔ ClrP (kX a r s k) ∧ ClrP (kY a r s k) := by
  have lx := kX_len a r s k
  have ly := kY_len a r s k
  have nx : ∃ p, p < (kX a r s k).length ∧ gi (kX a r s k) p ≠ 0 := by
    apply Classical.byContradiction; intro hn
    exact hd (rowC_det0 h1 hk _ fun p hp => by
      have h : ¬ gi (kX a r s k) p ≠ 0 := fun e => hn ⟨p, by omega, e⟩
      unfold kX at h; rw [gi_cofL hp] at h; omega)
  have ny : ∃ p, p < (kY a r s k).length ∧ gi (kY a r s k) p ≠ 0 := by
    apply Classical.byContradiction; intro hn
    exact hd (colC_det0 h1 hk _ fun p hp => by
      have h : ¬ gi (kY a r s k) p ≠ 0 := fun e => hn ⟨p, by omega, e⟩
      unfold kY at h; rw [gi_cofL hp, rowC_tr hk] at h; omega)
  rw [bothB_false (by rw [List.length_append]; omega), sgn_app (P := fun x => 0 ≤ x), sgn_app (P := fun x => x ≤ 0)]
  constructor
  · rintro (⟨p, q⟩ | ⟨p, q⟩)
    · exact ⟨⟨nx, .inl p⟩, ny, .inl q⟩
    · exact ⟨⟨nx, .inr p⟩, ny, .inr q⟩
  · rintro ⟨⟨_, hx⟩, _, hy⟩
    have e := kXY_sum (a := a) hk r s
    have pos : ∀ X : List Int, X.length = k → (∃ p, p < X.length ∧ gi X p ≠ 0) → (∀ p, p < X.length → 0 ≤ gi X p) → 0 < sumN (gi X) k := fun X hl ⟨p, hp, hn⟩ h =>
      sumN_pos (fun i hi => h i (by omega)) ⟨p, by omega, by have := h p hp; omega⟩
    have neg : ∀ X : List Int, X.length = k → (∃ p, p < X.length ∧ gi X p ≠ 0) → (∀ p, p < X.length → gi X p ≤ 0) → sumN (gi X) k < 0 := fun X hl ⟨p, hp, hn⟩ h => by
      have := sumN_pos (f := fun i => (-1) * gi X i) (n := k) (fun i hi => by have := h i (by omega); omega) ⟨p, by omega, by have := h p hp; omega⟩
      rw [sumN_mul] at this; omega
    rcases hx with hx | hx <;> rcases hy with hy | hy
    · exact .inl ⟨hx, hy⟩
    · have := pos _ lx nx hx; have := neg _ ly ny hy; omega
    · have := neg _ lx nx hx; have := pos _ ly ny hy; omega
    · exact .inr ⟨hx, hy⟩
theorem catL_two (xs ys : List Int) : catL [xs, ys] 2 = xs ++ ys := by simp [catL, gr]
end Go.Proofs.Ytgnbmanlpppdoaa

/- Members of sets; numbers put to their places: by the program. -/
namespace Go.Proofs.Ytgnbmanlpppdoaa
open Go.RowKit

theorem and_one : ∀ s, s < 32 → ∀ k, k < 6 → (bits BinOp.and IntKind.i64 (((s : Nat) : Int) / 2 ^ k) 1 == 1) = (s / 2 ^ k % 2 == 1) := by decide +kernel
theorem shr_pos : ∀ s, s < 32 → ∀ k, k < 6 → decide (0 < ((s : Nat) : Int) / 2 ^ k) = decide (0 < s / 2 ^ k) := by decide +kernel
theorem memL_end : ∀ s, s < 32 → ∀ k, k < 6 → ¬ 0 < s / 2 ^ k → memL s k = memL s 5 := by decide +kernel
theorem memL_53 : ∀ s, s < 8 → memL s 5 = memL s 3 := by decide +kernel
set_option maxRecDepth 100000 in
set_option maxHeartbeats 1000000 in
theorem membersOf5_any (s : Nat) (w : World) (hs : s < 32) : Calls Try.prog 76 #[.int .i64 s] w (NewI w (memL s 5)) := by
  have HS0 := Lib.hid (IU.nil w)
  have HA := Lib.hid (and_one s hs)
  have HP := Lib.hid (shr_pos s hs)
  have HE := Lib.hid (memL_end s hs)
  have H5 := Lib.hid (show s / 2 ^ 5 = 0 from Nat.div_eq_of_lt (by omega))
  go_enter Try.func76, Try.ntmps76
  go_wp2
  go_loopw [3, 4] (fun v i wr => ∃ k : Nat, k ≤ 5 ∧ i = .int .i64 k ∧ Hid (IU w v (memL s k) wr)) (fun _ i _ => 5 - (intOf i).toNat)
  case atStart => exact ⟨0, Nat.zero_le _, rfl, HS0⟩
  case round =>
    clear HS0
    obtain ⟨k, hk, rfl, HI⟩ := hrel
    obtain ⟨Av, cv, rfl⟩ := HI.out.bi.form
    have hpos := HP.out k (by omega)
    by_cases hlt : 0 < s / 2 ^ k
    · have hk5 : k < 5 := by
        rcases Nat.lt_or_ge k 5 with h | h
        · exact h
        · obtain rfl : k = 5 := by omega
          rw [H5.out] at hlt; omega
      have hand := HA.out k (by omega)
      rw [show decide (0 < s / 2 ^ k) = true from decide_eq_true hlt] at hpos
      clear hlt
      by_cases hp : s / 2 ^ k % 2 = 1
      · have HCS := Lib.hid (memL_yes hp)
        have HML := Lib.hid (memL_le s k)
        rw [show (s / 2 ^ k % 2 == 1) = true by simpa using hp] at hand
        clear hp
        have hb := below_alloc wr (.cells #[iv (k : Int)] 3)
        have HB4 := Lib.hid (HI.out.bi.below hb).own
        have HN := Lib.hid (cell_one_new wr (iv (k : Int)) 3)
        have hwz := HI.out.up.size
        clear hb
        generalize memL s k = ys at *
        obtain ⟨i0, hi0, hz0, hz1, hz2⟩ := info_parts Try.info_int
        go_wp2_with (at_builtin; refine wpList_append_own_at _ rfl _ _ 32 rfl w.heap.size 3 i0 (.int .i64 0) 1 8 Try.underlying32 hi0 hz0 hz1 hz2 rfl (by decide) _ ys.length (ys.map iv) rfl HB4.out ⟨wr.heap.size, 0, none⟩ 1 1 [iv (k : Int)] rfl rfl ?c1 ?c2 ?c3 ?c4 ?c5 ?_)
        case c1 => exact HN.out
        case c2 => intro u hu; simp at hu; subst hu; rfl
        case c3 => have := HML.out; unfold maxLen; omega
        case c4 => have := HML.out; omega
        case c5 => simp; omega
        intro v' w5 hown' hgrow _ hat
        have HI5 := Lib.hid (HI.out.push hown' hgrow (by simpa using hat))
        clear HB4 HN hown' hgrow hat HI hand hpos
        go_wp2
        go_roundw
        case rel => exact ⟨k + 1, by omega, by go_num, Lib.hid (by rw [HCS.out]; exact HI5.out)⟩
        case measure => simp [intOf]; omega
      · have HCS := Lib.hid (memL_no hp)
        rw [show (s / 2 ^ k % 2 == 1) = false by simpa using hp] at hand
        clear hp
        go_wp2
        go_roundw
        case rel => exact ⟨k + 1, by omega, by go_num, Lib.hid (by rw [HCS.out]; exact HI.out)⟩
        case measure => simp [intOf]; omega
    · have HEQ := Lib.hid (HE.out k (by omega) hlt)
      rw [show decide (0 < s / 2 ^ k) = false from decide_eq_false hlt] at hpos
      have HNW := Lib.hid (Eq.mp (congrArg (fun ys => NewI w ys (.returned (.slice Av (memL s k).length cv)) wr) HEQ.out) (HI.out.new (by have := memL_le s k; omega) (memb_bd s k (by omega))))
      clear hlt HEQ HI
      go_wp2
      go_ret
      exact HNW.out
theorem membersOf_any (s : Nat) (w : World) (hs : s < 8) : Calls Try.prog 76 #[.int .i64 s] w (NewI w (memL s 3)) := memL_53 s hs ▸ membersOf5_any s w (by omega)

set_option maxRecDepth 100000 in
set_option maxHeartbeats 2000000 in
theorem spreadI_any (n k cx cy : Nat) (X Y : Option Addr) (xs : List Int) (r : Nat → Nat) (w : World) (hx : Ints w X k cx xs) (hy : Pl w Y k cy r n) (hn : n ≤ 3) (hk3 : k ≤ 3) (hm : ∀ p, p < xs.length → Mid (gi xs p)) (hc : ClrP xs) :
    Calls Try.prog 100 #[.slice X k cx, .slice Y k cy, .int .i64 n] w (NewI w (shr n r xs k)) := by
  have HX := Lib.hid hx
  have HY := Lib.hid hy
  have HM := Lib.hid hm
  have HLX := Lib.hid hx.len
  have hg0 : 0 < gcdL xs k := by have := clr_pos hc; rwa [hx.len] at this
  have HS0 := Lib.hid (SU.start w n (by omega))
  have hmk := run_make_row' (P := Try.prog) 32 3 (.int .i64 0) 8 Try.underlying32 Try.info3 rfl .i64 .i64 n (by omega) (by omega)
  have HC := Lib.hid (fun W (k : Keep w W) => commonFactor_any _ _ _ _ W (hx.keep k) hm)
  clear hx hy hm hc
  have HSH : Hid (shr n r xs k = putL n r (clrL xs (gcdL xs k) k) k) := Lib.hid (by unfold shr; rw [HLX.out])
  rw [HSH.out]
  have HGM := gcdL_mid HM.out (k := k) (Nat.le_of_eq HLX.out.symm)
  obtain ⟨mg1, mg2⟩ := HGM
  clear HSH
  generalize gcdL xs k = G at *
  have hgz : (G == 0) = false := by simp; omega
  have hgn : ¬ (G = 0) := by omega
  have HZ : Hid (List.replicate n 0 = putL n r (clrL xs G k) 0) := Lib.hid rfl
  rw [HZ.out] at HS0
  clear HZ
  go_enter Try.func100, Try.ntmps100
  go_wp2_with fail
  refine (HC.out _ (Keep.below HS0.out.up)).mono ?_
  rintro e w2 ⟨rfl, hq⟩
  have HS1 := Lib.hid (HS0.out.qu hq)
  clear hq HC HS0 hmk
  go_wp2
  go_loopw [17] (fun i wr => ∃ p : Nat, p ≤ k ∧ i = .int .i64 p ∧ Hid (SU w n (putL n r (clrL xs G k) p) wr)) (fun i _ => k - (intOf i).toNat)
  case atStart => exact ⟨0, Nat.zero_le _, rfl, HS1⟩
  case round =>
    clear HS1
    obtain ⟨p, hp, rfl, HS⟩ := hrel
    by_cases hlt : p < k
    · obtain ⟨bx, ox, rfl, hcx⟩ := HX.out.at_ (by omega)
      obtain ⟨by_, oy, rfl, hcy⟩ := HY.out.ints.at_ (by omega)
      have c1 := hcx p hlt
      have c2 := hcy p hlt
      rw [gi_lstN hlt] at c2
      have hrp := HY.out.lt p hlt
      have d1 := Keep.below HS.out.up _ _ c1
      have d2 := Keep.below HS.out.up _ _ c2
      have d3 := HS.out.cell hrp
      have d4 := HS.out.frozen hrp
      have hmx := HM.out p (by rw [HLX.out]; exact hlt)
      have HE : Hid ((putL n r (clrL xs G k) p).set (r p) (max (gi xs p) (-(gi xs p)) / G) = putL n r (clrL xs G k) (p + 1)) := Lib.hid (by rw [putL, gi_clrL hlt])
      have HV := Lib.hid (show -1000000000000000 ≤ max (gi xs p) (-(gi xs p)) / G ∧ max (gi xs p) (-(gi xs p)) / G ≤ 1000000000000000 from by
        unfold Mid at hmx
        have h1 : 0 ≤ max (gi xs p) (-(gi xs p)) / G := Int.ediv_nonneg (by omega) (by omega)
        have h2 : max (gi xs p) (-(gi xs p)) / G ≤ max (gi xs p) (-(gi xs p)) := Int.ediv_le_self _ (by omega)
        omega)
      obtain ⟨m1, m2⟩ := hmx
      clear hcx hcy c1 c2
      generalize r p = R at *
      generalize gi xs p = x at *
      have HW : Hid ((if x < -x then -x else x) / G = max x (-x) / G) := Lib.hid (by congr 1; split <;> omega)
      have HN := Lib.hid (show SU w n (putL n r (clrL xs G k) (p + 1)) (wr.setCell ⟨w.heap.size, R, none⟩ (.int .i64 ((if x < -x then -x else x) / G))).drew from by
        rw [HW.out, ← HE.out]
        exact (HS.out.set hrp (v := max x (-x) / G) (by have := HV.out; omega)).qu ⟨1, rfl⟩)
      generalize gi (putL n r (clrL xs G k) p) R = y at *
      clear HS HE HV
      go_wp2
      go_region
      all_goals
        clear d1 d2 d3 d4
        go_wp2
        go_roundw
        case rel => exact ⟨p + 1, by omega, by go_num, HN⟩
        case measure => simp [intOf]; omega
    · obtain rfl : p = k := by omega
      have HNW := Lib.hid (HS.out.new (putL_len _ _ _ _).symm)
      go_wp2
      go_ret
      exact HNW.out
end Go.Proofs.Ytgnbmanlpppdoaa

/- Best shares by a part of a table, by the model. -/
namespace Go.Proofs.Ytgnbmanlpppdoaa
open Go.RowKit
open V (sumN detN rowC colC cofN minorN skip sgn Asc Kern)

/-- Shares by a part, and that they are best; or that there are none. -/
def NewK (w : World) (a : List (List Int)) (k : Nat) (r s : Nat → Nat) (e : Ending) (w' : World) : Prop :=
  (KerP a k r s ∧ ∃ A1 c1 A2 c2, e = .returned (.tuple #[.slice A1 a.length c1, .slice A2 (gr a 0).length c2, .bool true]) ∧ Ints w' A1 a.length c1 (shr a.length r (kX a r s k) k) ∧
    Ints w' A2 (gr a 0).length c2 (shr (gr a 0).length s (kY a r s k) k) ∧ Below w.heap.size w w') ∨
  (¬ KerP a k r s ∧ ∃ v1 v2, e = .returned (.tuple #[v1, v2, .bool false]) ∧ Below w.heap.size w w')
theorem flip_tr {xss : List (List Int)} {k : Nat} {f : Nat → Nat → Int} (h : Sq k xss f) : Sq k (flip xss k k) (trN f) :=
  ⟨flip_len _ _ _, fun p hp => by rw [gr_flip hp]; simp, fun p q hp hq => by
    unfold g2; rw [gr_flip hp, gi_col hq]; exact h.eq q p hq hp⟩
theorem Pl.keep {w w' : World} {X k c r n} (h : Pl w X k c r n) (q : Keep w w') : Pl w' X k c r n := ⟨h.ints.keep q, h.lt⟩

/-- What cleared answers, with its flag as a letter. -/
def ClrV (w' : World) (xs : List Int) (ok : Bool) (v : Value) : Prop :=
  (ok = true ∧ ClrP xs ∧ ∃ A c, v = .slice A xs.length c ∧ Ints w' A xs.length c (clrL xs (gcdL xs xs.length) xs.length)) ∨ (ok = false ∧ ¬ ClrP xs)
theorem NewC.uni {w w' : World} {xs : List Int} {e : Ending} (h : NewC w xs e w') : ∃ ok v, e = .returned (.tuple #[v, .bool ok]) ∧ Below w.heap.size w w' ∧ ClrV w' xs ok v := by
  rcases h with ⟨h1, A, n, c, g, rfl, rfl, ho, hb⟩ | ⟨h1, rfl, hb⟩
  · exact ⟨true, _, rfl, hb, .inl ⟨rfl, h1, A, c, rfl, ho.ints⟩⟩
  · exact ⟨false, _, rfl, hb, .inr ⟨rfl, h1⟩⟩
theorem ClrV.keep {w' w2 : World} {xs : List Int} {ok : Bool} {v : Value} (h : ClrV w' xs ok v) (k : Keep w' w2) : ClrV w2 xs ok v := by
  rcases h with ⟨h1, h2, A, c, h3, h4⟩ | h
  · exact .inl ⟨h1, h2, A, c, h3, h4.keep k⟩
  · exact .inr h
theorem mid_of {x : Int} (h : -648 ≤ x ∧ x ≤ 648) : Mid x := by unfold Mid; omega

set_option maxRecDepth 100000 in
set_option maxHeartbeats 3200000 in
theorem kernel_any (A X Y : Option Addr) (n c k cx cy : Nat) (a : List (List Int)) (r s : Nat → Nat) (w : World) (ha : IntRows w A n c a) (hv : VT a) (hx : Pl w X k cx r a.length) (hy : Pl w Y k cy s (gr a 0).length)
    (hk1 : 1 ≤ k) (hk3 : k ≤ 3) (hr : Asc a.length k r) (hs : Asc (gr a 0).length k s) :
    Calls Try.prog 87 #[.slice A n c, .slice X k cx, .slice Y k cy] w (NewK w a k r s) := by
  have HA := Lib.hid ha
  have HX := Lib.hid hx
  have HY := Lib.hid hy
  have HV := Lib.hid hv
  have HR := Lib.hid hr
  have HS := Lib.hid hs
  have HLEN := Lib.hid ha.len
  have hn1 := hv.n1
  have hn3 := hv.n3
  have hm1 := hv.m1
  have hm3 := hv.m3
  rw [ha.len] at hn1 hn3
  obtain ⟨b, o, rb, ro, cc, rfl, tab⟩ := ha.tab hv
  have HT := Lib.hid tab
  have hrow := tab.row 0 (by omega)
  simp only [Nat.add_zero] at hrow
  have HROW := Lib.hid hrow
  have HUP := Lib.hid (kf_up hv hr hs)
  clear ha hv hx hy hr hs tab hrow
  have HC := Lib.hid (part_any b o rb ro cc n (gr a 0).length c k k cx cy X Y a r s w HT.out (HLEN.out ▸ HX.out) HY.out hk3 hk3)
  go_enter Try.func87, Try.ntmps87
  go_wp2_with fail
  refine HC.out.mono ?_
  rintro e w1 ⟨A1, n1, c1, g1, rfl, hn1', ho, hb⟩
  have HSQ := Lib.hid (show Sq k (prtL a r s 18 k k) (kf a r s) from prtL_sq a r s 18 k)
  have HO1 := Lib.hid ho.rows
  have HB1 := Lib.hid hb
  obtain rfl : n1 = k := hn1'.trans HSQ.out.len
  clear hn1' ho hb HC
  have HC := Lib.hid (det_any n1 hk3 A1 c1 _ _ w1 HO1.out HSQ.out HUP.out.ab)
  by_cases hd : detN n1 (kf a r s) = 0
  · have HNO := Lib.hid (show ¬ KerP a n1 r s from fun h => h.det hd)
    rw [hd] at HC
    clear hd
    go_wp2_with fail
    refine HC.out.mono ?_
    rintro e w2 ⟨rfl, hb⟩
    have HB2 := Lib.hid (below_up HB1.out hb)
    clear hb HC HB1
    go_wp2
    refine bodyPost_ret (v := .tuple #[.slice none 0 0, .slice none 0 0, .bool false]) (by simp [results, Try.results87, go_sem]) rfl ?_
    exact .inr ⟨HNO.out, _, _, rfl, HB2.out⟩
  have HD := Lib.hid hd
  have hdz : (detN n1 (kf a r s) == 0) = false := by simpa using hd
  clear hd
  generalize hdd : detN n1 (kf a r s) = D at hdz HC
  clear hdd
  go_wp2_with fail
  refine HC.out.mono ?_
  rintro e w2 ⟨rfl, hb⟩
  have HB2 := Lib.hid (below_up HB1.out hb)
  have HO2 := Lib.hid (HO1.out.keep (Keep.below hb))
  clear hb HC HB1 HO1
  have HC := Lib.hid (cofactors_any A1 n1 c1 _ _ w2 HO2.out HSQ.out HUP.out.ab hk3)
  go_wp2_with fail
  refine HC.out.mono ?_
  rintro e w3 ⟨A3, n3, c3, g3, rfl, hn3', ho, hb⟩
  have HX3 := Lib.hid (show Ints w3 A3 n3 c3 (kX a r s n1) from ho.ints)
  have HB3 := Lib.hid (below_up HB2.out hb)
  have HO3 := Lib.hid (HO2.out.keep (Keep.below hb))
  obtain rfl : n3 = n1 := hn3'.trans (cofL_len _ _ _)
  clear hn3' ho hb HC HB2 HO2
  have HXB := Lib.hid (fun p hp => mid_of (kX_bd HV.out hk3 HR.out HS.out (p := p) hp))
  have HC := Lib.hid (cleared_any A3 n3 c3 _ w3 HX3.out HXB.out hk3)
  go_wp2_with fail
  refine HC.out.mono ?_
  rintro e w4 hcl
  obtain ⟨ok, vx, rfl, hb, hcv⟩ := hcl.uni
  have HCX := Lib.hid hcv
  have HB4 := Lib.hid (below_up HB3.out hb)
  have HO4 := Lib.hid (HO3.out.keep (Keep.below hb))
  clear hcl hcv hb HC HB3 HO3 HX3 HXB
  have HSM := Lib.hid (HSQ.out.small hk3 HUP.out.ab)
  have HC := Lib.hid (turnedS_any A1 n3 c1 n3 _ w4 HO4.out HSM.out (by omega) HSQ.out.even)
  go_wp2_with fail
  refine HC.out.mono ?_
  rintro e w5 ⟨A5, n5, c5, g5, rfl, hn5, ho, hb⟩
  have HO5 := Lib.hid ho.rows
  have HB5 := Lib.hid (below_up HB4.out hb)
  have HCX5 := Lib.hid (HCX.out.keep (Keep.below hb))
  have HSQT := Lib.hid (flip_tr HSQ.out)
  obtain rfl : n5 = n3 := hn5.trans HSQT.out.len
  clear hn5 ho hb HC HB4 HO4 HCX HSM
  have HC := Lib.hid (cofactors_any A5 n5 c5 _ _ w5 HO5.out HSQT.out HUP.out.tr.ab hk3)
  go_wp2_with fail
  refine HC.out.mono ?_
  rintro e w6 ⟨A6, n6, c6, g6, rfl, hn6, ho, hb⟩
  have HY6 := Lib.hid (show Ints w6 A6 n6 c6 (kY a r s n5) from ho.ints)
  have HB6 := Lib.hid (below_up HB5.out hb)
  have HCX6 := Lib.hid (HCX5.out.keep (Keep.below hb))
  obtain rfl : n6 = n5 := hn6.trans (cofL_len _ _ _)
  clear hn6 ho hb HC HB5 HO5 HCX5 HSQT HSQ
  have HYB := Lib.hid (fun p hp => mid_of (kY_bd HV.out hk3 HR.out HS.out (p := p) hp))
  have HC := Lib.hid (cleared_any A6 n6 c6 _ w6 HY6.out HYB.out hk3)
  go_wp2_with fail
  refine HC.out.mono ?_
  rintro e w7 hcl
  obtain ⟨fine, vy, rfl, hb, hcv⟩ := hcl.uni
  have HCY := Lib.hid hcv
  have HB7 := Lib.hid (below_up HB6.out hb)
  have HCX7 := Lib.hid (HCX6.out.keep (Keep.below hb))
  clear hcl hcv hb HC HB6 HCX6 HY6 HYB
  cases ok
  · have HNO := Lib.hid (show ¬ KerP a n6 r s from fun h => by
      rcases HCX7.out with ⟨h1, _⟩ | ⟨_, h1⟩
      · cases h1
      · exact h1 h.cx)
    clear HCX7 HCY
    go_wp2
    go_ret3
    exact .inr ⟨HNO.out, _, _, rfl, HB7.out⟩
  cases fine
  · have HNO := Lib.hid (show ¬ KerP a n6 r s from fun h => by
      rcases HCY.out with ⟨h1, _⟩ | ⟨_, h1⟩
      · cases h1
      · exact h1 h.cy)
    clear HCX7 HCY
    go_wp2
    go_ret3
    exact .inr ⟨HNO.out, _, _, rfl, HB7.out⟩
  obtain ⟨hcx, A8, c8, rfl, hix⟩ : ClrP (kX a r s n6) ∧ ∃ A c, vx = .slice A n6 c ∧ Ints w7 A n6 c (clrL (kX a r s n6) (gcdL (kX a r s n6) (kX a r s n6).length) (kX a r s n6).length) := by
    rcases HCX7.out with ⟨_, h1, A, c, h2, h3⟩ | ⟨h1, _⟩
    · rw [kX_len] at h2; exact ⟨h1, A, c, h2, by have := h3; rw [kX_len] at this ⊢; exact this⟩
    · cases h1
  obtain ⟨hcy, A9, c9, rfl, hiy⟩ : ClrP (kY a r s n6) ∧ ∃ A c, vy = .slice A n6 c ∧ Ints w7 A n6 c (clrL (kY a r s n6) (gcdL (kY a r s n6) (kY a r s n6).length) (kY a r s n6).length) := by
    rcases HCY.out with ⟨_, h1, A, c, h2, h3⟩ | ⟨h1, _⟩
    · rw [kY_len] at h2; exact ⟨h1, A, c, h2, by have := h3; rw [kY_len] at this ⊢; exact this⟩
    · cases h1
  have HCX := Lib.hid hcx
  have HCYP := Lib.hid hcy
  have HIX := Lib.hid hix
  have HIY := Lib.hid hiy
  clear hcx hcy hix hiy HCX7 HCY
  have HSH := Lib.hid (KerP.shares HV.out hk3 HR.out HS.out HCX.out HCYP.out)
  have HC := Lib.hid (spread_any n n6 c8 cx A8 X _ r w7 HIX.out (HLEN.out ▸ HX.out.keep (Keep.below HB7.out)) hn3 hk3)
  go_wp2_with fail
  refine HC.out.mono ?_
  rintro e w8 ⟨Ax, nx, dx, gx, rfl, hnx, ho, hb⟩
  have HSX := Lib.hid (show Ints w8 Ax nx dx (shr n r (kX a r s n6) n6) from ho.ints)
  have HB8 := Lib.hid (below_up HB7.out hb)
  have HIY8 := Lib.hid (HIY.out.keep (Keep.below hb))
  obtain rfl : nx = n := hnx.trans (putL_len _ _ _ _)
  clear hnx ho hb HC HB7 HIX HIY
  have hrow := Keep.below HB8.out _ _ HROW.out
  have HC := Lib.hid (spread_any (gr a 0).length n6 c9 cy A9 Y _ s w8 HIY8.out (HY.out.keep (Keep.below HB8.out)) hm3 hk3)
  go_wp2_with fail
  refine HC.out.mono ?_
  rintro e w9 ⟨Ay, ny, dy, gy, rfl, hny, ho, hb⟩
  have HSY := Lib.hid (show Ints w9 Ay ny dy (shr (gr a 0).length s (kY a r s n6) n6) from ho.ints)
  have HB9 := Lib.hid (below_up HB8.out hb)
  have HSX9 := Lib.hid (HSX.out.keep (Keep.below hb))
  have HNY := Lib.hid (show (gr a 0).length = ny from (hny.trans (putL_len _ _ _ _)).symm)
  clear hny ho hb HC HB8 HIY8 HSX hrow
  have HKE : Hid (KerP a n6 r s ↔ wlast a (shr nx r (kX a r s n6) n6) = (- (wlast (ntab a) (shr (gr a 0).length s (kY a r s n6) n6)).1, (wlast (ntab a) (shr (gr a 0).length s (kY a r s n6) n6)).2)) := Lib.hid (by
    rw [← HLEN.out]; exact ⟨fun h => h.eq, fun h => ⟨HD.out, HCX.out, HCYP.out, h⟩⟩)
  have HVX := Lib.hid (show VS (shr nx r (kX a r s n6) n6) a.length by have := HSH.out.1; rw [HLEN.out] at this ⊢; exact this)
  have HVY := Lib.hid HSH.out.2
  have HPOST : Hid (∀ W v, Ints W Ax nx dx (shr nx r (kX a r s n6) n6) → Ints W Ay ny dy (shr (gr a 0).length s (kY a r s n6) n6) → Below w.heap.size w W → v = pb (KerP a n6 r s) → NewK w a n6 r s (.returned (.tuple #[.slice Ax nx dx, .slice Ay ny dy, .bool v])) W) := Lib.hid (fun W v h1 h2 h3 h4 => by
    subst h4
    by_cases hk : KerP a n6 r s
    · rw [pb_true hk]
      refine .inl ⟨hk, Ax, dx, Ay, dy, by rw [HLEN.out, HNY.out], ?_, ?_, h3⟩
      · rw [HLEN.out]; exact h1
      · rw [HNY.out] at h2 ⊢; exact h2
    · rw [pb_false hk]
      exact .inr ⟨hk, _, _, rfl, h3⟩)
  clear HSH HCX HCYP HD
  generalize shr nx r (kX a r s n6) n6 = x at *
  generalize shr (gr a 0).length s (kY a r s n6) n6 = y at *
  have HC := Lib.hid (turnedS_any _ nx c (gr a 0).length a w9 (HA.out.keep (Keep.below HB9.out)) HV.out.small (by omega) HV.out.even)
  go_wp2_with fail
  refine HC.out.mono ?_
  rintro e w10 ⟨A4, n4, c4, g4, rfl, hn4, ho, hb⟩
  rw [← HLEN.out] at ho
  have HO4 := Lib.hid ho.rows
  have HB10 := Lib.hid (below_up HB9.out hb)
  have HX10 := Lib.hid (HSX9.out.keep (Keep.below hb))
  have HY10 := Lib.hid (HSY.out.keep (Keep.below hb))
  have HSM := Lib.hid (HV.out.small.flip HV.out.even HV.out.n1)
  clear hn4 ho hb HC HB9 HSX9 HSY
  have HC := Lib.hid (negated_any _ n4 c4 _ w10 HO4.out HSM.out)
  go_wp2_with fail
  refine HC.out.mono ?_
  rintro e w11 ⟨A5, n5, c5, g5, rfl, hn5, ho, hb⟩
  have HO5 := Lib.hid (show IntRows w11 A5 n5 c5 (ntab a) from ho.rows)
  have HB11 := Lib.hid (below_up HB10.out hb)
  have HX11 := Lib.hid (HX10.out.keep (Keep.below hb))
  have HY11 := Lib.hid (HY10.out.keep (Keep.below hb))
  clear hn5 ho hb HC HB10 HO4 HSM HX10 HY10
  have HVN := Lib.hid HV.out.ntab
  have HNL := Lib.hid HO5.out.len
  obtain ⟨b5, o5, rb5, ro5, cc5, rfl, tab5⟩ := HO5.out.tab HVN.out
  have HT5 := Lib.hid tab5
  have h5 : n5 = ny := by rw [← HNL.out, ntab_len, HNY.out]
  subst h5
  have HVY2 := Lib.hid (show VS y (ntab a).length by rw [ntab_len]; exact HVY.out)
  have HC := Lib.hid (worst_any b5 o5 rb5 ro5 cc5 n5 _ c5 dy Ay (ntab a) y _ w11 HT5.out HY11.out (HNL.out ▸ VT.pbx HVN.out HVY2.out) HVY.out.2.2)
  have HWN : Hid (wst (ntab a) y n5 (gr (ntab a) 0).length ((gr (ntab a) 0).length - 1) = wlast (ntab a) y) := Lib.hid (by unfold wlast; rw [HNL.out])
  rw [HWN.out] at HC
  clear tab5
  go_wp2_with fail
  refine HC.out.mono ?_
  rintro e w12 ⟨rfl, hb⟩
  have HB12 := Lib.hid (below_up HB11.out hb)
  have HX12 := Lib.hid (HX11.out.keep (Keep.below hb))
  have HY12 := Lib.hid (HY11.out.keep (Keep.below hb))
  have hPB := wlast_bd HVN.out HVY2.out
  clear hb HC HB11 HT5 HX11 HY11
  have hal := below_alloc w12 (.cells #[.int .i64 (wlast (ntab a) y).1, .int .i64 (wlast (ntab a) y).2] 28)
  have HBX := Lib.hid (below_up HB12.out hal).drew
  have HX13 := Lib.hid (HX12.out.keep (Keep.below hal.drew))
  have HY13 := Lib.hid (HY12.out.keep (Keep.below hal.drew))
  have HBK := Lib.hid (blk_new w12 28 #[.int .i64 (wlast (ntab a) y).1, .int .i64 (wlast (ntab a) y).2])
  clear HWN hal HX12 HY12
  generalize (wlast (ntab a) y).1 = P at *
  generalize (wlast (ntab a) y).2 = Q at *
  obtain ⟨⟨p1, p2⟩, p3, p4⟩ := hPB
  have HPX := Lib.hid (HLEN.out ▸ VT.pbx HV.out HVX.out)
  have c0 := blk_cell HBK.out (i := 0) (v := .int .i64 P) rfl
  have c1 := blk_cell HBK.out (i := 1) (v := .int .i64 Q) rfl
  go_wp2_with fail
  generalize w12.alloc (.cells #[.int .i64 P, .int .i64 Q] 28) = W6 at *
  generalize w12.heap.size = h6 at *
  have hz : h6 < W6.heap.size := blk_lt HBK.out
  have HBD := Lib.hid (show Blk W6.drew h6 28 #[.int .i64 P, .int .i64 Q] from HBK.out)
  clear HBK
  have hwr : IntKind.i64.wrap (-P) = -P := wrap_in64 (by omega)
  have HWC : Hid (∀ W, Keep w W → Ints W Ax nx dx x → Calls Try.prog 68 #[.slice (some ⟨b, o, none⟩) nx c, .slice Ax nx dx] W (Ret (.agg #[.int .i64 (wlast a x).1, .int .i64 (wlast a x).2]) W)) := Lib.hid (fun W k hxw => by
    have h := worst_any b o rb ro cc nx _ c dx Ax a x _ W (HT.out.keep k) hxw HPX.out HVX.out.2.2
    unfold wlast
    rw [HLEN.out]
    exact h)
  have HEQ : Hid (wlast a x = (-P, Q) ↔ (wlast a x).1 = -P ∧ (wlast a x).2 = Q) := Lib.hid ⟨fun h => by rw [h]; exact ⟨rfl, rfl⟩, fun h => Prod.ext h.1 h.2⟩
  by_cases e1 : (wlast a x).1 = -P
  · rw [e1] at HWC
    by_cases e2 : (wlast a x).2 = Q
    · rw [e2] at HWC
      have HR := Lib.hid (pb_true (HKE.out.2 (HEQ.out.2 ⟨e1, e2⟩)))
      clear e1 e2
      go_region_held3 (fun W => W.cell? ⟨h6, 0, none⟩ = some (.int .i64 P) ∧ W.cell? ⟨h6, 1, none⟩ = some (.int .i64 Q)) (first | go_keep | exact HK2.out)
        (first
        | (go_at_call 68; refine (HWC.out _ ?_ ?_).mono ?_; exact Keep.below HBX.out; exact HX13.out; rintro e w7 ⟨rfl, hb⟩; have HB7 := Lib.hid (below_up HBX.out hb); have HX14 := Lib.hid (HX13.out.keep (Keep.below hb)); have HY14 := Lib.hid (HY13.out.keep (Keep.below hb)); have HK2 := Lib.hid (And.intro (blk_cell (blk_below HBD.out hb) (i := 0) (v := .int .i64 P) rfl) (blk_cell (blk_below HBD.out hb) (i := 1) (v := .int .i64 Q) rfl)); clear hb))
      go_wp2
      go_ret3
      exact HPOST.out _ _ HX14.out HY14.out HB7.out HR.out.symm
    · have HR := Lib.hid (pb_false (p := KerP a n6 r s) (fun h => e2 (HEQ.out.1 (HKE.out.1 h)).2))
      clear e1
      clear HEQ HKE
      generalize (wlast a x).2 = D at *
      have e2' : (D == Q) = false := by simpa using e2
      go_region_held3 (fun W => W.cell? ⟨h6, 0, none⟩ = some (.int .i64 P) ∧ W.cell? ⟨h6, 1, none⟩ = some (.int .i64 Q)) (first | go_keep | exact HK2.out)
        (first
        | (go_at_call 68; refine (HWC.out _ ?_ ?_).mono ?_; exact Keep.below HBX.out; exact HX13.out; rintro e w7 ⟨rfl, hb⟩; have HB7 := Lib.hid (below_up HBX.out hb); have HX14 := Lib.hid (HX13.out.keep (Keep.below hb)); have HY14 := Lib.hid (HY13.out.keep (Keep.below hb)); have HK2 := Lib.hid (And.intro (blk_cell (blk_below HBD.out hb) (i := 0) (v := .int .i64 P) rfl) (blk_cell (blk_below HBD.out hb) (i := 1) (v := .int .i64 Q) rfl)); clear hb))
      go_wp2
      go_ret3
      exact HPOST.out _ _ HX14.out HY14.out HB7.out HR.out.symm
  · have HR := Lib.hid (pb_false (p := KerP a n6 r s) (fun h => e1 (HEQ.out.1 (HKE.out.1 h)).1))
    clear HEQ HKE
    generalize (wlast a x).1 = U at *
    have e1' : (U == -P) = false := by simpa using e1
    go_region_held3 (fun W => W.cell? ⟨h6, 0, none⟩ = some (.int .i64 P) ∧ W.cell? ⟨h6, 1, none⟩ = some (.int .i64 Q)) (first | go_keep | exact HK2.out)
      (first
      | (go_at_call 68; refine (HWC.out _ ?_ ?_).mono ?_; exact Keep.below HBX.out; exact HX13.out; rintro e w7 ⟨rfl, hb⟩; have HB7 := Lib.hid (below_up HBX.out hb); have HX14 := Lib.hid (HX13.out.keep (Keep.below hb)); have HY14 := Lib.hid (HY13.out.keep (Keep.below hb)); have HK2 := Lib.hid (And.intro (blk_cell (blk_below HBD.out hb) (i := 0) (v := .int .i64 P) rfl) (blk_cell (blk_below HBD.out hb) (i := 1) (v := .int .i64 Q) rfl)); clear hb))
    go_wp2
    go_ret3
    exact HPOST.out _ _ HX14.out HY14.out HB7.out HR.out.symm
end Go.Proofs.Ytgnbmanlpppdoaa

/- Shares by a part of a table, by the program. -/
namespace Go.Proofs.Ytgnbmanlpppdoaa
open Go.RowKit
open V (sumN detN rowC colC cofN minorN skip sgn Asc Kern)

/-- The part tells shares. -/
structure Tells (a : List (List Int)) (k : Nat) (r s : Nat → Nat) : Prop where
  det : detN k (kf a r s) ≠ 0
  cx : ClrP (kX a r s k)
  cy : ClrP (kY a r s k)
def NewS (w : World) (a : List (List Int)) (k l : Nat) (r s : Nat → Nat) (e : Ending) (w' : World) : Prop :=
  (k = l ∧ Tells a k r s ∧ ∃ A1 c1 g1 A2 c2 g2, e = .returned (.tuple #[.slice A1 a.length c1, .slice A2 (gr a 0).length c2]) ∧ OwnI w.heap.size w'.heap.size w' g1 A1 a.length c1 (shr a.length r (kX a r s k) k) ∧
    OwnI w.heap.size w'.heap.size w' g2 A2 (gr a 0).length c2 (shr (gr a 0).length s (kY a r s k) k) ∧ g1 ≠ g2 ∧ Below w.heap.size w w') ∨
  (¬ (k = l ∧ Tells a k r s) ∧ e = .returned (.tuple #[.slice none 0 0, .slice none 0 0]) ∧ Below w.heap.size w w')
theorem newS_of {w wf : World} {a : List (List Int)} {k n : Nat} {r s : Nat → Nat} (hl : a.length = n) (T : Tells a k r s) {Ax Ay : Option Addr} {nx dx gx ny dy gy lo1 lo2 : Nat} (hnx : nx = (shr n r (kX a r s k) k).length) (hny : ny = (shr (gr a 0).length s (kY a r s k) k).length)
    (hx : OwnI lo1 wf.heap.size wf gx Ax nx dx (shr n r (kX a r s k) k)) (hy : OwnI lo2 wf.heap.size wf gy Ay ny dy (shr (gr a 0).length s (kY a r s k) k)) (h1 : w.heap.size ≤ lo1) (h2 : w.heap.size ≤ lo2) (hne : gx ≠ gy) (hb : Below w.heap.size w wf) :
    NewS w a k k r s (.returned (.tuple #[.slice Ax nx dx, .slice Ay ny dy])) wf := by
  obtain rfl : nx = n := hnx.trans (putL_len _ _ _ _)
  obtain rfl : ny = (gr a 0).length := hny.trans (putL_len _ _ _ _)
  subst hl
  exact .inl ⟨rfl, T, Ax, dx, gx, Ay, dy, gy, rfl, hx.mono h1 (Nat.le_refl _), hy.mono h2 (Nat.le_refl _), hne, hb⟩
theorem own_apart {lo1 hi1 lo2 hi2 : Nat} {w1 w2 : World} {g1 g2 n1 n2 c1 c2 : Nat} {A1 A2 : Option Addr} {xs ys : List Int} (h1 : OwnI lo1 hi1 w1 g1 A1 n1 c1 xs) (h2 : OwnI lo2 hi2 w2 g2 A2 n2 c2 ys) (p1 : 0 < n1) (p2 : 0 < n2) (h : hi1 ≤ lo2) : g1 ≠ g2 := by
  obtain ⟨_, _, _, q1, _⟩ := h1.own p1
  obtain ⟨_, _, q2, _⟩ := h2.own p2
  omega
theorem lit_two {w : World} {A B : Option Addr} {n m c d : Nat} {xs ys : List Int} (hx : Ints w A n c xs) (hy : Ints w B m d ys) :
    IntRows (w.alloc (.cells #[.slice A n c, .slice B m d] 32)) (some ⟨w.heap.size, 0, none⟩) 2 2 [xs, ys] := by
  have hb := blk_new w 32 #[.slice A n c, .slice B m d]
  have hk := Keep.below (below_alloc w (.cells #[.slice A n c, .slice B m d] 32))
  refine ⟨rfl, Nat.le_refl _, by omega, fun _ => ⟨_, 0, rfl, fun k hk2 => ?_⟩⟩
  rw [Nat.zero_add]
  have hlx := hx.len
  have hly := hy.len
  match k, hk2 with
  | 0, _ => exact ⟨A, c, by rw [show (gr [xs, ys] 0).length = n from hlx]; exact blk_cell hb rfl, by rw [show (gr [xs, ys] 0).length = n from hlx]; exact hx.keep hk⟩
  | 1, _ => exact ⟨B, d, by rw [show (gr [xs, ys] 1).length = m from hly]; exact blk_cell hb rfl, by rw [show (gr [xs, ys] 1).length = m from hly]; exact hy.keep hk⟩
theorem kXY_rows {a : List (List Int)} {k : Nat} {r s : Nat → Nat} (hk : k ≤ 3) (hu : Up k (kf a r s)) : ∀ p, p < [kX a r s k, kY a r s k].length → (gr [kX a r s k, kY a r s k] p).length = k ∧ ∀ x ∈ gr [kX a r s k, kY a r s k] p, -1000000 ≤ x ∧ x ≤ 1000000 := fun p hp => by
  have hp : p < 2 := hp
  match p, hp with
  | 0, _ => exact ⟨kX_len a r s k, cofL_bd hk hu.ab (Nat.le_refl k)⟩
  | 1, _ => exact ⟨kY_len a r s k, cofL_bd hk hu.tr.ab (Nat.le_refl k)⟩

set_option maxRecDepth 100000 in
set_option maxHeartbeats 4000000 in
theorem sharesOn_any (A X Y : Option Addr) (n c k l cx cy : Nat) (a : List (List Int)) (r s : Nat → Nat) (w : World) (ha : IntRows w A n c a) (hv : VT a) (hx : Pl w X k cx r a.length) (hy : Pl w Y l cy s (gr a 0).length)
    (hk1 : 1 ≤ k) (hk3 : k ≤ 3) (hl3 : l ≤ 3) (hr : Asc a.length k r) (hs : Asc (gr a 0).length l s) :
    Calls Try.prog 75 #[.slice A n c, .slice X k cx, .slice Y l cy] w (NewS w a k l r s) := by
  by_cases hkl : k = l
  case neg =>
    have hz := nei_true hkl
    have HKL := Lib.hid hkl
    clear hkl ha hv hx hy hr hs
    go_enter Try.func75, Try.ntmps75
    go_wp2
    go_ret2
    exact .inr ⟨fun h => HKL.out h.1, rfl, Below.refl _ _⟩
  subst hkl
  have hz : ((k : Int) != (k : Int)) = false := by simp
  have HA := Lib.hid ha
  have HX := Lib.hid hx
  have HY := Lib.hid hy
  have HV := Lib.hid hv
  have HR := Lib.hid hr
  have HS := Lib.hid hs
  have HLEN := Lib.hid ha.len
  have hn1 := hv.n1
  have hn3 := hv.n3
  have hm1 := hv.m1
  have hm3 := hv.m3
  rw [ha.len] at hn1 hn3
  obtain ⟨b, o, rb, ro, cc, rfl, tab⟩ := ha.tab hv
  have HT := Lib.hid tab
  have hrow := tab.row 0 (by omega)
  simp only [Nat.add_zero] at hrow
  have HROW := Lib.hid hrow
  have HUP := Lib.hid (kf_up hv hr hs)
  clear ha hv hx hy hr hs tab hrow
  have HC := Lib.hid (partOf_any b o rb ro cc n (gr a 0).length c k k cx cy X Y a r s 18 w HT.out (HLEN.out ▸ HX.out) HY.out hk3 hk3 (by omega) (by omega))
  go_enter Try.func75, Try.ntmps75
  go_wp2_with fail
  refine HC.out.mono ?_
  rintro e w1 ⟨A1, n1, c1, g1, rfl, hn1', ho, hb⟩
  have HSQ := Lib.hid (show Sq k (prtL a r s 18 k k) (kf a r s) from prtL_sq a r s 18 k)
  have HO1 := Lib.hid ho.rows
  have HB1 := Lib.hid hb
  obtain rfl : n1 = k := hn1'.trans HSQ.out.len
  clear hn1' ho hb HC hz
  have HC := Lib.hid (determinant_any n1 hk3 A1 c1 _ _ w1 HO1.out HSQ.out HUP.out.ab)
  by_cases hd : detN n1 (kf a r s) = 0
  · have HNO := Lib.hid (show ¬ Tells a n1 r s from fun h => h.det hd)
    rw [hd] at HC
    clear hd
    go_wp2_with fail
    refine HC.out.mono ?_
    rintro e w2 ⟨rfl, hb⟩
    have HB2 := Lib.hid (below_up HB1.out hb)
    clear hb HC HB1
    go_wp2
    go_ret2
    exact .inr ⟨fun h => HNO.out h.2, rfl, HB2.out⟩
  have HD := Lib.hid hd
  have hdz : (detN n1 (kf a r s) == 0) = false := by simpa using hd
  clear hd
  generalize hdd : detN n1 (kf a r s) = D at hdz HC
  clear hdd
  go_wp2_with fail
  refine HC.out.mono ?_
  rintro e w2 ⟨rfl, hb⟩
  have HB2 := Lib.hid (below_up HB1.out hb)
  have HO2 := Lib.hid (HO1.out.keep (Keep.below hb))
  clear hb HC HB1 HO1
  have HC := Lib.hid (cofactorsM_any n1 hk3 (by omega) A1 c1 _ _ w2 HO2.out HSQ.out HUP.out.ab)
  go_wp2_with fail
  refine HC.out.mono ?_
  rintro e w3 ⟨A3, n3, c3, g3, rfl, hn3', ho, hb⟩
  have HF := Lib.hid ho.rows
  have HB3 := Lib.hid (below_up HB2.out hb)
  obtain rfl : n3 = n1 := hn3'.trans (cofM_len _ _ _)
  clear hn3' ho hb HC HB2 HO2
  have HSF := Lib.hid (cofM_sq n3 (kf a r s))
  have HCB := Lib.hid (fun i j (hi : i < n3) (hj : j < n3) => cof_bd hk3 HUP.out.ab hi hj)
  have HSO := Lib.hid (show ∀ p, p < n3 → SumOk (gr (cofM n3 (kf a r s) n3) p) from fun p hp => by
    rw [gr_cofM hp]; exact sumOk_of (by rw [cofR_len]; omega) (fun x hx => by have := cofR_bd hk3 HUP.out.ab hp (Nat.le_refl n3) x hx; omega))
  have HC := Lib.hid (rowSums_any A3 n3 c3 _ w3 HF.out hk3 HSO.out)
  rw [rsL_cofM] at HC
  go_wp2_with fail
  refine HC.out.mono ?_
  rintro e w4 ⟨A4, n4, c4, g4, rfl, hn4, ho, hb⟩
  have HX4 := Lib.hid (show Ints w4 A4 n4 c4 (kX a r s n3) from ho.ints)
  have HB4 := Lib.hid (below_up HB3.out hb)
  have HF4 := Lib.hid (HF.out.keep (Keep.below hb))
  obtain rfl : n4 = n3 := hn4.trans (cofL_len _ _ _)
  clear hn4 ho hb HC HB3 HF HSO
  obtain ⟨b3, o3, rb3, ro3, cc3, rfl, tx⟩ := HF4.out.tabX HSF.out (by omega) (fun i j hi hj => by have := HCB.out i j hi hj; omega)
  have HTX := Lib.hid tx
  clear tx
  have HC := Lib.hid (turnedX_any b3 o3 rb3 ro3 cc3 n4 c3 _ w4 HTX.out (by omega) hk3)
  go_wp2_with fail
  refine HC.out.mono ?_
  rintro e w5 ⟨rfl, ho, hb, -⟩
  have HG := Lib.hid ho.rows
  have HB5 := Lib.hid (below_up HB4.out hb)
  have HX5 := Lib.hid (HX4.out.keep (Keep.below hb))
  clear ho hb HC HB4 HF4 HTX HX4
  have HSO := Lib.hid (show ∀ p, p < n4 → SumOk (gr (flip (cofM n4 (kf a r s) n4) n4 n4) p) from fun p hp => by
    rw [gr_flip hp]; exact sumOk_of (by simp; omega) (fun x hx => by
      obtain ⟨i, hi, rfl⟩ := List.mem_map.1 hx
      have hi := List.mem_range.1 hi
      rw [HSF.out.eq i p hi hp]; have := HCB.out i p hi hp; omega))
  generalize w4.heap.size = h4 at *
  have HC := Lib.hid (rowSums_any _ n4 n4 _ w5 HG.out hk3 HSO.out)
  rw [rsL_flip hk3] at HC
  go_wp2_with fail
  refine HC.out.mono ?_
  rintro e w6 ⟨A6, n6, c6, g6, rfl, hn6, ho, hb⟩
  have HY6 := Lib.hid (show Ints w6 A6 n6 c6 (kY a r s n4) from ho.ints)
  have HB6 := Lib.hid (below_up HB5.out hb)
  have HX6 := Lib.hid (HX5.out.keep (Keep.below hb))
  obtain rfl : n6 = n4 := hn6.trans (cofL_len _ _ _)
  clear hn6 ho hb HC HB5 HX5 HG HSO HSF HCB HSQ
  have HLT := Lib.hid (lit_two HX6.out HY6.out)
  have HKR := Lib.hid (kXY_rows hk3 HUP.out)
  have hal := below_alloc w6 (.cells #[.slice A4 n6 c4, .slice A6 n6 c6] 32)
  have HB7 := Lib.hid (below_up HB6.out hal)
  have HX7 := Lib.hid (HX6.out.keep (Keep.below hal))
  have HY7 := Lib.hid (HY6.out.keep (Keep.below hal))
  clear hal
  have HC := Lib.hid (Concat_any _ 2 2 _ _ HLT.out (by omega) (fun p hp => by rw [(HKR.out p hp).1]; exact hk3) (fun p hp => by rw [(HKR.out p hp).1]; omega) (fun p hp => (HKR.out p hp).2) (by rw [catL_two, List.length_append, kX_len, kY_len]; omega))
  rw [catL_two] at HC
  go_wp2_with fail
  clear HLT HB6 HX6 HY6
  generalize w6.alloc (.cells #[.slice A4 n6 c4, .slice A6 n6 c6] 32) = w7 at *
  refine HC.out.mono ?_
  rintro e w8 ⟨A8, n8, c8, g8, rfl, hn8, ho, hb⟩
  have HI8 := Lib.hid ho.ints
  have HB8 := Lib.hid (below_up HB7.out hb)
  have HX8 := Lib.hid (HX7.out.keep (Keep.below hb))
  have HY8 := Lib.hid (HY7.out.keep (Keep.below hb))
  have h8 : 0 < n8 := by rw [hn8, List.length_append, kX_len]; omega
  clear ho hb HC HB7 HX7 HY7 hn8
  have HC := Lib.hid (haveBothSigns_any A8 n8 c8 _ w8 HI8.out h8)
  have HSG := Lib.hid (sgn_ok (a := a) (r := r) (s := s) (k := n6) (by omega) hk3 HD.out)
  by_cases hbb : bothB (kX a r s n6 ++ kY a r s n6) = false
  case neg =>
    have HNO := Lib.hid (show ¬ Tells a n6 r s from fun h => hbb (HSG.out.2 ⟨h.cx, h.cy⟩))
    rw [show bothB (kX a r s n6 ++ kY a r s n6) = true by simpa using hbb] at HC
    clear hbb HSG
    go_wp2_with fail
    refine HC.out.mono ?_
    rintro e w9 ⟨rfl, hq⟩
    have HB9 := Lib.hid (below_quiet HB8.out hq)
    clear hq HC HB8
    go_wp2
    go_ret2
    exact .inr ⟨fun h => HNO.out h.2, rfl, HB9.out⟩
  have HTL := Lib.hid (show Tells a n6 r s from ⟨HD.out, (HSG.out.1 hbb).1, (HSG.out.1 hbb).2⟩)
  rw [hbb] at HC
  clear hbb HSG
  go_wp2_with fail
  refine HC.out.mono ?_
  rintro e w9 ⟨rfl, hq⟩
  have HB9 := Lib.hid (below_quiet HB8.out hq)
  have HX9 := Lib.hid (HX8.out.keep (Keep.quiet hq))
  have HY9 := Lib.hid (HY8.out.keep (Keep.quiet hq))
  clear hq HC HB8 HX8 HY8 HI8
  have hrow := Keep.below HB9.out _ _ HROW.out
  have HXB := Lib.hid (fun p hp => mid_of (kX_bd HV.out hk3 HR.out HS.out (p := p) hp))
  have HYB := Lib.hid (fun p hp => mid_of (kY_bd HV.out hk3 HR.out HS.out (p := p) hp))
  have HCX := Lib.hid (fun W (k : Keep w9 W) => spreadI_any n n6 c4 cx A4 X _ r W (HX9.out.keep k) (HLEN.out ▸ HX.out.keep (Keep.trans (Keep.below HB9.out) k)) hn3 hk3 HXB.out HTL.out.cx)
  have HCY := Lib.hid (fun W (k : Keep w9 W) => spreadI_any (gr a 0).length n6 c6 cy A6 Y _ s W (HY9.out.keep k) (HY.out.keep (Keep.trans (Keep.below HB9.out) k)) hm3 hk3 HYB.out HTL.out.cy)
  have HK0 := Lib.hid (show Keep w9 w9.drew from Keep.drewN w9 1)
  have HRW := Lib.hid hrow
  have h0n : (0 : Int) < (n : Int) := by omega
  have h0n' : 0 < n := by omega
  go_wp2
  go_region_held3 (fun W => W.cell? ⟨b, o, none⟩ = some (.slice (some ⟨rb 0, ro 0, none⟩) (gr a 0).length (cc 0))) (first | exact HSX.out | exact HSY.out | exact HRW.out | go_keep)
    (first
    | (go_at_call 100; (with_reducible refine (HCX.out _ ?_).mono ?_); (first | exact HKY.out | exact HK0.out); rintro e wx ⟨Ax, nx, dx, gx, rfl, hnx, ho, hb⟩; have HOX := Lib.hid ho; have HBX := Lib.hid hb; have HNX := Lib.hid hnx; (first | (have HKX := Lib.hid (Keep.trans HKY.out (Keep.below hb))) | (have HKX := Lib.hid (Keep.trans HK0.out (Keep.below hb)))); (first | (have HSX := Lib.hid (Keep.below hb _ _ HSY.out)) | (have HSX := Lib.hid (Keep.below hb _ _ HRW.out))); clear ho hb hnx HCX)
    | (go_at_call 100; (with_reducible refine (HCY.out _ ?_).mono ?_); (first | exact HKX.out | exact HK0.out); rintro e wy ⟨Ay, ny, dy, gy, rfl, hny, ho, hb⟩; have HOY := Lib.hid ho; have HBY := Lib.hid hb; have HNY := Lib.hid hny; (first | (have HKY := Lib.hid (Keep.trans HKX.out (Keep.below hb))) | (have HKY := Lib.hid (Keep.trans HK0.out (Keep.below hb)))); (first | (have HSY := Lib.hid (Keep.below hb _ _ HSX.out)) | (have HSY := Lib.hid (Keep.below hb _ _ HRW.out))); clear ho hb hny HCY))
  all_goals
    have hnx : 0 < nx := by rw [HNX.out]; unfold shr; rw [putL_len]; omega
    have hny : 0 < ny := by rw [HNY.out]; unfold shr; rw [putL_len]; omega
    have hz9 := HB9.out.size
    have HFIN := Lib.hid (And.intro hnx hny)
    clear hnx hny hrow
    go_wp2
    go_ret2
    first
    | exact newS_of HLEN.out HTL.out HNX.out HNY.out ((HOX.out.below HBY.out).mono (Nat.le_refl _) HBY.out.size) HOY.out (by simpa using hz9) (Nat.le_trans hz9 (by simpa using HBX.out.size)) (own_apart HOX.out HOY.out HFIN.out.1 HFIN.out.2 (Nat.le_refl _)) (below_up (below_up HB9.out.drew HBX.out) HBY.out)
    | exact newS_of HLEN.out HTL.out HNX.out HNY.out HOX.out ((HOY.out.below HBX.out).mono (Nat.le_refl _) HBX.out.size) (Nat.le_trans hz9 (by simpa using HBY.out.size)) (by simpa using hz9) (own_apart HOY.out HOX.out HFIN.out.2 HFIN.out.1 (Nat.le_refl _)).symm (below_up (below_up HB9.out.drew HBY.out) HBX.out)
end Go.Proofs.Ytgnbmanlpppdoaa

/- The value's shares, by the model. -/
namespace Go.Proofs.Ytgnbmanlpppdoaa
open Go.RowKit
open V (Asc)

/-- The best shares of a table. -/
def NewV (w : World) (a : List (List Int)) (e : Ending) (w' : World) : Prop :=
  ∃ A1 c1 A2 c2, e = .returned (.tuple #[.slice A1 a.length c1, .slice A2 (gr a 0).length c2]) ∧ Ints w' A1 a.length c1 (bx a) ∧ Ints w' A2 (gr a 0).length c2 (by_ a) ∧ Below w.heap.size w w'
theorem NewK.no {w w' : World} {a : List (List Int)} {k : Nat} {r s : Nat → Nat} {e : Ending} (h : NewK w a k r s e w') (hn : ¬ KerP a k r s) : ∃ v1 v2, e = .returned (.tuple #[v1, v2, .bool false]) ∧ Below w.heap.size w w' := by
  rcases h with ⟨h1, _⟩ | ⟨_, h⟩
  · exact absurd h1 hn
  · exact h
theorem NewK.yes {w w' : World} {a : List (List Int)} {k : Nat} {r s : Nat → Nat} {e : Ending} (h : NewK w a k r s e w') (hn : KerP a k r s) :
    ∃ A1 c1 A2 c2, e = .returned (.tuple #[.slice A1 a.length c1, .slice A2 (gr a 0).length c2, .bool true]) ∧ Ints w' A1 a.length c1 (shr a.length r (kX a r s k) k) ∧
      Ints w' A2 (gr a 0).length c2 (shr (gr a 0).length s (kY a r s k) k) ∧ Below w.heap.size w w' := by
  rcases h with ⟨_, h⟩ | ⟨h1, _⟩
  · exact h
  · exact absurd hn h1
theorem memL_pl {w : World} {A : Option Addr} {n c S m : Nat} (h : Ints w A n c (memL S m)) (e : n = (memL S m).length) : Pl w A n c (idx S m) m := by
  subst e
  exact ⟨by rw [← memL_idx]; exact h, (idx_asc S m).1⟩

set_option maxRecDepth 100000 in
set_option maxHeartbeats 3200000 in
theorem value_any (A : Option Addr) (n c : Nat) (a : List (List Int)) (w : World) (ha : IntRows w A n c a) (hv : VT a) :
    Calls Try.prog 60 #[.slice A n c] w (NewV w a) := by
  have HA := Lib.hid ha
  have HV := Lib.hid hv
  have HLEN := Lib.hid ha.len
  have hn1 := hv.n1
  have hn3 := hv.n3
  have hm1 := hv.m1
  have hm3 := hv.m3
  rw [ha.len] at hn1 hn3
  obtain ⟨b, o, rb, ro, cc, rfl, tab⟩ := ha.tab hv
  have hrow := tab.row 0 (by omega)
  simp only [Nat.add_zero] at hrow
  have HROW := Lib.hid hrow
  have HF := Lib.hid (first_of hv)
  have hS1 := HF.out.s1
  have hT1 := HF.out.t1
  have hS8 : vS a < 8 := Nat.lt_of_lt_of_le HF.out.sn (pow_le8 hv.n3)
  have hT8 : vT a < 8 := Nat.lt_of_lt_of_le HF.out.tm (pow_le8 hv.m3)
  clear ha hv tab
  go_enter Try.func60, Try.ntmps60
  go_wp2
  clear hrow
  go_loopw [6] (fun i wr => ∃ R : Nat, 1 ≤ R ∧ R ≤ vS a ∧ i = .int .i64 R ∧ Hid (Below w.heap.size w wr)) (fun i _ => 8 - (intOf i).toNat)
  case atStart => exact ⟨1, by omega, hS1, rfl, Lib.hid (Below.refl _ _)⟩
  case round =>
    obtain ⟨R, hR1, hR2, rfl, HB⟩ := hrel
    have hr8 : ((R : Int) % 8) = (R : Int) := by omega
    have HC := Lib.hid (members_any R n wr (by omega) (by omega))
    go_wp2_with fail
    refine HC.out.mono ?_
    rintro e w1 ⟨Ar, nr, cr, gr_, rfl, hnr, ho, hb⟩
    have HRI := Lib.hid (memL_pl ho.ints hnr)
    have HNR := Lib.hid (show nr = (memL R a.length).length by rw [HLEN.out]; exact hnr)
    have hnr3 : nr ≤ 3 := by have := memL_le R n; omega
    have HB1 := Lib.hid (below_up HB.out hb)
    clear hnr ho hb HC HB hr8
    go_wp2
    go_loopw [8] (fun i wi => ∃ T : Nat, 1 ≤ T ∧ T ≤ 8 ∧ i = .int .i64 T ∧ Hid (R = vS a → T ≤ vT a) ∧ Hid (Below w1.heap.size w1 wi)) (fun i _ => 8 - (intOf i).toNat)
    case atStart => exact ⟨1, by omega, by omega, rfl, Lib.hid (fun _ => hT1), Lib.hid (Below.refl _ _)⟩
    case round =>
      obtain ⟨T, hT1', hT8', rfl, HRT, HBI⟩ := hrel
      have HBW := Lib.hid (below_up HB1.out HBI.out)
      by_cases hlt : T < 8
      · have hrow := Keep.below HBW.out _ _ HROW.out
        have HC := Lib.hid (members_any T (gr a 0).length wr (by omega) (by omega))
        go_wp2_with fail
        refine HC.out.mono ?_
        rintro e w2 ⟨Ac, nc, cc2, gc, rfl, hnc, ho, hb⟩
        have HCI := Lib.hid (memL_pl ho.ints hnc)
        have HNC := Lib.hid hnc
        have hnc3 : nc ≤ 3 := by have := memL_le T (gr a 0).length; omega
        have HB2 := Lib.hid (below_up HBI.out hb)
        have HBW2 := Lib.hid (below_up HBW.out hb)
        clear hnc ho hb HC HBI HBW hrow
        by_cases h0 : nr = 0
        · have hz : ((nr : Int) == 0) = true := by subst h0; rfl
          have HNK := Lib.hid (show ¬ kerAt a R T from fun h => by have := h.1; have := HNR.out; omega)
          have HT2 := Lib.hid (show R = vS a → T + 1 ≤ vT a from fun e => by
            have := HRT.out e
            have : T ≠ vT a := fun e2 => HNK.out (by rw [e, e2]; exact HF.out.at_)
            omega)
          clear h0
          go_wp2
          go_roundw
          case rel => exact ⟨T + 1, by omega, by omega, by go_num, HT2, HB2⟩
          case measure => simp [intOf]; omega
        have hz : ((nr : Int) == 0) = false := by simp; omega
        by_cases hrc : nr = nc
        · have hz2 : ((nr : Int) != (nc : Int)) = false := nei_false hrc
          subst hrc
          have HRP := Lib.hid (show Pl w2 Ar nr cr (idx R a.length) a.length by rw [HLEN.out]; exact HRI.out.keep (Keep.below HB2.out))
          have HAR := Lib.hid (show Asc a.length nr (idx R a.length) by rw [HNR.out]; exact idx_asc _ _)
          have HAT := Lib.hid (show Asc (gr a 0).length nr (idx T (gr a 0).length) by rw [HNC.out]; exact idx_asc _ _)
          have HC := Lib.hid (kernel_any _ Ar Ac n c nr cr cc2 a (idx R a.length) (idx T (gr a 0).length) w2 (HA.out.keep (Keep.below HBW2.out)) HV.out HRP.out HCI.out (by omega) hnr3 HAR.out HAT.out)
          have HKI : Hid (kerAt a R T ↔ KerP a nr (idx R a.length) (idx T (gr a 0).length)) := Lib.hid (by
            unfold kerAt
            rw [← HNR.out, ← HNC.out]
            exact ⟨fun h => h.2.2, fun h => ⟨by omega, rfl, h⟩⟩)
          clear hz2
          by_cases hst : R = vS a ∧ T = vT a
          · have HST := Lib.hid hst
            have HKY := Lib.hid (HKI.out.1 (by rw [hst.1, hst.2]; exact HF.out.at_))
            have HEX : Hid (shr a.length (idx R a.length) (kX a (idx R a.length) (idx T (gr a 0).length) nr) nr = bx a ∧ shr (gr a 0).length (idx T (gr a 0).length) (kY a (idx R a.length) (idx T (gr a 0).length) nr) nr = by_ a) := Lib.hid (by
              have e : nr = bxk a := by rw [HNR.out, hst.1]; rfl
              rw [e, hst.1, hst.2]; exact ⟨rfl, rfl⟩)
            clear hst
            have hz2 : ((nr : Int) != (nr : Int)) = false := by simp
            go_wp2_with fail
            refine HC.out.mono ?_
            rintro e w3 hk
            obtain ⟨A1, c1, A2, c2, rfl, i1, i2, hb⟩ := hk.yes HKY.out
            rw [HEX.out.1] at i1
            rw [HEX.out.2] at i2
            have HI1 := Lib.hid i1
            have HI2 := Lib.hid i2
            have HB3 := Lib.hid (below_up HBW2.out hb)
            clear hk i1 i2 hb HC
            go_wp2
            go_ret2
            exact ⟨A1, c1, A2, c2, rfl, HI1.out, HI2.out, HB3.out⟩
          · have HNA := Lib.hid (show ¬ kerAt a R T from fun h => by
              by_cases e : R = vS a
              · have h1 := HRT.out e
                have h2 : T ≠ vT a := fun e2 => hst ⟨e, e2⟩
                exact HF.out.noT T hT1' (by omega) (e ▸ h)
              · exact HF.out.noS R T hR1 (by omega) hT1' hlt h)
            have HNK := Lib.hid (mt HKI.out.2 HNA.out)
            have HT2 := Lib.hid (show R = vS a → T + 1 ≤ vT a from fun e => by
              have := HRT.out e
              have : T ≠ vT a := fun e2 => hst ⟨e, e2⟩
              omega)
            clear hst
            have hz2 : ((nr : Int) != (nr : Int)) = false := by simp
            go_wp2_with fail
            refine HC.out.mono ?_
            rintro e w3 hk
            obtain ⟨v1, v2, rfl, hb⟩ := hk.no HNK.out
            have HB3 := Lib.hid (below_up HB2.out hb)
            clear hk hb HC
            go_wp2
            go_roundw
            case rel => exact ⟨T + 1, by omega, by omega, by go_num, HT2, HB3⟩
            case measure => simp [intOf]; omega
        · have hz2 : ((nr : Int) != (nc : Int)) = true := nei_true hrc
          have HNK := Lib.hid (show ¬ kerAt a R T from fun h => hrc (by rw [HNR.out, HNC.out]; exact h.2.1))
          have HT2 := Lib.hid (show R = vS a → T + 1 ≤ vT a from fun e => by
            have := HRT.out e
            have : T ≠ vT a := fun e2 => HNK.out (by rw [e, e2]; exact HF.out.at_)
            omega)
          clear hrc
          go_wp2
          go_roundw
          case rel => exact ⟨T + 1, by omega, by omega, by go_num, HT2, HB2⟩
          case measure => simp [intOf]; omega
      · obtain rfl : T = 8 := by omega
        have hRS : R < vS a := by
          by_cases e : R = vS a
          · have := HRT.out e; omega
          · omega
        go_wp2
        go_roundw
        case rel => exact ⟨R + 1, by omega, by omega, by go_num, HBW⟩
        case measure => simp [intOf]; omega
end Go.Proofs.Ytgnbmanlpppdoaa

/- A table as the second player has it, by the program. -/
namespace Go.Proofs.Ytgnbmanlpppdoaa
open Go.RowKit

/-- The first j numbers of a row with the other sign. -/
def negTo (r : List Int) (j : Nat) : List Int := (List.range r.length).map fun k => if k < j then - gi r k else gi r k
theorem negTo_len (r : List Int) (j : Nat) : (negTo r j).length = r.length := by simp [negTo]
theorem gi_negTo {r : List Int} {j k : Nat} (h : k < r.length) : gi (negTo r j) k = if k < j then - gi r k else gi r k := by
  rw [gi_get (by rw [negTo_len]; exact h)]; simp [negTo]
theorem negTo_zero (r : List Int) : negTo r 0 = r := gi_ext (negTo_len r 0) fun k hk => by
  rw [negTo_len] at hk; rw [gi_negTo hk, if_neg (by omega)]
theorem negTo_all (r : List Int) : negTo r r.length = mrow r r.length := gi_ext (by rw [negTo_len, mrow_len]) fun k hk => by
  rw [negTo_len] at hk
  rw [gi_negTo hk, if_pos hk, gi_get (xs := mrow r r.length) (by rw [mrow_len]; exact hk)]
  simp [mrow]
theorem negTo_set {r : List Int} {j : Nat} (h : j < r.length) : (negTo r j).set j (- gi r j) = negTo r (j + 1) := gi_ext (by rw [List.length_set, negTo_len, negTo_len]) fun k hk => by
  rw [List.length_set, negTo_len] at hk
  by_cases e : k = j
  · subst e; rw [gi_set_eq (by rw [negTo_len]; exact h), gi_negTo hk, if_pos (by omega)]
  · rw [gi_set_ne (by rw [negTo_len]; exact hk) e, gi_negTo hk, gi_negTo hk]
    split <;> split <;> first | rfl | omega
/-- The first i rows with the other signs. -/
def negR (a : List (List Int)) (i : Nat) : List (List Int) := (List.range a.length).map fun k => if k < i then mrow (gr a k) (gr a k).length else gr a k
theorem negR_len (a : List (List Int)) (i : Nat) : (negR a i).length = a.length := by simp [negR]
theorem gr_negR {a : List (List Int)} {i k : Nat} (h : k < a.length) : gr (negR a i) k = if k < i then mrow (gr a k) (gr a k).length else gr a k := by
  rw [gr_get (by rw [negR_len]; exact h)]; simp [negR]
theorem negR_zero (a : List (List Int)) : negR a 0 = a := gr_ext (negR_len a 0) fun k hk => by
  rw [negR_len] at hk; rw [gr_negR hk, if_neg (by omega)]
theorem negR_all (a : List (List Int)) : negR a a.length = mtab a a.length := gr_ext (by rw [negR_len, mtab_len]) fun k hk => by
  rw [negR_len] at hk
  rw [gr_negR hk, if_pos hk, gr_get (xs := mtab a a.length) (by rw [mtab_len]; exact hk)]
  simp [mtab]
theorem negR_set {a : List (List Int)} {i : Nat} (h : i < a.length) : (negR a i).set i (mrow (gr a i) (gr a i).length) = negR a (i + 1) := gr_ext (by rw [List.length_set, negR_len, negR_len]) fun k hk => by
  rw [List.length_set, negR_len] at hk
  by_cases e : k = i
  · subst e; rw [gr_set_eq (by rw [negR_len]; exact h), gr_negR hk, if_pos (by omega)]
  · rw [gr_set_ne e, gr_negR hk, gr_negR hk]
    split <;> split <;> first | rfl | omega
theorem One.trans {b : Nat} {x y z : World} (h : One b x y) (k : One b y z) : One b x z :=
  ⟨k.os.trans h.os, k.tape.trans h.tape, k.output.trans h.output, by rw [k.size, h.size], fun g hg => (k.block g hg).trans (h.block g hg)⟩

set_option maxHeartbeats 1000000 in
theorem otherSide_any (b o : Nat) (rb ro cc : Nat → Nat) (n m c : Nat) (xs : List (List Int)) (w : World) (h : Tab w b o rb ro cc n m xs) :
    Calls Try.prog 69 #[.slice (some ⟨b, o, none⟩) n c] w (NewT w (mtab (flip xs n m) (flip xs n m).length)) := by
  have HC := Lib.hid (turned_any b o rb ro cc n m c xs w h)
  have hm1 := h.m1
  have hm3 := h.m3
  have hn1 := h.n1
  have hn3 := h.n3
  have hbd := Lib.hid h.bd
  have HFL : Hid ((flip xs n m).length = m) := Lib.hid (by simp [flip])
  clear h
  go_enter Try.func69, Try.ntmps69
  go_wp2_with fail
  refine HC.out.mono ?_
  rintro e w1 ⟨rfl, ho, hb, hz⟩
  have HO := Lib.hid (negR_zero (flip xs n m) ▸ ho)
  have HB := Lib.hid hb
  have HRL : Hid (∀ k, k < m → (gr (flip xs n m) k).length = n) := Lib.hid (fun k hk => by rw [gr_flip hk]; simp)
  have HRB : Hid (∀ k j, k < m → j < n → -9 ≤ gi (gr (flip xs n m) k) j ∧ gi (gr (flip xs n m) k) j ≤ 9) := Lib.hid (fun k j hk hj => by rw [gr_flip hk, gi_col hj]; exact hbd.out j k hj hk)
  clear ho hb HC hbd
  have hfl := HFL.out
  rw [← hfl]
  generalize flip xs n m = fs at *
  rw [hfl]
  generalize hg : w.heap.size = g at *
  have HG := Lib.hid hg
  clear hg hfl
  go_wp2
  go_loopw [11] (fun i wr => ∃ k : Nat, k ≤ m ∧ i = .int .i64 k ∧ Hid (OwnR g w1.heap.size wr g (some ⟨g, 0, none⟩) m m (negR fs k)) ∧ Hid (Touch g w1.heap.size w1 wr)) (fun i _ => m - (intOf i).toNat)
  case atStart => exact ⟨0, Nat.zero_le _, rfl, HO, Lib.hid (Touch.refl _ _ _)⟩
  case round =>
    clear HO
    obtain ⟨k, hk, rfl, HO, HT⟩ := hrel
    by_cases hlt : k < m
    · obtain ⟨o', g', R, c', e, c1, hI, hset⟩ := HO.out.at_row hlt
      have hgk : gr (negR fs k) k = gr fs k := by rw [gr_negR (by rw [HFL.out]; exact hlt), if_neg (Nat.lt_irrefl k)]
      rw [hgk, HRL.out k hlt] at c1 hI hset
      injection e with e
      injection e with _ e _
      subst e
      obtain ⟨oR, e, hlo, hhi, _⟩ := hI.own (by omega)
      subst e
      have HI := Lib.hid (negTo_zero (gr fs k) ▸ hI)
      have HS := Lib.hid hset
      simp only [Nat.zero_add] at c1
      clear hI hset hgk
      go_wp2
      clear c1
      go_loopw [17] (fun j wi => ∃ l : Nat, l ≤ n ∧ j = .int .i64 l ∧ Hid (OwnI g w1.heap.size wi g' (some ⟨g', oR, none⟩) n c' (negTo (gr fs k) l)) ∧ Hid (One g' wr wi)) (fun j _ => n - (intOf j).toNat)
      case atStart => exact ⟨0, Nat.zero_le _, rfl, HI, Lib.hid (One.refl _ _)⟩
      case round =>
        clear HI
        obtain ⟨l, hl, rfl, HI, HN⟩ := hrel
        by_cases hll : l < n
        · have HL := Lib.hid (HRL.out k hlt)
          obtain ⟨z1, z2⟩ := HRB.out k l hlt hll
          obtain ⟨b', o2, e, hc⟩ := HI.out.ints.at_ (by omega)
          obtain ⟨o3, e3, _, _, hf⟩ := HI.out.own (by omega)
          injection e with e
          injection e with e1 e2 _
          subst e1
          subst e2
          injection e3 with e3
          injection e3 with _ e3 _
          subst e3
          have c2 := hc l hll
          have f2 := hf l hll
          rw [gi_negTo (by rw [HL.out]; exact hll), if_neg (Nat.lt_irrefl l)] at c2
          have HI2 := Lib.hid (HI.out.set hll (v := - gi (gr fs k) l) (by omega))
          have HN2 := Lib.hid (HN.out.set (oR + l) (.int .i64 (- gi (gr fs k) l)))
          have HSE := Lib.hid (negTo_set (r := gr fs k) (j := l) (by rw [HL.out]; exact hll))
          clear hc hf HI HN
          go_wp2
          go_roundw
          case rel => exact ⟨l + 1, by omega, by go_num, Lib.hid (by rw [← HSE.out]; exact HI2.out), HN2⟩
          case measure => simp [intOf]; omega
        · obtain rfl : l = n := by omega
          have HL := Lib.hid (HRL.out k hlt)
          have hx := HS.out _ (mrow (gr fs k) (gr fs k).length) (by rw [mrow_len, HL.out]) (by rw [← negTo_all, HL.out]; exact HI.out) (fun h => absurd h (by omega)) HN.out
          rw [negR_set (by rw [HFL.out]; exact hlt)] at hx
          have HX := Lib.hid hx
          clear hx HS HI HN
          go_wp2
          go_roundw
          case rel => exact ⟨k + 1, by omega, by go_num, Lib.hid HX.out.1, Lib.hid (HT.out.trans HX.out.2)⟩
          case measure => simp [intOf]; omega
    · obtain rfl : k = m := by omega
      have HO2 := Lib.hid (show OwnR g w1.heap.size wr g (some ⟨g, 0, none⟩) k k (mtab fs fs.length) by rw [← negR_all, HFL.out]; exact HO.out)
      have HSZ := Lib.hid HT.out.size
      have HB2 := Lib.hid (Touch.below HB.out HT.out (by omega))
      clear HO
      go_wp2
      go_ret
      exact ⟨some ⟨g, 0, none⟩, k, k, g, rfl, by rw [mtab_len, HFL.out], by rw [HG.out]; exact HO2.out.mono (Nat.le_refl _) (Nat.le_of_eq HSZ.out.symm), by rw [HG.out]; exact HB2.out⟩
end Go.Proofs.Ytgnbmanlpppdoaa

/- Best shares, by the program. -/
namespace Go.Proofs.Ytgnbmanlpppdoaa
open Go.RowKit

set_option maxHeartbeats 1000000 in
theorem minus_any (U D : Int) (w : World) (hU : -1000000000 ≤ U ∧ U ≤ 1000000000) : Calls Try.prog 70 #[.agg #[.int .i64 U, .int .i64 D]] w (Ret (.agg #[.int .i64 (-U), .int .i64 D]) w) := by
  obtain ⟨u1, u2⟩ := hU
  have b0 := blk_old (blk_new w 28 #[.int .i64 U, .int .i64 D]) (.cells #[.int .i64 0, .int .i64 0] 28)
  have b1 := blk_new (w.alloc (.cells #[.int .i64 U, .int .i64 D] 28)) 28 #[.int .i64 0, .int .i64 0]
  have HB := Lib.hid (below_up (below_alloc w (.cells #[.int .i64 U, .int .i64 D] 28)) (below_alloc _ (.cells #[.int .i64 (-U), .int .i64 D] 28)))
  have HN := Lib.hid (blk_new (w.alloc (.cells #[.int .i64 U, .int .i64 D] 28)) 28 #[.int .i64 (-U), .int .i64 D])
  rw [World.size_alloc] at b1 HN
  have c0 := blk_cell b0 (i := 0) (v := .int .i64 U) rfl
  have c1 := blk_cell b0 (i := 1) (v := .int .i64 D) rfl
  go_enter Try.func70, Try.ntmps70
  go_wp2
  have r0 := blk_cell HN.out (i := 0) (v := .int .i64 (-U)) rfl
  have r1 := blk_cell HN.out (i := 1) (v := .int .i64 D) rfl
  clear c0 c1 b0 b1 HN
  generalize (w.alloc (.cells #[.int .i64 U, .int .i64 D] 28)).alloc (.cells #[.int .i64 (-U), .int .i64 D] 28) = WE at *
  refine bodyPost_ret (v := .agg #[.int .i64 (-U), .int .i64 D]) (by simp [results, Try.results70, go_sem, r0, r1]) rfl ?_
  exact ⟨rfl, HB.out⟩

set_option maxRecDepth 100000 in
set_option maxHeartbeats 3200000 in
theorem AreBest_impl (A X Y : Option Addr) (n c nx cx ny cy : Nat) (a : List (List Int)) (x y : List Int) (w : World) (ha : IntRows w A n c a) (hx : Ints w X nx cx x) (hy : Ints w Y ny cy y) :
    Calls Try.prog 36 #[.slice A n c, .slice X nx cx, .slice Y ny cy] w (Ret (.bool (pb (BestP a x y))) w) := by
  have HC := Lib.hid (WorstOf_impl A X n c nx cx a x w ha hx)
  have HA := Lib.hid ha
  have HY := Lib.hid hy
  clear ha hx hy
  obtain ⟨U, D, hform⟩ := wstV_form (worF a x)
  rw [hform] at HC
  have HUD : Hid (worF a x = (U, D)) := Lib.hid (by
    unfold wstV at hform
    injection hform with h
    have h1 := congrArg (fun z : Array Value => z[0]!) h
    have h2 := congrArg (fun z : Array Value => z[1]!) h
    simp at h1 h2
    exact Prod.ext h1 h2)
  clear hform
  by_cases hok : WOk a x
  · have HV := Lib.hid hok.v
    have HVX := Lib.hid hok.x
    rw [pb_true hok] at HC
    have HUD2 := Lib.hid (show wlast a x = (U, D) by rw [← worF_yes hok]; exact HUD.out)
    have hn1 := HV.out.n1
    have hn3 := HV.out.n3
    have hm1 := HV.out.m1
    have hm3 := HV.out.m3
    have HLEN := Lib.hid HA.out.len
    have hbd := wlast_bd HV.out HVX.out
    rw [HUD2.out] at hbd
    obtain ⟨⟨u1, u2⟩, u3, u4⟩ := hbd
    simp only at u1 u2 u3 u4
    clear hok
    rw [HLEN.out] at hn1 hn3
    obtain ⟨b, o, rb, ro, cc, rfl, tab⟩ := HA.out.tab HV.out
    have HT := Lib.hid tab
    clear tab
    go_enter Try.func36, Try.ntmps36
    go_wp2_with fail
    refine HC.out.mono ?_
    rintro e w1 ⟨rfl, hb⟩
    have HB0 := Lib.hid (show Below w.heap.size w w1 from hb)
    have HB1 := Lib.hid (below_up HB0.out (below_alloc w1 (.cells #[.int .i64 U, .int .i64 D] 28)))
    have HK1 := Lib.hid (blk_new w1 28 #[.int .i64 U, .int .i64 D])
    clear hb HC HB0
    go_wp2_with fail
    generalize w1.alloc (.cells #[.int .i64 U, .int .i64 D] 28) = W1 at *
    generalize w1.heap.size = h1 at *
    have HC := Lib.hid (otherSide_any b o rb ro cc n (gr a 0).length c a W1 (HT.out.keep (Keep.below HB1.out)))
    have HNT : Hid (mtab (flip a n (gr a 0).length) (flip a n (gr a 0).length).length = ntab a) := Lib.hid (by rw [← HLEN.out]; rfl)
    rw [HNT.out] at HC
    refine HC.out.mono ?_
    rintro e w2 ⟨A2, n2, c2, g2, rfl, hn2, ho, hb⟩
    have HO2 := Lib.hid ho.rows
    have HB2 := Lib.hid (below_up HB1.out hb)
    have HK2 := Lib.hid (blk_below HK1.out hb)
    clear hn2 ho hb HC HB1 HK1
    have HC := Lib.hid (WorstOf_impl A2 Y n2 c2 ny cy (ntab a) y w2 HO2.out (HY.out.keep (Keep.below HB2.out)))
    obtain ⟨P, Q, hform⟩ := wstV_form (worF (ntab a) y)
    rw [hform] at HC
    have HPQ : Hid (worF (ntab a) y = (P, Q)) := Lib.hid (by
      unfold wstV at hform
      injection hform with h
      have h1 := congrArg (fun z : Array Value => z[0]!) h
      have h2 := congrArg (fun z : Array Value => z[1]!) h
      simp at h1 h2
      exact Prod.ext h1 h2)
    clear hform
    by_cases hvy : VS y (ntab a).length
    · have HVY := Lib.hid hvy
      have HWK := Lib.hid (WOk.mk HV.out.ntab hvy)
      rw [pb_true HWK.out] at HC
      have HPQ2 := Lib.hid (show wlast (ntab a) y = (P, Q) by rw [← worF_yes HWK.out]; exact HPQ.out)
      have hbd := wlast_bd HV.out.ntab HVY.out
      rw [HPQ2.out] at hbd
      obtain ⟨⟨p1, p2⟩, p3, p4⟩ := hbd
      simp only at p1 p2 p3 p4
      clear hvy
      have HBP : Hid (pb (BestP a x y) = pb (U = -P ∧ D = Q)) := Lib.hid (pb_congr ⟨fun h => by
        have := h.eq
        rw [HUD2.out, HPQ2.out] at this
        exact Prod.mk.inj this, fun h => ⟨⟨HV.out, HVX.out, by have := HVY.out; rw [ntab_len] at this; exact this⟩, by rw [HUD2.out, HPQ2.out, h.1, h.2]⟩⟩)
      go_wp2_with fail
      refine HC.out.mono ?_
      rintro e w3 ⟨rfl, hb⟩
      have HB3 := Lib.hid (below_up (below_up HB2.out hb) (below_alloc w3 (.cells #[.int .i64 P, .int .i64 Q] 28)))
      have HK3 := Lib.hid (blk_old (blk_below HK2.out hb) (.cells #[.int .i64 P, .int .i64 Q] 28))
      have HL3 := Lib.hid (blk_new w3 28 #[.int .i64 P, .int .i64 Q])
      clear hb HC HB2 HK2
      have c0 := blk_cell HK3.out (i := 0) (v := .int .i64 U) rfl
      have c1 := blk_cell HK3.out (i := 1) (v := .int .i64 D) rfl
      have d0 := blk_cell HL3.out (i := 0) (v := .int .i64 P) rfl
      have d1 := blk_cell HL3.out (i := 1) (v := .int .i64 Q) rfl
      go_wp2_with fail
      generalize w3.alloc (.cells #[.int .i64 P, .int .i64 Q] 28) = W3 at *
      generalize w3.heap.size = h3 at *
      have HBX := Lib.hid HB3.out.drew
      have HKD := Lib.hid (show Blk W3.drew h1 28 #[.int .i64 U, .int .i64 D] from HK3.out)
      have HLD := Lib.hid (show Blk W3.drew h3 28 #[.int .i64 P, .int .i64 Q] from HL3.out)
      have HMC := Lib.hid (fun W => minus_any P Q W (by omega))
      clear HK3 HL3
      by_cases e1 : U = -P
      · by_cases e2 : D = Q
        · have HR := Lib.hid (pb_true (p := U = -P ∧ D = Q) ⟨e1, e2⟩)
          subst e1
          subst e2
          go_region_held3 (fun W => (W.cell? ⟨h1, 0, none⟩ = some (.int .i64 (-P)) ∧ W.cell? ⟨h1, 1, none⟩ = some (.int .i64 D)) ∧ (W.cell? ⟨h3, 0, none⟩ = some (.int .i64 P) ∧ W.cell? ⟨h3, 1, none⟩ = some (.int .i64 D))) (first | go_keep | exact HKK.out)
            (first
            | (go_at_call 70; refine (HMC.out _).mono ?_; rintro e w7 ⟨rfl, hb⟩; have HB7 := Lib.hid (below_up HBX.out hb); have HKK := Lib.hid (And.intro (And.intro (blk_cell (blk_below HKD.out hb) (i := 0) (v := .int .i64 (-P)) rfl) (blk_cell (blk_below HKD.out hb) (i := 1) (v := .int .i64 D) rfl)) (And.intro (blk_cell (blk_below HLD.out hb) (i := 0) (v := .int .i64 P) rfl) (blk_cell (blk_below HLD.out hb) (i := 1) (v := .int .i64 D) rfl))); clear hb))
          go_wp2
          go_ret
          exact ⟨by rw [HBP.out, HR.out]; rfl, HB7.out⟩
        · have HR := Lib.hid (pb_false (p := U = -P ∧ D = Q) (fun h => e2 h.2))
          have e2' : (D == Q) = false := by simpa using e2
          subst e1
          go_region_held3 (fun W => (W.cell? ⟨h1, 0, none⟩ = some (.int .i64 (-P)) ∧ W.cell? ⟨h1, 1, none⟩ = some (.int .i64 D)) ∧ (W.cell? ⟨h3, 0, none⟩ = some (.int .i64 P) ∧ W.cell? ⟨h3, 1, none⟩ = some (.int .i64 Q))) (first | go_keep | exact HKK.out)
            (first
            | (go_at_call 70; refine (HMC.out _).mono ?_; rintro e w7 ⟨rfl, hb⟩; have HB7 := Lib.hid (below_up HBX.out hb); have HKK := Lib.hid (And.intro (And.intro (blk_cell (blk_below HKD.out hb) (i := 0) (v := .int .i64 (-P)) rfl) (blk_cell (blk_below HKD.out hb) (i := 1) (v := .int .i64 D) rfl)) (And.intro (blk_cell (blk_below HLD.out hb) (i := 0) (v := .int .i64 P) rfl) (blk_cell (blk_below HLD.out hb) (i := 1) (v := .int .i64 Q) rfl))); clear hb))
          go_wp2
          go_ret
          exact ⟨by rw [HBP.out, HR.out]; rfl, HB7.out⟩
      · have HR := Lib.hid (pb_false (p := U = -P ∧ D = Q) (fun h => e1 h.1))
        have e1' : (U == -P) = false := by simpa using e1
        go_region_held3 (fun W => (W.cell? ⟨h1, 0, none⟩ = some (.int .i64 U) ∧ W.cell? ⟨h1, 1, none⟩ = some (.int .i64 D)) ∧ (W.cell? ⟨h3, 0, none⟩ = some (.int .i64 P) ∧ W.cell? ⟨h3, 1, none⟩ = some (.int .i64 Q))) (first | go_keep | exact HKK.out)
          (first
          | (go_at_call 70; refine (HMC.out _).mono ?_; rintro e w7 ⟨rfl, hb⟩; have HB7 := Lib.hid (below_up HBX.out hb); have HKK := Lib.hid (And.intro (And.intro (blk_cell (blk_below HKD.out hb) (i := 0) (v := .int .i64 U) rfl) (blk_cell (blk_below HKD.out hb) (i := 1) (v := .int .i64 D) rfl)) (And.intro (blk_cell (blk_below HLD.out hb) (i := 0) (v := .int .i64 P) rfl) (blk_cell (blk_below HLD.out hb) (i := 1) (v := .int .i64 Q) rfl))); clear hb))
        go_wp2
        go_ret
        exact ⟨by rw [HBP.out, HR.out]; rfl, HB7.out⟩
    · have HWN := Lib.hid (pb_false (p := WOk (ntab a) y) (fun h => hvy h.x))
      rw [HWN.out] at HC
      have HNO := Lib.hid (pb_false (p := BestP a x y) (fun h => hvy (by rw [ntab_len]; exact h.ok.y)))
      clear hvy
      go_wp2_with fail
      refine HC.out.mono ?_
      rintro e w3 ⟨rfl, hb⟩
      have HB3 := Lib.hid (below_up (below_up HB2.out hb) (below_alloc w3 (.cells #[.int .i64 P, .int .i64 Q] 28)))
      clear hb HC HB2 HK2
      go_wp2_with fail
      go_quiet (fail)
      go_wp2
      go_ret
      exact ⟨by rw [HNO.out]; rfl, below_drewN HB3.out _⟩
  · have HNO := Lib.hid (pb_false (p := BestP a x y) (fun h => hok ⟨h.ok.v, h.ok.x⟩))
    rw [pb_false hok] at HC
    clear hok
    go_enter Try.func36, Try.ntmps36
    go_wp2_with fail
    refine HC.out.mono ?_
    rintro e w1 ⟨rfl, hb⟩
    have HB1 := Lib.hid (below_up (show Below w.heap.size w w1 from hb) (below_alloc w1 (.cells #[.int .i64 U, .int .i64 D] 28)))
    clear hb HC
    go_wp2
    go_ret
    exact ⟨by rw [HNO.out]; rfl, HB1.out⟩
end Go.Proofs.Ytgnbmanlpppdoaa

/- Best shares, by the program. -/
namespace Go.Proofs.Ytgnbmanlpppdoaa
open Go.RowKit
open V (Asc)

/-- The best shares of a table, each in memory of its own; none of what is no table. -/
def NewBS (w : World) (a : List (List Int)) (e : Ending) (w' : World) : Prop :=
  (VT a ∧ ∃ A1 c1 g1 A2 c2 g2, e = .returned (.tuple #[.slice A1 a.length c1, .slice A2 (gr a 0).length c2]) ∧ OwnI w.heap.size w'.heap.size w' g1 A1 a.length c1 (bx a) ∧
    OwnI w.heap.size w'.heap.size w' g2 A2 (gr a 0).length c2 (by_ a) ∧ g1 ≠ g2 ∧ Below w.heap.size w w') ∨
  (¬ VT a ∧ e = .returned (.tuple #[.slice none 0 0, .slice none 0 0]) ∧ Below w.heap.size w w')
theorem memL_pos : ∀ R, R < 8 → ∀ n, n < 4 → 1 ≤ R → R < 2 ^ n → 1 ≤ (memL R n).length := by decide
theorem shl_val {n : Nat} (h : n ≤ 3) : ∃ P : Nat, wrap64 ((2 : Int) ^ n) = (P : Int) ∧ P = 2 ^ n := by
  refine ⟨2 ^ n, ?_, rfl⟩
  have : n = 0 ∨ n = 1 ∨ n = 2 ∨ n = 3 := by omega
  rcases this with rfl | rfl | rfl | rfl <;> (unfold wrap64; decide)
/-- What sharesOn tells is best just if the part passes the model's test. -/
theorem tells_best {a : List (List Int)} (v : VT a) {k : Nat} {r s : Nat → Nat} (hk : k ≤ 3) (hr : Asc a.length k r) (hs : Asc (gr a 0).length k s) (T : Tells a k r s) :
    BestP a (shr a.length r (kX a r s k) k) (shr (gr a 0).length s (kY a r s k) k) ↔ KerP a k r s :=
  ⟨fun h => ⟨T.det, T.cx, T.cy, h.eq⟩, fun h => ⟨⟨v, (KerP.shares v hk hr hs T.cx T.cy).1, (KerP.shares v hk hr hs T.cx T.cy).2⟩, h.eq⟩⟩

set_option maxRecDepth 100000 in
set_option maxHeartbeats 4000000 in
theorem BestShares_impl (A : Option Addr) (n c : Nat) (a : List (List Int)) (w : World) (ha : IntRows w A n c a) :
    Calls Try.prog 41 #[.slice A n c] w (NewBS w a) := by
  have HA := Lib.hid ha
  by_cases hv : VT a
  · have HV := Lib.hid hv
    have HLEN := Lib.hid ha.len
    have hn1 := hv.n1
    have hn3 := hv.n3
    have hm1 := hv.m1
    have hm3 := hv.m3
    rw [ha.len] at hn1 hn3
    obtain ⟨b, o, rb, ro, cc, rfl, tab⟩ := ha.tab hv
    have hrow := tab.row 0 (by omega)
    simp only [Nat.add_zero] at hrow
    have HROW := Lib.hid hrow
    have HF := Lib.hid (first_of hv)
    have hS1 := HF.out.s1
    have hT1 := HF.out.t1
    obtain ⟨P, hP, hP2⟩ := shl_val hn3
    obtain ⟨Q, hQ, hQ2⟩ := shl_val hm3
    have hP8 : P ≤ 8 := by rw [hP2]; exact pow_le8 hn3
    have hQ8 : Q ≤ 8 := by rw [hQ2]; exact pow_le8 hm3
    have hSP : vS a < P := by rw [hP2]; have := HF.out.sn; rwa [HLEN.out] at this
    have hTQ : vT a < Q := by rw [hQ2]; exact HF.out.tm
    have HP2 := Lib.hid hP2
    have HQ2 := Lib.hid hQ2
    clear hP2 hQ2
    have hn0 : 0 < n := by omega
    have hn0' : (0 : Int) < (n : Int) := by omega
    have HC := Lib.hid (pb_true hv ▸ ValidTable_impl _ _ _ _ w HA.out)
    clear ha hv tab
    go_enter Try.func41, Try.ntmps41
    go_wp2_with fail
    refine HC.out.mono ?_
    rintro e w1 ⟨rfl, hq⟩
    have HB1 := Lib.hid (show Below w.heap.size w w1 from hq.below)
    clear hq HC hrow
    go_wp2
    go_loopw [4] (fun i wr => ∃ R : Nat, 1 ≤ R ∧ R ≤ vS a ∧ i = .int .i64 R ∧ Hid (Below w.heap.size w wr)) (fun i _ => 8 - (intOf i).toNat)
    case atStart => exact ⟨1, by omega, hS1, rfl, HB1⟩
    case round =>
      clear HB1
      obtain ⟨R, hR1, hR2, rfl, HB⟩ := hrel
      have hRP : (R : Int) < (P : Int) := by omega
      go_wp2
      rw [hP]
      generalize wr = w1 at *
      go_loopw [5] (fun i wi => ∃ T : Nat, 1 ≤ T ∧ T ≤ Q ∧ i = .int .i64 T ∧ Hid (R = vS a → T ≤ vT a) ∧ Hid (Below w1.heap.size w1 wi)) (fun i _ => 8 - (intOf i).toNat)
      case atStart => exact ⟨1, by omega, by omega, rfl, Lib.hid (fun _ => hT1), Lib.hid (Below.refl _ _)⟩
      case round =>
        obtain ⟨T, hT1', hT8', rfl, HRT, HBI⟩ := hrel
        have HBW := Lib.hid (below_up HB.out HBI.out)
        have hrow := Keep.below HBW.out _ _ HROW.out
        by_cases hlt : T < Q
        · have hTQ' : (T : Int) < (Q : Int) := by omega
          have HC := Lib.hid (membersOf_any R wr (by omega))
          rw [memL_all3 R (by omega) n (by omega) (by rw [← HP2.out]; omega)] at HC
          go_wp2_with fail
          refine HC.out.mono ?_
          rintro e w2 ⟨Ar, nr, cr, gr_, rfl, hnr, ho, hb⟩
          have HRI := Lib.hid (memL_pl ho.ints hnr)
          have HNR := Lib.hid (show nr = (memL R a.length).length by rw [HLEN.out]; exact hnr)
          have hnr3 : nr ≤ 3 := by have := memL_le R n; omega
          have hnr1 : 1 ≤ nr := by rw [hnr]; exact memL_pos R (by omega) n (by omega) hR1 (by rw [← HP2.out]; omega)
          have HBI2 := Lib.hid (below_up HBI.out hb)
          have HBW2 := Lib.hid (below_up HBW.out hb)
          clear hnr ho hb HC HBI HBW hrow
          have HC := Lib.hid (membersOf_any T w2 (by omega))
          rw [memL_all3 T (by omega) (gr a 0).length (by omega) (by rw [← HQ2.out]; omega)] at HC
          go_wp2_with fail
          refine HC.out.mono ?_
          rintro e w3 ⟨Ac, nc, cc2, gc, rfl, hnc, ho, hb⟩
          have HCI := Lib.hid (memL_pl ho.ints hnc)
          have HNC := Lib.hid hnc
          have hnc3 : nc ≤ 3 := by have := memL_le T (gr a 0).length; omega
          have HBI3 := Lib.hid (below_up HBI2.out hb)
          have HBW3 := Lib.hid (below_up HBW2.out hb)
          have HRP := Lib.hid (show Pl w3 Ar nr cr (idx R a.length) a.length by rw [HLEN.out]; exact HRI.out.keep (Keep.below hb))
          clear hnc ho hb HC HBI2 HBW2 HRI
          have HAR := Lib.hid (show Asc a.length nr (idx R a.length) by rw [HNR.out]; exact idx_asc _ _)
          have HAT := Lib.hid (show Asc (gr a 0).length nc (idx T (gr a 0).length) by rw [HNC.out]; exact idx_asc _ _)
          have HC := Lib.hid (sharesOn_any _ Ar Ac n c nr nc cr cc2 a (idx R a.length) (idx T (gr a 0).length) w3 (HA.out.keep (Keep.below HBW3.out)) HV.out HRP.out HCI.out hnr1 hnr3 hnc3 HAR.out HAT.out)
          have HKI : Hid (kerAt a R T ↔ nr = nc ∧ KerP a nr (idx R a.length) (idx T (gr a 0).length)) := Lib.hid (by
            unfold kerAt
            rw [← HNR.out, ← HNC.out]
            exact ⟨fun h => h.2, fun h => ⟨hnr1, h⟩⟩)
          have HNX : Hid (¬ kerAt a R T → R = vS a → T + 1 ≤ vT a) := Lib.hid (fun hk e => by
            have := HRT.out e
            have : T ≠ vT a := fun e2 => hk (by rw [e, e2]; exact HF.out.at_)
            omega)
          have HEQ : Hid (kerAt a R T → R = vS a ∧ T = vT a) := Lib.hid (fun hk => by
            by_cases e : R = vS a
            · refine ⟨e, ?_⟩
              apply Classical.byContradiction; intro h2
              have h1 := HRT.out e
              exact HF.out.noT T hT1' (by omega) (e ▸ hk)
            · exact absurd hk (HF.out.noS R T hR1 (by omega) hT1' (by omega)))
          go_wp2_with fail
          refine HC.out.mono ?_
          clear HC
          rintro e w4 hsn
          by_cases hts : nr = nc ∧ Tells a nr (idx R a.length) (idx T (gr a 0).length)
          · obtain ⟨A1, c1, g1, A2, c2, g2, rfl, o1, o2, hne, hb⟩ : ∃ A1 c1 g1 A2 c2 g2, e = .returned (.tuple #[.slice A1 a.length c1, .slice A2 (gr a 0).length c2]) ∧ OwnI w3.heap.size w4.heap.size w4 g1 A1 a.length c1 (shr a.length (idx R a.length) (kX a (idx R a.length) (idx T (gr a 0).length) nr) nr) ∧
                OwnI w3.heap.size w4.heap.size w4 g2 A2 (gr a 0).length c2 (shr (gr a 0).length (idx T (gr a 0).length) (kY a (idx R a.length) (idx T (gr a 0).length) nr) nr) ∧ g1 ≠ g2 ∧ Below w3.heap.size w3 w4 := by
              rcases hsn with ⟨_, _, h⟩ | ⟨h, _⟩
              · exact h
              · exact absurd hts h
            have HO1 := Lib.hid o1
            have HO2 := Lib.hid o2
            have HNE := Lib.hid hne
            have HBI4 := Lib.hid (below_up HBI3.out hb)
            have HBW4 := Lib.hid (below_up HBW3.out hb)
            have hz3 := HBW3.out.size
            have HTB := Lib.hid (tells_best HV.out hnr3 HAR.out (by rw [hts.1]; exact HAT.out) hts.2)
            have HRC := Lib.hid hts.1
            clear hsn o1 o2 hne hb hts HBI3 HBW3
            have HC := Lib.hid (AreBest_impl _ A1 A2 n c _ c1 _ c2 a _ _ w4 (HA.out.keep (Keep.below HBW4.out)) HO1.out.ints HO2.out.ints)
            by_cases hk : kerAt a R T
            · obtain ⟨e1, e2⟩ := HEQ.out hk
              rw [pb_true (HTB.out.2 (HKI.out.1 hk).2)] at HC
              have HEX : Hid (shr a.length (idx R a.length) (kX a (idx R a.length) (idx T (gr a 0).length) nr) nr = bx a ∧ shr (gr a 0).length (idx T (gr a 0).length) (kY a (idx R a.length) (idx T (gr a 0).length) nr) nr = by_ a) := Lib.hid (by
                have e : nr = bxk a := by rw [HNR.out, e1]; rfl
                rw [e, e1, e2]; exact ⟨rfl, rfl⟩)
              rw [HEX.out.1] at HO1
              rw [HEX.out.2] at HO2
              clear e1 e2 hk
              go_wp2_with fail
              refine HC.out.mono ?_
              rintro e w5 ⟨rfl, hb⟩
              have HB5 := Lib.hid (below_up HBW4.out hb)
              have HP1 := Lib.hid ((HO1.out.below hb).mono hz3 hb.size)
              have HP2 := Lib.hid ((HO2.out.below hb).mono hz3 hb.size)
              clear hb HC HO1 HO2
              go_wp2
              go_ret2
              exact .inl ⟨HV.out, A1, c1, g1, A2, c2, g2, rfl, HP1.out, HP2.out, HNE.out, HB5.out⟩
            · have HT2 := Lib.hid (HNX.out hk)
              rw [pb_false (fun h => hk (HKI.out.2 ⟨HRC.out, HTB.out.1 h⟩))] at HC
              clear hk
              go_wp2_with fail
              refine HC.out.mono ?_
              rintro e w5 ⟨rfl, hb⟩
              have HBI5 := Lib.hid (below_up HBI4.out hb)
              clear hb HC HO1 HO2
              go_wp2
              go_roundw
              case rel => exact ⟨T + 1, by omega, by omega, by go_num, HT2, HBI5⟩
              case measure => simp [intOf]; omega
          · obtain ⟨rfl, hb⟩ : e = .returned (.tuple #[.slice none 0 0, .slice none 0 0]) ∧ Below w3.heap.size w3 w4 := by
              rcases hsn with ⟨h1, h2, _⟩ | ⟨_, h⟩
              · exact absurd ⟨h1, h2⟩ hts
              · exact h
            have HBI4 := Lib.hid (below_up HBI3.out hb)
            have HBW4 := Lib.hid (below_up HBW3.out hb)
            have HT2 := Lib.hid (HNX.out (fun h => hts ⟨(HKI.out.1 h).1, (HKI.out.1 h).2.det, (HKI.out.1 h).2.cx, (HKI.out.1 h).2.cy⟩))
            have HC := Lib.hid (AreBest_impl _ none none n c 0 0 0 0 a [] [] w4 (HA.out.keep (Keep.below HBW4.out)) (OwnI.nil 0 0 w4 0).ints (OwnI.nil 0 0 w4 0).ints)
            rw [pb_false (p := BestP a [] []) (fun h => by have := h.ok.x.1; have := HV.out.n1; simp at *; omega)] at HC
            clear hsn hb hts HBI3 HBW3
            go_wp2_with fail
            refine HC.out.mono ?_
            rintro e w5 ⟨rfl, hb⟩
            have HBI5 := Lib.hid (below_up HBI4.out hb)
            clear hb HC
            go_wp2
            go_roundw
            case rel => exact ⟨T + 1, by omega, by omega, by go_num, HT2, HBI5⟩
            case measure => simp [intOf]; omega
        · obtain rfl : T = Q := by omega
          have hRS : R < vS a := by
            by_cases e : R = vS a
            · have := HRT.out e; omega
            · omega
          go_wp2
          go_roundw
          case rel => exact ⟨R + 1, by omega, by omega, by go_num, HBW⟩
          case measure => simp [intOf]; omega
  · have HV := Lib.hid hv
    have HC := Lib.hid (pb_false hv ▸ ValidTable_impl _ _ _ _ w HA.out)
    clear ha hv
    go_enter Try.func41, Try.ntmps41
    go_wp2_with fail
    refine HC.out.mono ?_
    rintro e w1 ⟨rfl, hq⟩
    have HB1 := Lib.hid (show Below w.heap.size w w1 from hq.below)
    clear hq HC
    go_wp2
    go_ret2
    exact .inr ⟨HV.out, rfl, HB1.out⟩
end Go.Proofs.Ytgnbmanlpppdoaa

/- The value and the best shares, by both programs. -/
namespace Go.Proofs.Ytgnbmanlpppdoaa
open Go.RowKit

/-- The value; 0 over 0 of what is no table. -/
noncomputable def vF (a : List (List Int)) : Int × Int := if pb (VT a) = true then wlast a (bx a) else (0, 0)
theorem vF_yes {a} (h : VT a) : vF a = wlast a (bx a) := by rw [vF, if_pos (pb_true h)]
theorem vF_no {a} (h : ¬ VT a) : vF a = (0, 0) := by rw [vF, if_neg (by rw [pb_false h]; decide)]
theorem bx_VS {a} (v : VT a) : VS (bx a) a.length := (best_is v).ok.x
theorem by_VS {a} (v : VT a) : VS (by_ a) (gr a 0).length := (best_is v).ok.y
/-- Best shares by the model: what they read as. -/
def NewBSs (w : World) (a : List (List Int)) (e : Ending) (w' : World) : Prop :=
  ∃ A1 n1 c1 A2 n2 c2, e = .returned (.tuple #[.slice A1 n1 c1, .slice A2 n2 c2]) ∧ Ints w' A1 n1 c1 (if pb (VT a) = true then bx a else []) ∧ Ints w' A2 n2 c2 (if pb (VT a) = true then by_ a else []) ∧ Below w.heap.size w w'

set_option maxRecDepth 100000 in
set_option maxHeartbeats 3200000 in
theorem BestShares_spec (A : Option Addr) (n c : Nat) (a : List (List Int)) (w : World) (ha : IntRows w A n c a) :
    Calls Try.prog 42 #[.slice A n c] w (NewBSs w a) := by
  have HA := Lib.hid ha
  clear ha
  by_cases hv : VT a
  · have HV := Lib.hid hv
    have HC := Lib.hid (pb_true hv ▸ validTable_any _ _ _ _ w HA.out)
    have HE := Lib.hid (pb_true hv)
    clear hv
    go_enter Try.func42, Try.ntmps42
    go_wp2_with fail
    refine HC.out.mono ?_
    rintro e w1 ⟨rfl, hq⟩
    have HB1 := Lib.hid (show Below w.heap.size w w1 from hq.below)
    clear hq HC
    have HC := Lib.hid (value_any A n c a w1 (HA.out.keep (Keep.below HB1.out)) HV.out)
    go_wp2_with fail
    refine HC.out.mono ?_
    rintro e w2 ⟨A1, c1, A2, c2, rfl, i1, i2, hb⟩
    have HI1 := Lib.hid i1
    have HI2 := Lib.hid i2
    have HB2 := Lib.hid (below_up HB1.out hb)
    clear i1 i2 hb HC HB1
    go_wp2
    go_ret2
    exact ⟨A1, _, c1, A2, _, c2, rfl, by rw [if_pos HE.out]; exact HI1.out, by rw [if_pos HE.out]; exact HI2.out, HB2.out⟩
  · have HC := Lib.hid (pb_false hv ▸ validTable_any _ _ _ _ w HA.out)
    have HE := Lib.hid (show ¬ pb (VT a) = true by rw [pb_false hv]; decide)
    clear hv
    go_enter Try.func42, Try.ntmps42
    go_wp2_with fail
    refine HC.out.mono ?_
    rintro e w1 ⟨rfl, hq⟩
    have HB1 := Lib.hid (show Below w.heap.size w w1 from hq.below)
    clear hq HC
    go_wp2
    go_ret2
    exact ⟨none, 0, 0, none, 0, 0, rfl, by rw [if_neg HE.out]; exact (OwnI.nil 0 0 w1 0).ints, by rw [if_neg HE.out]; exact (OwnI.nil 0 0 w1 0).ints, HB1.out⟩

set_option maxRecDepth 100000 in
set_option maxHeartbeats 3200000 in
theorem ValueOf_spec (A : Option Addr) (n c : Nat) (a : List (List Int)) (w : World) (ha : IntRows w A n c a) :
    Calls Try.prog 34 #[.slice A n c] w (Ret (.tuple #[wstV (vF a), .bool (pb (VT a))]) w) := by
  have HA := Lib.hid ha
  have HPF := Lib.hid (PF.start w)
  clear ha
  by_cases hv : VT a
  · have HV := Lib.hid hv
    have HC := Lib.hid (pb_true hv ▸ validTable_any _ _ _ _ _ (HA.out.keep HPF.out.keep))
    have HLEN := Lib.hid HA.out.len
    have HVX := Lib.hid (bx_VS hv)
    have HPB := Lib.hid (hv.pbx (bx_VS hv))
    rw [vF_yes hv, pb_true hv, wlast, HLEN.out]
    rw [HLEN.out] at HPB
    have hn1 := hv.n1
    rw [HA.out.len] at hn1
    obtain ⟨b, o, rb, ro, cc, rfl, tab⟩ := HA.out.tab HV.out
    have HT := Lib.hid tab
    clear tab hv
    go_enter Try.func34, Try.ntmps34
    go_wp2_with fail
    refine HC.out.mono ?_
    rintro e w1 ⟨rfl, hq⟩
    have HPF1 := Lib.hid (HPF.out.up hq.below)
    clear hq HC HPF
    have HC := Lib.hid (value_any _ n c a w1 (HA.out.keep HPF1.out.keep) HV.out)
    go_wp2_with fail
    refine HC.out.mono ?_
    rintro e w2 ⟨A1, c1, A2, c2, rfl, i1, _, hb⟩
    rw [HLEN.out] at i1
    rw [HLEN.out]
    have HI1 := Lib.hid i1
    have HPF2 := Lib.hid (HPF1.out.up hb)
    clear i1 hb HC HPF1
    have HC := Lib.hid (worst_any b o rb ro cc n _ c c1 A1 a (bx a) _ w2 (HT.out.keep HPF2.out.keep) HI1.out HPB.out HVX.out.2.2)
    go_wp2_with fail
    refine HC.out.mono ?_
    rintro e w3 ⟨rfl, hb⟩
    have HPF := Lib.hid (HPF2.out.up hb)
    clear hb HC HPF2
    have HFV : Hid (wstV (wst a (bx a) n (gr a 0).length ((gr a 0).length - 1)) = .agg #[.int .i64 (wst a (bx a) n (gr a 0).length ((gr a 0).length - 1)).1, .int .i64 (wst a (bx a) n (gr a 0).length ((gr a 0).length - 1)).2]) := Lib.hid rfl
    rw [HFV.out]
    generalize (wst a (bx a) n (gr a 0).length ((gr a 0).length - 1)).1 = U at *
    generalize (wst a (bx a) n (gr a 0).length ((gr a 0).length - 1)).2 = D at *
    have c0 := blk_cell HPF.out.box (i := 0) rfl
    have c1 := blk_cell HPF.out.box (i := 1) rfl
    have f0 := blk_frozen HPF.out.box 0
    have f1 := blk_frozen HPF.out.box 1
    go_wp2
    clear c0 c1 f0 f1
    have B1 := blk_set (blk_set HPF.out.box 0 (.int .i64 U)) 1 (.int .i64 D)
    have r0 := blk_cell B1 (i := 0) (v := .int .i64 U) rfl
    have r1 := blk_cell B1 (i := 1) (v := .int .i64 D) rfl
    have HBX := Lib.hid ((HPF.out.below.setCell (p := ⟨w.heap.size, 0, none⟩) (Nat.le_refl _) (.int .i64 U)).setCell (p := ⟨w.heap.size, 1, none⟩) (Nat.le_refl _) (.int .i64 D))
    clear B1 HPF
    generalize (w3.setCell ⟨w.heap.size, 0, none⟩ (.int .i64 U)).setCell ⟨w.heap.size, 1, none⟩ (.int .i64 D) = WE at *
    refine bodyPost_ret (v := .tuple #[.agg #[.int .i64 U, .int .i64 D], .bool true]) (by simp [results, Try.results34, go_sem, r0, r1]) rfl ?_
    exact ⟨by rw [HFV.out], HBX.out⟩
  · have HC := Lib.hid (pb_false hv ▸ validTable_any _ _ _ _ _ (HA.out.keep HPF.out.keep))
    rw [vF_no hv, pb_false hv]
    clear hv
    have HFV : Hid (wstV (0, 0) = .agg #[.int .i64 0, .int .i64 0]) := Lib.hid rfl
    rw [HFV.out]
    go_enter Try.func34, Try.ntmps34
    go_wp2_with fail
    refine HC.out.mono ?_
    rintro e w1 ⟨rfl, hq⟩
    have HPF1 := Lib.hid (HPF.out.up hq.below)
    clear hq HC HPF
    have HPF := HPF1
    clear HPF1
    have c0 := blk_cell HPF.out.box (i := 0) rfl
    have c1 := blk_cell HPF.out.box (i := 1) rfl
    have f0 := blk_frozen HPF.out.box 0
    have f1 := blk_frozen HPF.out.box 1
    go_wp2
    clear c0 c1 f0 f1
    have B1 := blk_set (blk_set HPF.out.box 0 (.int .i64 0)) 1 (.int .i64 0)
    have r0 := blk_cell B1 (i := 0) (v := .int .i64 0) rfl
    have r1 := blk_cell B1 (i := 1) (v := .int .i64 0) rfl
    have HBX := Lib.hid ((HPF.out.below.setCell (p := ⟨w.heap.size, 0, none⟩) (Nat.le_refl _) (.int .i64 0)).setCell (p := ⟨w.heap.size, 1, none⟩) (Nat.le_refl _) (.int .i64 0))
    clear B1 HPF
    generalize (w1.setCell ⟨w.heap.size, 0, none⟩ (.int .i64 0)).setCell ⟨w.heap.size, 1, none⟩ (.int .i64 0) = WE at *
    refine bodyPost_ret (v := .tuple #[.agg #[.int .i64 0, .int .i64 0], .bool false]) (by simp [results, Try.results34, go_sem, r0, r1]) rfl ?_
    exact ⟨rfl, HBX.out⟩

set_option maxRecDepth 100000 in
set_option maxHeartbeats 3200000 in
theorem ValueOf_impl (A : Option Addr) (n c : Nat) (a : List (List Int)) (w : World) (ha : IntRows w A n c a) :
    Calls Try.prog 16 #[.slice A n c] w (Ret (.tuple #[wstV (vF a), .bool (pb (VT a))]) w) := by
  have HA := Lib.hid ha
  have HPF := Lib.hid (PF.start w)
  clear ha
  have HC := Lib.hid (BestShares_impl A n c a _ (HA.out.keep HPF.out.keep))
  go_enter Try.func16, Try.ntmps16
  go_wp2_with fail
  refine HC.out.mono ?_
  rintro e w1 hbs
  have hx : ∃ A1 n1 c1 xs v2, e = .returned (.tuple #[.slice A1 n1 c1, v2]) ∧ Ints w1 A1 n1 c1 xs ∧ worF a xs = vF a ∧ pb (WOk a xs) = pb (VT a) ∧ Below (w.alloc (.cells #[.int .i64 0, .int .i64 0] 28)).heap.size (w.alloc (.cells #[.int .i64 0, .int .i64 0] 28)) w1 := by
    rcases hbs with ⟨hv, A1, c1, g1, A2, c2, g2, rfl, o1, _, _, hb⟩ | ⟨hv, rfl, hb⟩
    · exact ⟨A1, _, c1, bx a, _, rfl, o1.ints, by rw [vF_yes hv, worF_yes ⟨hv, bx_VS hv⟩], pb_congr ⟨fun h => h.v, fun h => ⟨h, bx_VS h⟩⟩, hb⟩
    · exact ⟨none, 0, 0, [], _, rfl, (OwnI.nil 0 0 w1 0).ints, by rw [vF_no hv, worF_no fun h => hv h.v], pb_congr ⟨fun h => h.v, fun h => absurd h hv⟩, hb⟩
  obtain ⟨A1, n1, c1, xs, v2, rfl, hi, hwv, hwo, hb⟩ := hx
  have HI := Lib.hid hi
  have HPF1 := Lib.hid (HPF.out.up hb)
  have HWV := Lib.hid hwv
  have HWO := Lib.hid hwo
  clear hbs hi hwv hwo hb HC HPF
  have HC := Lib.hid (WorstOf_impl A A1 n c n1 c1 a xs w1 (HA.out.keep HPF1.out.keep) HI.out)
  rw [HWV.out, HWO.out] at HC
  have HFV : Hid (wstV (vF a) = .agg #[.int .i64 (vF a).1, .int .i64 (vF a).2]) := Lib.hid rfl
  rw [HFV.out] at HC
  clear HWV
  generalize (vF a).1 = U at *
  generalize (vF a).2 = D at *
  generalize pb (VT a) = K at *
  go_wp2_with fail
  refine HC.out.mono ?_
  rintro e w2 ⟨rfl, hb⟩
  have HPF := Lib.hid (HPF1.out.up hb)
  clear hb HC HPF1
  have c0 := blk_cell HPF.out.box (i := 0) rfl
  have c1 := blk_cell HPF.out.box (i := 1) rfl
  have f0 := blk_frozen HPF.out.box 0
  have f1 := blk_frozen HPF.out.box 1
  go_wp2
  clear c0 c1 f0 f1
  have B1 := blk_set (blk_set HPF.out.box 0 (.int .i64 U)) 1 (.int .i64 D)
  have r0 := blk_cell B1 (i := 0) (v := .int .i64 U) rfl
  have r1 := blk_cell B1 (i := 1) (v := .int .i64 D) rfl
  have HBX := Lib.hid ((HPF.out.below.setCell (p := ⟨w.heap.size, 0, none⟩) (Nat.le_refl _) (.int .i64 U)).setCell (p := ⟨w.heap.size, 1, none⟩) (Nat.le_refl _) (.int .i64 D))
  clear B1 HPF
  generalize (w2.setCell ⟨w.heap.size, 0, none⟩ (.int .i64 U)).setCell ⟨w.heap.size, 1, none⟩ (.int .i64 D) = WE at *
  refine bodyPost_ret (v := .tuple #[.agg #[.int .i64 U, .int .i64 D], .bool K]) (by simp [results, Try.results16, go_sem, r0, r1]) rfl ?_
  exact ⟨by rw [HFV.out], HBX.out⟩

end Go.Proofs.Ytgnbmanlpppdoaa

/- The value from both sides. Plain. -/
namespace Go.Proofs.Ytgnbmanlpppdoaa

theorem ntab_row {a : List (List Int)} (v : VT a) {j : Nat} (hj : j < (gr a 0).length) : (gr (ntab a) j).length = a.length := by
  have h := VT.len v.ntab (i := j) (by rw [ntab_len]; exact hj)
  rw [h, v.ntab_m]
/-- Turned and with the other signs twice it is the table. -/
theorem ntab_ntab {a : List (List Int)} (v : VT a) : ntab (ntab a) = a := by
  have vn := v.ntab
  have l1 : (ntab (ntab a)).length = a.length := by rw [ntab_len, v.ntab_m]
  refine gr_ext l1 fun i hi => ?_
  rw [l1] at hi
  have hi' : i < (gr (ntab a) 0).length := by rw [v.ntab_m]; exact hi
  have r1 := ntab_row vn hi'
  rw [ntab_len] at r1
  have r2 := VT.len v hi
  refine gi_ext (by omega) fun j hj => ?_
  have hj' : j < (gr a 0).length := by omega
  have e1 := vn.ntab_neg j i (by rw [ntab_len]; exact hj') hi'
  have e2 := v.ntab_neg i j hi hj'
  unfold g2 at e1 e2
  omega
theorem duo_of {a : List (List Int)} {x y : List Int} (v : VT a) (hx : VS x a.length) (hy : VS y (gr a 0).length) : Duo a (ntab a) x y a.length (gr a 0).length :=
  ⟨v.n1, v.m1, v.ntab_neg, by have := hx.1; omega, by have := hy.1; omega, fun i hi => (hx.2.1 i (by have := hx.1; omega)).1, fun j hj => (hy.2.1 j (by have := hy.1; omega)).1, hx.2.2, hy.2.2⟩
theorem wlast_n (a : List (List Int)) (x : List Int) : wlast a x = wst a x a.length (gr a 0).length ((gr a 0).length - 1) := rfl
theorem wlast_t {a : List (List Int)} (v : VT a) (y : List Int) : wlast (ntab a) y = wst (ntab a) y (gr a 0).length a.length (a.length - 1) := wlast_def _ _ _ _ (ntab_len a) v.ntab_m
/-- Less or the same, of fractions. -/
def leF (p q : Int × Int) : Prop := p.1 * q.2 ≤ q.1 * p.2
theorem weak_of {a : List (List Int)} {x y : List Int} (v : VT a) (hx : VS x a.length) (hy : VS y (gr a 0).length) : leF (wlast a x) (-(wlast (ntab a) y).1, (wlast (ntab a) y).2) := by
  rw [wlast_n, wlast_t v]; exact (duo_of v hx hy).weak
/-- No shares make more sure than the value. -/
theorem le_value {a : List (List Int)} {x : List Int} (v : VT a) (hx : VS x a.length) : leF (wlast a x) (vF a) := by
  rw [vF_yes v, (best_is v).eq]; exact weak_of v hx (by_VS v)
/-- .. and no shares of columns let less through. -/
theorem value_le {a : List (List Int)} {y : List Int} (v : VT a) (hy : VS y (gr a 0).length) : leF (vF a) (-(wlast (ntab a) y).1, (wlast (ntab a) y).2) := by
  rw [vF_yes v]; exact weak_of v (bx_VS v) hy
theorem best_same {a : List (List Int)} {x y : List Int} (v : VT a) (h : BestP a x y) : wlast a x = vF a := by
  rw [vF_yes v]
  have e1 := h.eq
  have e2 := (best_is v).eq
  rw [wlast_n, wlast_t v] at e1 e2
  exact (duo_of v h.ok.x h.ok.y).same e1 (duo_of v (bx_VS v) (by_VS v)) e2
/-- The other player's value is it with the other sign. -/
theorem vF_ntab {a : List (List Int)} (v : VT a) : vF (ntab a) = (-(vF a).1, (vF a).2) := by
  have B := best_is v.ntab
  have e := B.eq
  rw [ntab_ntab v] at e
  have hx := B.ok.x
  have hy := B.ok.y
  rw [ntab_len] at hx
  rw [v.ntab_m] at hy
  have B2 : BestP a (by_ (ntab a)) (bx (ntab a)) := ⟨⟨v, hy, hx⟩, by rw [e]; simp⟩
  rw [vF_yes v.ntab, e, best_same v B2]
theorem vF_bd {a : List (List Int)} (v : VT a) : (-81000000 ≤ (vF a).1 ∧ (vF a).1 ≤ 81000000) ∧ 1 ≤ (vF a).2 ∧ (vF a).2 ≤ 3000 := by rw [vF_yes v]; exact wlast_bd v (bx_VS v)
/-- Shares that make the value sure, against shares that let no more through, are best; and so is no other pair. -/
theorem best_iff {a : List (List Int)} {x y : List Int} (v : VT a) (hx : VS x a.length) (hy : VS y (gr a 0).length) : BestP a x y ↔ wlast a x = vF a ∧ wlast (ntab a) y = (-(vF a).1, (vF a).2) := by
  constructor
  · intro h
    have e := best_same v h
    refine ⟨e, ?_⟩
    have := h.eq
    rw [e] at this
    rw [this]; simp
  · rintro ⟨h1, h2⟩
    exact ⟨⟨v, hx, hy⟩, by rw [h1, h2]; simp⟩
end Go.Proofs.Ytgnbmanlpppdoaa

/- Fractions of whole numbers; one alone is a share; the pure rests. Plain. -/
namespace Go.Proofs.Ytgnbmanlpppdoaa

theorem fr_one (u : Int) : frU u 1 = u ∧ frD u 1 = 1 := by
  have g : gcdI u 1 = 1 := by unfold gcdI; simp
  unfold frU frD; rw [g]; simp
theorem frV_one (u : Int) : frV u 1 = .agg #[.int .i64 u, .int .i64 1] := by unfold frV; rw [(fr_one u).1, (fr_one u).2]
theorem onl_VS {n i : Nat} (hi : i < n) : VS (onl n i) n :=
  ⟨by rw [onl_len], fun j hj => by rw [onl_len] at hj; have := onl_bd (n := n) (i := i) hj; exact ⟨this.1, by omega⟩, by rw [tot_onl hi]; omega⟩
theorem rowRests_mem {a b : List (List Int)} {n m i : Nat} {r : List Int} : ∀ {j : Nat}, r ∈ rowRests a b n m i j ↔ ∃ l, l < j ∧ r = [(i : Int), (l : Int)] ∧ RestAt a b n m i l
  | 0 => by simp [rowRests]
  | j + 1 => by
    rw [rowRests, List.mem_append, rowRests_mem]
    constructor
    · rintro (⟨l, h1, h2⟩ | h)
      · exact ⟨l, by omega, h2⟩
      · split at h
        · rename_i hp
          simp only [List.mem_singleton] at h
          exact ⟨j, by omega, h, pb_iff.1 hp⟩
        · simp at h
    · rintro ⟨l, h1, h2, h3⟩
      by_cases e : l = j
      · subst e
        right
        rw [if_pos (pb_true h3), h2]; simp
      · exact .inl ⟨l, by omega, h2, h3⟩
theorem allRests_mem {a b : List (List Int)} {n m : Nat} {r : List Int} : ∀ {i : Nat}, r ∈ allRests a b n m i ↔ ∃ k l, k < i ∧ l < m ∧ r = [(k : Int), (l : Int)] ∧ RestAt a b n m k l
  | 0 => by simp [allRests]
  | i + 1 => by
    rw [allRests, List.mem_append, allRests_mem, rowRests_mem]
    constructor
    · rintro (⟨k, l, h1, h2⟩ | ⟨l, h2⟩)
      · exact ⟨k, l, by omega, h2⟩
      · exact ⟨i, l, by omega, h2⟩
    · rintro ⟨k, l, h1, h2⟩
      by_cases e : k = i
      · subst e; exact .inr ⟨l, h2⟩
      · exact .inl ⟨k, l, by omega, h2⟩
end Go.Proofs.Ytgnbmanlpppdoaa

/- Small functions of the laws. -/
namespace Go.Proofs.Ytgnbmanlpppdoaa
open Go.RowKit

set_option maxHeartbeats 400000 in
theorem divisor_any (a b : Int) (w : World) (ha : Mid a) (hb : Mid b) :
    Calls Try.prog 29 #[.int .i64 a, .int .i64 b] w fun e w' => e = .returned (.int .i64 (gcdI a b)) ∧ Quiet w w' := by
  have HA := Lib.hid ha
  have HB := Lib.hid hb
  clear ha hb
  go_enter Try.func29, Try.ntmps29
  go_wp2
  go_loopw [0, 1] (fun s t wr => ∃ x y : Int, s = .int .i64 x ∧ t = .int .i64 y ∧ Hid (Mid x) ∧ Hid (Mid y) ∧ Hid (gcdI x y = gcdI a b) ∧ Quiet w wr) (fun _ t _ => (intOf t).natAbs)
  case atStart => exact ⟨a, b, rfl, rfl, HA, HB, Lib.hid rfl, Quiet.refl _⟩
  case round =>
    obtain ⟨x, y, rfl, rfl, HX, HY, HG, q, rfl⟩ := hrel
    obtain ⟨x1, x2⟩ := HX.out
    obtain ⟨y1, y2⟩ := HY.out
    by_cases hy : y = 0
    · subst hy
      have hg := Lib.hid (gcdI_zero x)
      go_wp2
      all_goals go_ret
      all_goals exact ⟨ret_int (by rw [← HG.out, hg.out]; omega), ⟨_, rfl⟩⟩
    · have hy' : (y != 0) = true := by simpa using hy
      have HM := Lib.hid (HX.out.tmod (y := y))
      have HS := Lib.hid (gcdI_step x y)
      have HT := Lib.hid (tmod_abs (a := x) hy)
      go_wp2
      go_roundw
      case rel => exact ⟨y, x.tmod y, rfl, rfl, HY, HM, Lib.hid (HS.out.trans HG.out), ⟨_, rfl⟩⟩
      case measure => have := HT.out; simpa [intOf] using this

set_option maxHeartbeats 400000 in
theorem lessOf_any (u d v e : Int) (w : World) (hu : -1000000000 ≤ u ∧ u ≤ 1000000000) (hv : -1000000000 ≤ v ∧ v ≤ 1000000000) (hd : 0 ≤ d ∧ d ≤ 1000000000) (he : 0 ≤ e ∧ e ≤ 1000000000) :
    Calls Try.prog 20 #[.agg #[.int .i64 u, .int .i64 d], .agg #[.int .i64 v, .int .i64 e]] w (Ret (.bool (lessB u d v e)) w) := by
  obtain ⟨p1, p2⟩ := less_bd hu he
  obtain ⟨p3, p4⟩ := less_bd hv hd
  have b0 := blk_old (blk_new w 28 #[.int .i64 u, .int .i64 d]) (.cells #[.int .i64 v, .int .i64 e] 28)
  have b1 := blk_new (w.alloc (.cells #[.int .i64 u, .int .i64 d] 28)) 28 #[.int .i64 v, .int .i64 e]
  have HB := Lib.hid (below_up (below_alloc w (.cells #[.int .i64 u, .int .i64 d] 28)) (below_alloc _ (.cells #[.int .i64 v, .int .i64 e] 28)))
  rw [World.size_alloc] at b1
  have c0 := blk_cell b0 (i := 0) rfl
  have c1 := blk_cell b0 (i := 1) rfl
  have c2 := blk_cell b1 (i := 0) rfl
  have c3 := blk_cell b1 (i := 1) rfl
  go_enter Try.func20, Try.ntmps20
  go_wp2
  go_ret
  exact ⟨rfl, HB.out⟩
set_option maxHeartbeats 400000 in
theorem total_any (A : Option Addr) (n c : Nat) (xs : List Int) (w : World) (hx : Ints w A n c xs) (hs : SumOk xs) :
    Calls Try.prog 28 #[.slice A n c] w fun e w' => e = .returned (.int .i64 (tot xs)) ∧ Quiet w w' := by
  have hl : n ≤ 1000 := by rw [← hx.len]; exact hs.n
  have HX := Lib.hid hx
  have HS := Lib.hid hs
  have HL := Lib.hid hx.len
  clear hx hs
  go_enter Try.func28, Try.ntmps28
  go_wp2
  go_loopw [3, 4] (fun s i wr => ∃ k : Nat, k ≤ n ∧ i = .int .i64 k ∧ s = .int .i64 (sm xs k) ∧ Quiet w wr) (fun _ i _ => n - (intOf i).toNat)
  case atStart => exact ⟨0, Nat.zero_le _, rfl, rfl, Quiet.refl _⟩
  case round =>
    obtain ⟨k, hk, rfl, rfl, q, rfl⟩ := hrel
    by_cases hlt : k < n
    · obtain ⟨b, o, rfl, hc⟩ := HX.out.at_ (by omega)
      have c1 := hc k hlt
      obtain ⟨b1, b2⟩ := HS.out.sm (k := k) (by rw [HL.out]; exact hk)
      obtain ⟨b3, b4⟩ := HS.out.bd k (by rw [HL.out]; exact hlt)
      clear hc
      go_wp2
      go_roundw
      case rel => exact ⟨k + 1, by omega, by go_num, rfl, ⟨_, rfl⟩⟩
      case measure => simp [intOf]; omega
    · obtain rfl : k = n := by omega
      go_wp2
      go_ret
      exact ⟨ret_int (by rw [tot, HL.out]), ⟨_, rfl⟩⟩

set_option maxHeartbeats 1000000 in
theorem fracOfL_any (u d : Int) (w : World) (hu : Mid u) (hd : Mid d) (h1 : 1 ≤ d) :
    Calls Try.prog 21 #[.int .i64 u, .int .i64 d] w (Ret (frV u d) w) := by
  have HQ := Lib.hid (fun W => divisor_any u d W hu hd)
  have hg1 := gcdI_pos (a := u) (b := d) (by omega)
  have hg2 := gcdI_le (a := u) (b := d) (by omega)
  obtain ⟨u1, u2⟩ := hu
  obtain ⟨d1, d2⟩ := hd
  have hB := Lib.hid (below_alloc w (.cells #[.int .i64 0, .int .i64 0] 28))
  go_enter Try.func21, Try.ntmps21
  go_wp2_with fail
  refine (HQ.out _).mono ?_
  rintro e w2 ⟨rfl, hq⟩
  have HFU : Hid (frU u d = u.tdiv (gcdI u d)) := Lib.hid rfl
  have HFD : Hid (frD u d = d / gcdI u d) := Lib.hid (by unfold frD; rw [Int.tdiv_eq_ediv_of_nonneg (by omega)])
  have b0 := blk_quiet (blk_new w 28 #[.int .i64 0, .int .i64 0]) hq
  have HBW := Lib.hid (below_quiet hB.out hq)
  clear hq hB HQ
  generalize gcdI u d = g at *
  have c0 := blk_cell b0 (i := 0) rfl
  have c1 := blk_cell b0 (i := 1) rfl
  have f0 := blk_frozen b0 0
  have f1 := blk_frozen b0 1
  have g0 : (g == 0) = false := by simp; omega
  go_wp2
  go_region
  all_goals clear c0 c1 f0 f1
  all_goals go_wp2
  have B1 := blk_set (blk_set b0 0 (.int .i64 (u.tdiv g))) 1 (.int .i64 (d / g))
  have r0 := blk_cell B1 (i := 0) (v := .int .i64 (u.tdiv g)) rfl
  have r1 := blk_cell B1 (i := 1) (v := .int .i64 (d / g)) rfl
  have HBX := Lib.hid ((HBW.out.setCell (p := ⟨w.heap.size, 0, none⟩) (Nat.le_refl _) (.int .i64 (u.tdiv g))).setCell (p := ⟨w.heap.size, 1, none⟩) (Nat.le_refl _) (.int .i64 (d / g))).drew
  replace r0 : ((w2.setCell ⟨w.heap.size, 0, none⟩ (.int .i64 (u.tdiv g))).setCell ⟨w.heap.size, 1, none⟩ (.int .i64 (d / g))).drew.cell? ⟨w.heap.size, 0, none⟩ = some (.int .i64 (u.tdiv g)) := r0
  replace r1 : ((w2.setCell ⟨w.heap.size, 0, none⟩ (.int .i64 (u.tdiv g))).setCell ⟨w.heap.size, 1, none⟩ (.int .i64 (d / g))).drew.cell? ⟨w.heap.size, 1, none⟩ = some (.int .i64 (d / g)) := r1
  clear B1 b0 HBW
  generalize ((w2.setCell ⟨w.heap.size, 0, none⟩ (.int .i64 (u.tdiv g))).setCell ⟨w.heap.size, 1, none⟩ (.int .i64 (d / g))).drew = W3 at *
  refine bodyPost_ret (v := .agg #[.int .i64 (u.tdiv g), .int .i64 (d / g)]) (by simp [results, Try.results21, go_sem, r0, r1]) rfl ?_
  exact ⟨by rw [frV, HFU.out, HFD.out], HBX.out⟩
set_option maxHeartbeats 1000000 in
theorem plusOf_any (u d v e : Int) (w : World) (hu : -100000000 ≤ u ∧ u ≤ 100000000) (hv : -100000000 ≤ v ∧ v ≤ 100000000) (hd : 1 ≤ d ∧ d ≤ 10000000) (he : 1 ≤ e ∧ e ≤ 10000000) (hm : Mid (u * e + v * d)) :
    Calls Try.prog 26 #[.agg #[.int .i64 u, .int .i64 d], .agg #[.int .i64 v, .int .i64 e]] w (Ret (frV (u * e + v * d) (d * e)) w) := by
  obtain ⟨p1, p2⟩ := mulbd (x := u) (y := e) (A := 100000000) (B := 10000000) hu (by omega)
  obtain ⟨p3, p4⟩ := mulbd (x := v) (y := d) (A := 100000000) (B := 10000000) hv (by omega)
  obtain ⟨p5, p6⟩ := mulbd (x := d) (y := e) (A := 10000000) (B := 10000000) (by omega) (by omega)
  obtain ⟨p7, p8⟩ := mulbd (x := u) (y := v) (A := 100000000) (B := 100000000) hu hv
  have p9 : 1 ≤ d * e := by have h : 1 * 1 ≤ d * e := Int.mul_le_mul hd.1 he.1 (by omega) (by omega); omega
  have HC := Lib.hid (fun W => fracOfL_any (u * e + v * d) (d * e) W hm (by unfold Mid; omega) p9)
  have b0 := blk_old (blk_old (blk_new w 28 #[.int .i64 u, .int .i64 d]) (.cells #[.int .i64 v, .int .i64 e] 28)) (.cells #[.int .i64 0, .int .i64 0] 28)
  have b1 := blk_old (blk_new (w.alloc (.cells #[.int .i64 u, .int .i64 d] 28)) 28 #[.int .i64 v, .int .i64 e]) (.cells #[.int .i64 0, .int .i64 0] 28)
  have b2 := blk_new ((w.alloc (.cells #[.int .i64 u, .int .i64 d] 28)).alloc (.cells #[.int .i64 v, .int .i64 e] 28)) 28 #[.int .i64 0, .int .i64 0]
  have HB := Lib.hid (below_up (below_up (below_alloc w (.cells #[.int .i64 u, .int .i64 d] 28)) (below_alloc _ (.cells #[.int .i64 v, .int .i64 e] 28))) (below_alloc _ (.cells #[.int .i64 0, .int .i64 0] 28)))
  have HFV : Hid (frV (u * e + v * d) (d * e) = .agg #[.int .i64 (frU (u * e + v * d) (d * e)), .int .i64 (frD (u * e + v * d) (d * e))]) := Lib.hid rfl
  rw [HFV.out] at HC
  simp only [World.size_alloc] at b1 b2
  have c0 := blk_cell b0 (i := 0) rfl
  have c1 := blk_cell b0 (i := 1) rfl
  have c2 := blk_cell b1 (i := 0) rfl
  have c3 := blk_cell b1 (i := 1) rfl
  have HB2 := Lib.hid b2
  clear b0 b1 b2
  go_enter Try.func26, Try.ntmps26
  go_wp2_with fail
  clear c0 c1 c2 c3
  generalize ((w.alloc (.cells #[.int .i64 u, .int .i64 d] 28)).alloc (.cells #[.int .i64 v, .int .i64 e] 28)).alloc (.cells #[.int .i64 0, .int .i64 0] 28) = w1 at *
  refine (HC.out _).mono ?_
  rintro e w2 ⟨rfl, hb⟩
  have b0 := blk_below HB2.out hb
  have HBW := Lib.hid (below_up HB.out hb)
  clear hb HC HB HB2
  generalize frU (u * e + v * d) (d * e) = U at *
  generalize frD (u * e + v * d) (d * e) = D at *
  have c0 := blk_cell b0 (i := 0) rfl
  have c1 := blk_cell b0 (i := 1) rfl
  have f0 := blk_frozen b0 0
  have f1 := blk_frozen b0 1
  go_wp2
  clear c0 c1 f0 f1
  have B1 := blk_set (blk_set b0 0 (.int .i64 U)) 1 (.int .i64 D)
  have r0 := blk_cell B1 (i := 0) (v := .int .i64 U) rfl
  have r1 := blk_cell B1 (i := 1) (v := .int .i64 D) rfl
  have hle : w.heap.size ≤ w.heap.size + 1 + 1 := by omega
  have HBX := Lib.hid ((HBW.out.setCell (p := ⟨w.heap.size + 1 + 1, 0, none⟩) hle (.int .i64 U)).setCell (p := ⟨w.heap.size + 1 + 1, 1, none⟩) hle (.int .i64 D))
  clear B1 b0 HBW
  generalize (w2.setCell ⟨w.heap.size + 1 + 1, 0, none⟩ (.int .i64 U)).setCell ⟨w.heap.size + 1 + 1, 1, none⟩ (.int .i64 D) = WE at *
  refine bodyPost_ret (v := .agg #[.int .i64 U, .int .i64 D]) (by simp [results, Try.results26, go_sem, r0, r1]) rfl ?_
  exact ⟨by rw [HFV.out], HBX.out⟩
set_option maxHeartbeats 1000000 in
theorem timesOf_any (u d v e : Int) (w : World) (hu : -1000000 ≤ u ∧ u ≤ 1000000) (hv : -1000000 ≤ v ∧ v ≤ 1000000) (hd : 1 ≤ d ∧ d ≤ 1000000) (he : 1 ≤ e ∧ e ≤ 1000000) :
    Calls Try.prog 27 #[.agg #[.int .i64 u, .int .i64 d], .agg #[.int .i64 v, .int .i64 e]] w (Ret (frV (u * v) (d * e)) w) := by
  obtain ⟨p1, p2⟩ := mulbd (x := u) (y := e) (A := 1000000) (B := 1000000) hu (by omega)
  obtain ⟨p3, p4⟩ := mulbd (x := v) (y := d) (A := 1000000) (B := 1000000) hv (by omega)
  obtain ⟨p5, p6⟩ := mulbd (x := d) (y := e) (A := 1000000) (B := 1000000) (by omega) (by omega)
  obtain ⟨p7, p8⟩ := mulbd (x := u) (y := v) (A := 1000000) (B := 1000000) hu hv
  have p9 : 1 ≤ d * e := by have h : 1 * 1 ≤ d * e := Int.mul_le_mul hd.1 he.1 (by omega) (by omega); omega
  have HC := Lib.hid (fun W => fracOfL_any (u * v) (d * e) W (by unfold Mid; omega) (by unfold Mid; omega) p9)
  have b0 := blk_old (blk_old (blk_new w 28 #[.int .i64 u, .int .i64 d]) (.cells #[.int .i64 v, .int .i64 e] 28)) (.cells #[.int .i64 0, .int .i64 0] 28)
  have b1 := blk_old (blk_new (w.alloc (.cells #[.int .i64 u, .int .i64 d] 28)) 28 #[.int .i64 v, .int .i64 e]) (.cells #[.int .i64 0, .int .i64 0] 28)
  have b2 := blk_new ((w.alloc (.cells #[.int .i64 u, .int .i64 d] 28)).alloc (.cells #[.int .i64 v, .int .i64 e] 28)) 28 #[.int .i64 0, .int .i64 0]
  have HB := Lib.hid (below_up (below_up (below_alloc w (.cells #[.int .i64 u, .int .i64 d] 28)) (below_alloc _ (.cells #[.int .i64 v, .int .i64 e] 28))) (below_alloc _ (.cells #[.int .i64 0, .int .i64 0] 28)))
  have HFV : Hid (frV (u * v) (d * e) = .agg #[.int .i64 (frU (u * v) (d * e)), .int .i64 (frD (u * v) (d * e))]) := Lib.hid rfl
  rw [HFV.out] at HC
  simp only [World.size_alloc] at b1 b2
  have c0 := blk_cell b0 (i := 0) rfl
  have c1 := blk_cell b0 (i := 1) rfl
  have c2 := blk_cell b1 (i := 0) rfl
  have c3 := blk_cell b1 (i := 1) rfl
  have HB2 := Lib.hid b2
  clear b0 b1 b2
  go_enter Try.func27, Try.ntmps27
  go_wp2_with fail
  clear c0 c1 c2 c3
  generalize ((w.alloc (.cells #[.int .i64 u, .int .i64 d] 28)).alloc (.cells #[.int .i64 v, .int .i64 e] 28)).alloc (.cells #[.int .i64 0, .int .i64 0] 28) = w1 at *
  refine (HC.out _).mono ?_
  rintro e w2 ⟨rfl, hb⟩
  have b0 := blk_below HB2.out hb
  have HBW := Lib.hid (below_up HB.out hb)
  clear hb HC HB HB2
  generalize frU (u * v) (d * e) = U at *
  generalize frD (u * v) (d * e) = D at *
  have c0 := blk_cell b0 (i := 0) rfl
  have c1 := blk_cell b0 (i := 1) rfl
  have f0 := blk_frozen b0 0
  have f1 := blk_frozen b0 1
  go_wp2
  clear c0 c1 f0 f1
  have B1 := blk_set (blk_set b0 0 (.int .i64 U)) 1 (.int .i64 D)
  have r0 := blk_cell B1 (i := 0) (v := .int .i64 U) rfl
  have r1 := blk_cell B1 (i := 1) (v := .int .i64 D) rfl
  have hle : w.heap.size ≤ w.heap.size + 1 + 1 := by omega
  have HBX := Lib.hid ((HBW.out.setCell (p := ⟨w.heap.size + 1 + 1, 0, none⟩) hle (.int .i64 U)).setCell (p := ⟨w.heap.size + 1 + 1, 1, none⟩) hle (.int .i64 D))
  clear B1 b0 HBW
  generalize (w2.setCell ⟨w.heap.size + 1 + 1, 0, none⟩ (.int .i64 U)).setCell ⟨w.heap.size + 1 + 1, 1, none⟩ (.int .i64 D) = WE at *
  refine bodyPost_ret (v := .agg #[.int .i64 U, .int .i64 D]) (by simp [results, Try.results27, go_sem, r0, r1]) rfl ?_
  exact ⟨by rw [HFV.out], HBX.out⟩
/-- Whether a list has a number. -/
def HasN (xs : List Int) (x : Int) : Prop := ∃ k, k < xs.length ∧ gi xs k = x
set_option maxHeartbeats 400000 in
theorem isIn_any (A : Option Addr) (n c : Nat) (xs : List Int) (x : Int) (w : World) (hx : Ints w A n c xs) :
    Calls Try.prog 19 #[.slice A n c, .int .i64 x] w fun e w' => e = .returned (.bool (pb (HasN xs x))) ∧ Quiet w w' := by
  have hl := hx.max
  have HX := Lib.hid hx
  have HL := Lib.hid hx.len
  clear hx
  go_enter Try.func19, Try.ntmps19
  go_wp2
  go_loopw [5] (fun i wr => ∃ k : Nat, k ≤ n ∧ i = .int .i64 k ∧ Hid (∀ j, j < k → gi xs j ≠ x) ∧ Quiet w wr) (fun i _ => n - (intOf i).toNat)
  case atStart => exact ⟨0, Nat.zero_le _, rfl, Lib.hid (fun _ h => absurd h (by omega)), Quiet.refl _⟩
  case round =>
    obtain ⟨k, hk, rfl, HN, q, rfl⟩ := hrel
    by_cases hlt : k < n
    · obtain ⟨b, o, rfl, hc⟩ := HX.out.at_ (by omega)
      have c1 := hc k hlt
      clear hc
      by_cases he : gi xs k = x
      · have HR := Lib.hid (pb_true (p := HasN xs x) ⟨k, by rw [HL.out]; exact hlt, he⟩)
        have hd : (gi xs k == x) = true := by simpa using he
        clear he
        go_wp2
        go_ret
        exact ⟨ret_bool HR.out.symm, ⟨_, rfl⟩⟩
      · have HE := Lib.hid he
        have hd : (gi xs k == x) = false := by simpa using he
        clear he
        go_wp2
        go_roundw
        case rel => exact ⟨k + 1, by omega, by go_num, Lib.hid (fun j hj => by
          by_cases hjk : j < k
          · exact HN.out j hjk
          · obtain rfl : j = k := by omega
            exact HE.out), ⟨_, rfl⟩⟩
        case measure => simp [intOf]; omega
    · obtain rfl : k = n := by omega
      have HR := Lib.hid (pb_false (p := HasN xs x) (fun ⟨j, hj, e⟩ => HN.out j (by rw [← HL.out]; exact hj) e))
      go_wp2
      go_ret
      exact ⟨ret_bool HR.out.symm, ⟨_, rfl⟩⟩
set_option maxHeartbeats 400000 in
theorem equalInts_any (A B : Option Addr) (n c m d : Nat) (xs ys : List Int) (w : World) (hx : Ints w A n c xs) (hy : Ints w B m d ys) :
    Calls Try.prog 43 #[.slice A n c, .slice B m d] w fun e w' => e = .returned (.bool (eqI xs ys)) ∧ Quiet w w' := by
  obtain ⟨lx, cx, mx, _, hx⟩ := hx
  obtain ⟨ly, cy, my, _, hy⟩ := hy
  have Lx := Lib.hid lx
  have Ly := Lib.hid ly
  clear lx ly
  by_cases hnm : n = m
  · subst hnm
    go_enter Try.func43, Try.ntmps43
    go_wp2
    go_loopw [5] (fun i wr => ∃ k : Nat, k ≤ n ∧ i = .int .i64 k ∧ (∀ j, j < k → gi xs j = gi ys j) ∧ Quiet w wr) (fun i _ => n - (intOf i).toNat)
    case atStart => exact ⟨0, Nat.zero_le _, rfl, fun _ h => absurd h (by omega), Quiet.refl _⟩
    case round =>
      obtain ⟨k, hk, rfl, hall, q, rfl⟩ := hrel
      have HALL := Lib.hid hall
      clear hall
      by_cases hlt : k < n
      · obtain ⟨b, o, rfl, hcx⟩ := hx (by omega)
        obtain ⟨b2, o2, rfl, hcy⟩ := hy (by omega)
        have c1 := hcx k hlt
        have c2 := hcy k hlt
        clear hx hy hcx hcy
        by_cases he : gi xs k = gi ys k
        · have he' : (gi xs k != gi ys k) = false := by simp [he]
          have HE := Lib.hid he
          clear he
          go_wp2
          go_quiet (fail)
          go_wp2
          go_roundw
          case rel => exact ⟨k + 1, by omega, by go_num, fun j hj => by
            by_cases hjk : j < k
            · exact HALL.out j hjk
            · obtain rfl : j = k := by omega
              exact HE.out, ⟨_, rfl⟩⟩
          case measure => simp [intOf]; omega
        · have he' : (gi xs k != gi ys k) = true := by simpa using he
          go_wp2
          go_quiet (fail)
          go_wp2
          go_ret
          exact ⟨ret_bool (eqI_no he).symm, Quiet.two _ _ _⟩
      · obtain rfl : k = n := by omega
        go_wp2
        go_ret
        exact ⟨ret_bool (eqI_yes (by rw [Lx.out, Ly.out]) fun j hj => HALL.out j (by rw [Lx.out] at hj; exact hj)).symm, ⟨_, rfl⟩⟩
  · go_enter Try.func43, Try.ntmps43
    go_wp2
    go_ret
    exact ⟨ret_bool (eqI_len (by rw [Lx.out, Ly.out]; exact hnm)).symm, Quiet.refl _⟩

end Go.Proofs.Ytgnbmanlpppdoaa

/- What one row alone makes sure. Plain. -/
namespace Go.Proofs.Ytgnbmanlpppdoaa

theorem dotc_onl (a : List (List Int)) {n i : Nat} (j : Nat) : ∀ {k}, k ≤ n → dotc a (onl n i) j k = if i < k then g2 a i j else 0
  | 0, _ => by simp [dotc]
  | k + 1, h => by
    rw [dotc, dotc_onl a j (k := k) (by omega), gi_onl (by omega)]
    by_cases e : k = i
    · subst e; rw [if_neg (by omega), if_pos rfl, if_pos (by omega)]; simp
    · rw [if_neg e]
      by_cases h2 : i < k
      · rw [if_pos h2, if_pos (by omega)]; simp
      · rw [if_neg h2, if_neg (by omega)]; simp
theorem wlast_onl {a : List (List Int)} (v : VT a) {i : Nat} (hi : i < a.length) : ∃ j, j < (gr a 0).length ∧ wlast a (onl a.length i) = (g2 a i j, 1) ∧ ∀ l, l < (gr a 0).length → g2 a i j ≤ g2 a i l := by
  have m1 := v.m1
  obtain ⟨j, hj, e, hl⟩ := wst_least a (onl a.length i) a.length (gr a 0).length (by rw [tot_onl hi]; omega) ((gr a 0).length - 1)
  have hc : ∀ l, l < (gr a 0).length → colU a (onl a.length i) a.length (gr a 0).length l = g2 a i l := fun l h => by
    rw [colU_dotc a _ _ _ l h, dotc_onl a l (Nat.le_refl _), if_pos hi]
  refine ⟨j, by omega, ?_, fun l h => ?_⟩
  · rw [wlast_n, e, tot_onl hi, hc j (by omega), (fr_one _).1, (fr_one _).2]
  · have := hl l (by omega); rw [hc j (by omega), hc l h] at this; exact this
theorem lst_le {r : List Int} {j : Nat} (h : j < r.length) : lst r ≤ gi r j := mn_le (by omega)
theorem lst_has {r : List Int} (h : 0 < r.length) : HasN r (lst r) := by
  obtain ⟨j, hj, e⟩ := mn_mem (xs := r) (r.length - 1)
  exact ⟨j, by omega, e.symm⟩
/-- The least of a row is no more than the value. -/
theorem row_le {a : List (List Int)} (v : VT a) {i : Nat} (hi : i < a.length) : lst (gr a i) * (vF a).2 ≤ (vF a).1 := by
  obtain ⟨j, hj, e, _⟩ := wlast_onl v hi
  have h := le_value v (onl_VS hi)
  rw [e] at h
  unfold leF at h
  have hd := (vF_bd v).2.1
  have h1 : lst (gr a i) ≤ g2 a i j := lst_le (by rw [VT.len v hi]; exact hj)
  have := Int.mul_le_mul_of_nonneg_right h1 (show (0 : Int) ≤ (vF a).2 by omega)
  simp only [Int.mul_one] at h
  omega
theorem bst_lt' {a : List (List Int)} (v : VT a) : bst a a.length < a.length := bst_lt a v.n1
theorem srAt_yes {a : List (List Int)} (v : VT a) : srAt a = (bst a a.length : Int) := by unfold srAt; rw [if_pos (pb_true v)]
theorem srNum_yes {a : List (List Int)} (v : VT a) : srNum a = lst (gr a (bst a a.length)) := by unfold srNum; rw [if_pos (pb_true v)]
theorem sr_no {a : List (List Int)} (v : ¬ VT a) : srAt a = 0 ∧ srNum a = 0 := by
  unfold srAt srNum; rw [if_neg (by rw [pb_false v]; decide), if_neg (by rw [pb_false v]; decide)]; exact ⟨rfl, rfl⟩
theorem lst_bd9 {a : List (List Int)} (v : VT a) {i : Nat} (hi : i < a.length) : -9 ≤ lst (gr a i) ∧ lst (gr a i) ≤ 9 := by
  have hl := VT.len v hi
  have m1 := v.m1
  obtain ⟨j, hj, e⟩ := lst_has (r := gr a i) (by omega)
  have := v.bd hi (j := j) (by omega)
  unfold g2 at this
  omega
end Go.Proofs.Ytgnbmanlpppdoaa

