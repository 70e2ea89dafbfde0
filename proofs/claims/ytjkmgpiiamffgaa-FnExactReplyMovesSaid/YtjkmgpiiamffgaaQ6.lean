/- Texts merged: W6 Math12 W7 Put. -/
import Derived.Test.YtjkmgpiiamffgaaQ5
import Derived.Lib.AppendZerosOnto
import Derived.Lib.AppendZeros
/- Lists one behind the other; whether numbers have both signs: by the program. -/
namespace Go.Proofs.Ytjkmgpiiamffgaa
open Go.RowKit Go.Lib

def Grown (n : Nat) (w : World) (e : Ending) (w' : World) : Prop :=
  ∃ G, n ≤ G ∧ e = .returned (.slice (some ⟨w.heap.size, 0, none⟩) 0 G) ∧ IU w (.slice (some ⟨w.heap.size, 0, none⟩) 0 G) [] w'
set_option maxRecDepth 100000 in
set_option maxHeartbeats 2000000 in
theorem Grow_any (n : Nat) (w : World) (h1 : 1 ≤ n) (hn : n ≤ 100) : Calls Try.prog 112 #[.slice none 0 0, .int .i64 n] w (Grown n w) := by
  obtain ⟨i0, hi0, hz0, hs0, hb0⟩ := info_parts Try.infoI
  have hr := run_append_grow_zeros (P := Try.prog) w 30 3 30 3 i0 (.int .i64 0) .i64 .i64 Try.underlying30 Try.underlying3 hi0 hz0 none 0 0 [] (run_firstCells_none w.drew i0.size 0 0 0) n (by omega) (by omega) (by omega) (by omega) (by rw [hb0]; omega) (growslice_fits (by omega) (by rw [hb0]; omega))
  rw [Nat.zero_add] at hr
  have hG1 := grownCap_ge w n 0 3
  have hG2 := grownCap_le_maxLen w n 0 3 (by unfold maxLen; omega)
  generalize grownCap w n 0 3 = G at *
  have HU : Hid (IU w (.slice (some ⟨w.heap.size, 0, none⟩) 0 G) [] (w.drew.alloc (.cells (([] : List Value).toArray ++ Builtin.zeroCells (Value.int .i64 0).cells n ++ Builtin.zeroCells (Value.int .i64 0).cells (G - n)) 3))) := Lib.hid (by
    refine ⟨⟨World.ownsRow_made (e := 3) (size := 1) w.drew _ G (Nat.le_refl _) hG2 ?_, fun k hk => ?_⟩, below_up ((Below.refl w.heap.size w).drew) (below_alloc w.drew _)⟩
    · simp [Builtin.zeroCells, Value.cells]; omega
    · simp [Value.ownBlock] at hk; simp; omega)
  have h2 : ¬ ((n : Int) < 0) := by omega
  have h3 : (0 : Int) < (n : Int) := by omega
  have HG1 := Lib.hid hG1
  unfold maxLen at hG2
  generalize w.drew.alloc (.cells (([] : List Value).toArray ++ Builtin.zeroCells (Value.int .i64 0).cells n ++ Builtin.zeroCells (Value.int .i64 0).cells (G - n)) 3) = W1 at *
  have HR := Lib.hid hr
  clear hr
  go_enter Try.func112, Try.ntmps112
  go_wp2_with (at_builtin; refine wpList_append_run _ rfl _ _ _ _ rfl _ _ rfl rfl _ _ HR.out ?_)
  go_ret
  exact ⟨G, HG1.out, rfl, HU.out⟩

/-- The first i lists, one behind the other. -/
def catL (xss : List (List Int)) : Nat → List Int
  | 0 => []
  | i + 1 => catL xss i ++ gr xss i
theorem catL_len (xss : List (List Int)) (h : ∀ p, p < xss.length → (gr xss p).length ≤ 3) : ∀ {i}, i ≤ xss.length → (catL xss i).length ≤ 3 * i
  | 0, _ => by simp [catL]
  | i + 1, hi => by
    have := catL_len xss h (i := i) (by omega)
    have := h i (by omega)
    rw [catL, List.length_append]; omega
theorem catL_bd {xss : List (List Int)} (h : ∀ p, p < xss.length → ∀ x ∈ gr xss p, -1000000 ≤ x ∧ x ≤ 1000000) : ∀ {i}, i ≤ xss.length → ∀ x ∈ catL xss i, -1000000 ≤ x ∧ x ≤ 1000000
  | 0, _, x, hx => by simp [catL] at hx
  | i + 1, hi, x, hx => by
    rcases List.mem_append.1 hx with hx | hx
    · exact catL_bd h (i := i) (by omega) x hx
    · exact h i (by omega) x hx

set_option maxRecDepth 100000 in
set_option maxHeartbeats 2000000 in
theorem Concat_any (A : Option Addr) (n c : Nat) (xss : List (List Int)) (w : World) (hx : IntRows w A n c xss) (hn : n ≤ 8) (hl : ∀ p, p < xss.length → (gr xss p).length ≤ 3) (hp0 : ∀ p, p < xss.length → 0 < (gr xss p).length) (hb : ∀ p, p < xss.length → ∀ x ∈ gr xss p, -1000000 ≤ x ∧ x ≤ 1000000) (h1 : 1 ≤ (catL xss n).length) :
    Calls Try.prog 110 #[.slice A n c] w (NewI w (catL xss n)) := by
  have HX := Lib.hid hx
  have HL := Lib.hid hl
  have HPP := Lib.hid hp0
  have LX := Lib.hid hx.len
  have HCL := Lib.hid (fun i (hi : i ≤ n) => catL_len xss hl (i := i) (by rw [LX.out]; exact hi))
  have HCB := Lib.hid (fun i (hi : i ≤ n) => catL_bd hb (i := i) (by rw [LX.out]; exact hi))
  have HZ : Hid ((catL xss 0).length = 0 ∧ catL xss 0 = []) := Lib.hid ⟨rfl, rfl⟩
  clear hx hl hb hp0
  go_enter Try.func110, Try.ntmps110
  go_wp2
  go_loop [3, 11] (fun s i => ∃ k : Nat, k ≤ n ∧ i = .int .i64 k ∧ s = .int .i64 (catL xss k).length) (fun _ i => n - (intOf i).toNat)
  case atStart => exact ⟨0, Nat.zero_le _, rfl, by rw [HZ.out.1]; rfl⟩
  case round =>
    obtain ⟨k, hk, rfl, rfl⟩ := hrel
    by_cases hlt : k < n
    · obtain ⟨b, o, rfl, hc⟩ := HX.out.at_ (by omega)
      obtain ⟨R, cc, c1, hR⟩ := hc k hlt
      have hb1 := HCL.out k hk
      have hb2 := HL.out k (by rw [LX.out]; exact hlt)
      have HS : Hid ((catL xss (k + 1)).length = (catL xss k).length + (gr xss k).length) := Lib.hid (by rw [catL, List.length_append])
      have hnn : ¬ (((catL xss k).length : Int) + ((gr xss k).length : Int) < 0) := by omega
      clear hc hR
      generalize (catL xss k).length = L at *
      generalize (gr xss k).length = M at *
      go_wp2
      go_round
      case rel => exact ⟨k + 1, by omega, by go_num, by rw [HS.out]; go_num⟩
      case measure => simp [intOf]; omega
    · obtain rfl : k = n := by omega
      have HG := Lib.hid (Grow_any (catL xss k).length w h1 (by have := HCL.out k (Nat.le_refl k); omega))
      go_wp2_with fail
      refine HG.out.mono ?_
      rintro e w1 ⟨G, hG, rfl, hu⟩
      have HU := Lib.hid hu
      clear hu hG HG
      rw [← HZ.out.2] at HU
      go_wp2
      go_loopw [6, 27] (fun v i wr => ∃ p : Nat, p ≤ k ∧ i = .int .i64 p ∧ Hid (IU w v (catL xss p) wr)) (fun _ i _ => k - (intOf i).toNat)
      case atStart => exact ⟨0, Nat.zero_le _, rfl, HU⟩
      case round =>
        clear HU
        obtain ⟨p, hp, rfl, HU⟩ := hrel
        obtain ⟨Av, cv, rfl⟩ := HU.out.bi.form
        by_cases hlp : p < k
        · obtain ⟨b, o, rfl, hc⟩ := HX.out.at_ (by omega)
          obtain ⟨R, cc, c1, hR⟩ := hc p hlp
          have d1 := Keep.below HU.out.up _ _ c1
          have HR := Lib.hid (hR.keep (Keep.below HU.out.up))
          have HML := Lib.hid (HCL.out p hp)
          have HRL := Lib.hid (HL.out p (by rw [LX.out]; exact hlp))
          have HS : Hid (catL xss (p + 1) = catL xss p ++ gr xss p) := Lib.hid rfl
          have HP0 := Lib.hid (HPP.out p (by rw [LX.out]; exact hlp))
          clear hc c1 hR
          generalize gr xss p = r at *
          generalize catL xss p = ys at *
          have HOW := Lib.hid (show wr.ownsRow w.heap.size 3 1 (.slice Av ys.length cv) ys.length (ys.map iv) from HU.out.bi.own)
          have hwz := HU.out.up.size
          obtain ⟨i0, hi0, hz0, hz1, hz2⟩ := info_parts Try.info_int
          · obtain ⟨b', o', rfl, hcr⟩ := HR.out.at_ HP0.out
            have HCR := Lib.hid hcr
            clear hcr
            go_wp2_with (at_builtin; refine wpList_append_own_at _ rfl _ _ 30 rfl w.heap.size 3 i0 (.int .i64 0) 1 8 Try.underlying30 hi0 hz0 hz1 hz2 rfl (by decide) _ ys.length (ys.map iv) rfl HOW.out ⟨b', o', none⟩ r.length cc (r.map iv) rfl ?c1 ?c2 ?c3 ?c4 ?c5 ?c6 ?_)
            case c1 => simp
            case c2 => have := news_take (j := r.length) rfl HCR.out; rw [List.take_length] at this; exact this
            case c3 => exact ones_map _
            case c4 => have := HML.out; have := HRL.out; unfold maxLen; omega
            case c5 => have := HML.out; have := HRL.out; omega
            case c6 => exact hwz
            intro v' w5 hown' hgrow _ _
            have HU5 := Lib.hid (HU.out.pushs hown' hgrow)
            clear HOW hown' hgrow HU d1 HR HCR
            go_wp2
            go_roundw
            case rel => exact ⟨p + 1, by omega, by go_num, Lib.hid (by rw [HS.out]; exact HU5.out)⟩
            case measure => simp [intOf]; omega
        · obtain rfl : p = k := by omega
          have HN := Lib.hid (HU.out.new (by have := HCL.out p (Nat.le_refl p); omega) (fun y hy => by have := HCB.out p (Nat.le_refl p) y hy; omega))
          go_wp2
          go_ret
          exact HN.out
/-- Whether one number is below 0, and another one above. -/
def bothB (xs : List Int) : Bool := decide (lst xs < 0) && decide (0 < mxl xs)
end Go.Proofs.Ytjkmgpiiamffgaa

/- Signs of the sums of cofactors, as both programs ask for them. Plain. -/
namespace Go.Proofs.Ytjkmgpiiamffgaa
open V (sumN detN rowC colC cofN minorN skip sgn Asc Kern)

theorem mn_le {xs : List Int} : ∀ {k j : Nat}, j ≤ k → mn xs k ≤ gi xs j
  | 0, j, h => by obtain rfl : j = 0 := by omega
                  exact Int.le_refl _
  | k + 1, j, h => by
    rw [mn]
    by_cases e : j = k + 1
    · subst e; omega
    · have := mn_le (xs := xs) (k := k) (j := j) (by omega); omega
theorem mn_mem {xs : List Int} : ∀ k, ∃ j, j ≤ k ∧ mn xs k = gi xs j
  | 0 => ⟨0, Nat.le_refl _, rfl⟩
  | k + 1 => by
    obtain ⟨j, hj, e⟩ := mn_mem (xs := xs) k
    rw [mn]
    by_cases h : mn xs k ≤ gi xs (k + 1)
    · exact ⟨j, by omega, by omega⟩
    · exact ⟨k + 1, Nat.le_refl _, by omega⟩
theorem bothB_false {xs : List Int} (h0 : 0 < xs.length) : bothB xs = false ↔ (∀ p, p < xs.length → 0 ≤ gi xs p) ∨ ∀ p, p < xs.length → gi xs p ≤ 0 := by
  unfold bothB lst mxl
  rw [Bool.and_eq_false_iff, decide_eq_false_iff_not, decide_eq_false_iff_not]
  constructor
  · rintro (h | h)
    · exact .inl fun p hp => by have := mn_le (xs := xs) (k := xs.length - 1) (j := p) (by omega); omega
    · exact .inr fun p hp => by have := mx_ge xs (k := xs.length - 1) (j := p) (by omega); omega
  · rintro (h | h)
    · obtain ⟨j, hj, e⟩ := mn_mem (xs := xs) (xs.length - 1)
      exact .inl (by have := h j (by omega); omega)
    · obtain ⟨j, hj, e⟩ := mx_at xs (xs.length - 1)
      exact .inr (by have := h j (by omega); omega)
theorem gi_app_l {xs ys : List Int} {p : Nat} (h : p < xs.length) : gi (xs ++ ys) p = gi xs p := by
  rw [gi_get h, gi_get (by simp; omega), List.getElem_append_left h]
theorem gi_app_r {xs ys : List Int} {p : Nat} (h : p < ys.length) : gi (xs ++ ys) (xs.length + p) = gi ys p := by
  rw [gi_get h, gi_get (by simp; omega), List.getElem_append_right (by omega)]; congr 1; omega
theorem sgn_app {xs ys : List Int} {P : Int → Prop} : (∀ p, p < (xs ++ ys).length → P (gi (xs ++ ys) p)) ↔ (∀ p, p < xs.length → P (gi xs p)) ∧ ∀ p, p < ys.length → P (gi ys p) := by
  rw [List.length_append]
  constructor
  · intro h
    exact ⟨fun p hp => by rw [← gi_app_l (ys := ys) hp]; exact h p (by omega), fun p hp => by rw [← gi_app_r (xs := xs) hp]; exact h _ (by omega)⟩
  · rintro ⟨h1, h2⟩ p hp
    by_cases e : p < xs.length
    · rw [gi_app_l e]; exact h1 p e
    · obtain ⟨q, rfl⟩ : ∃ q, p = xs.length + q := ⟨p - xs.length, by omega⟩
      rw [gi_app_r (by omega)]; exact h2 q (by omega)

theorem rowC_det0 {k : Nat} (h1 : 1 ≤ k) (hk : k ≤ 3) (f : Nat → Nat → Int) (h : ∀ p, p < k → rowC k f p = 0) : detN k f = 0 := by
  have : k = 1 ∨ k = 2 ∨ k = 3 := by omega
  rcases this with rfl | rfl | rfl
  · have := h 0 (by omega)
    simp [rowC, sumN, cofN, sgn, detN] at this
  · have a := h 0 (by omega)
    have b := h 1 (by omega)
    simp [rowC, sumN, cofN, sgn, detN, minorN, skip] at a b ⊢
    grind
  · have a := h 0 (by omega)
    have b := h 1 (by omega)
    have c := h 2 (by omega)
    obtain ⟨e0, e1, e2⟩ := V.rowC3 f
    have e : detN 3 f = rowC 3 f 0 * f 0 0 + rowC 3 f 1 * f 1 0 + rowC 3 f 2 * f 2 0 := by rw [V.det3, e0, e1, e2]; grind
    rw [e, a, b, c]; omega
theorem colC_det0 {k : Nat} (h1 : 1 ≤ k) (hk : k ≤ 3) (f : Nat → Nat → Int) (h : ∀ p, p < k → colC k f p = 0) : detN k f = 0 := by
  have : k = 1 ∨ k = 2 ∨ k = 3 := by omega
  rcases this with rfl | rfl | rfl
  · have := h 0 (by omega)
    simp [colC, sumN, cofN, sgn, detN] at this
  · have a := h 0 (by omega)
    have b := h 1 (by omega)
    simp [colC, sumN, cofN, sgn, detN, minorN, skip] at a b ⊢
    grind
  · have a := h 0 (by omega)
    have b := h 1 (by omega)
    have c := h 2 (by omega)
    obtain ⟨e0, e1, e2⟩ := V.colC3 f
    have e : detN 3 f = colC 3 f 0 * f 0 0 + colC 3 f 1 * f 0 1 + colC 3 f 2 * f 0 2 := by rw [V.det3, e0, e1, e2]; grind
    rw [e, a, b, c]; omega
theorem kXY_sum {a : List (List Int)} {k : Nat} (hk : k ≤ 3) (r s : Nat → Nat) : sumN (gi (kX a r s k)) k = sumN (gi (kY a r s k)) k := by
  rw [sumN_congr (f := gi (kX a r s k)) (g := rowC k (kf a r s)) fun p hp => by unfold kX; rw [gi_cofL hp],
    sumN_congr (f := gi (kY a r s k)) (g := colC k (kf a r s)) fun p hp => by unfold kY; rw [gi_cofL hp, rowC_tr hk]]
  exact sumN_swap (fun i j => cofN k (kf a r s) i j) k k
/-- The one test is the other two. -/
theorem sgn_ok {a : List (List Int)} {k : Nat} {r s : Nat → Nat} (h1 : 1 ≤ k) (hk : k ≤ 3) (hd : detN k (kf a r s) ≠ 0) : bothB (kX a r s k ++ kY a r s k) = false ↔ ClrP (kX a r s k) ∧ ClrP (kY a r s k) := by
  have lx := kX_len a r s k
  have ly := kY_len a r s k
  have nx : ∃ p, p < (kX a r s k).length ∧ gi (kX a r s k) p ≠ 0 := by
    apply Classical.byContradiction; intro hn
    exact hd (rowC_det0 h1 hk _ fun p hp => by
      have h : ¬ gi (kX a r s k) p ≠ 0 := fun e => hn ⟨p, by omega, e⟩
      unfold kX at h; rw [gi_cofL hp] at h; omega)
  have ny : ∃ p, p < (kY a r s k).length ∧ gi (kY a r s k) p ≠ 0 := by
    apply Classical.byContradiction; intro hn
    exact hd (colC_det0 h1 hk _ fun p hp => by
      have h : ¬ gi (kY a r s k) p ≠ 0 := fun e => hn ⟨p, by omega, e⟩
      unfold kY at h; rw [gi_cofL hp, rowC_tr hk] at h; omega)
  rw [bothB_false (by rw [List.length_append]; omega), sgn_app (P := fun x => 0 ≤ x), sgn_app (P := fun x => x ≤ 0)]
  constructor
  · rintro (⟨p, q⟩ | ⟨p, q⟩)
    · exact ⟨⟨nx, .inl p⟩, ny, .inl q⟩
    · exact ⟨⟨nx, .inr p⟩, ny, .inr q⟩
  · rintro ⟨⟨_, hx⟩, _, hy⟩
    have e := kXY_sum (a := a) hk r s
    have pos : ∀ X : List Int, X.length = k → (∃ p, p < X.length ∧ gi X p ≠ 0) → (∀ p, p < X.length → 0 ≤ gi X p) → 0 < sumN (gi X) k := fun X hl ⟨p, hp, hn⟩ h =>
      sumN_pos (fun i hi => h i (by omega)) ⟨p, by omega, by have := h p hp; omega⟩
    have neg : ∀ X : List Int, X.length = k → (∃ p, p < X.length ∧ gi X p ≠ 0) → (∀ p, p < X.length → gi X p ≤ 0) → sumN (gi X) k < 0 := fun X hl ⟨p, hp, hn⟩ h => by
      have := sumN_pos (f := fun i => (-1) * gi X i) (n := k) (fun i hi => by have := h i (by omega); omega) ⟨p, by omega, by have := h p hp; omega⟩
      rw [sumN_mul] at this; omega
    rcases hx with hx | hx <;> rcases hy with hy | hy
    · exact .inl ⟨hx, hy⟩
    · have := pos _ lx nx hx; have := neg _ ly ny hy; omega
    · have := neg _ lx nx hx; have := pos _ ly ny hy; omega
    · exact .inr ⟨hx, hy⟩
theorem catL_two (xs ys : List Int) : catL [xs, ys] 2 = xs ++ ys := by simp [catL, gr]
end Go.Proofs.Ytjkmgpiiamffgaa

/- Members of sets; numbers put to their places: by the program. -/
namespace Go.Proofs.Ytjkmgpiiamffgaa
open Go.RowKit

theorem and_one : ∀ s, s < 32 → ∀ k, k < 6 → (bits BinOp.and IntKind.i64 (((s : Nat) : Int) / 2 ^ k) 1 == 1) = (s / 2 ^ k % 2 == 1) := by decide +kernel
theorem shr_pos : ∀ s, s < 32 → ∀ k, k < 6 → decide (0 < ((s : Nat) : Int) / 2 ^ k) = decide (0 < s / 2 ^ k) := by decide +kernel
theorem memL_end : ∀ s, s < 32 → ∀ k, k < 6 → ¬ 0 < s / 2 ^ k → memL s k = memL s 5 := by decide +kernel
theorem memL_53 : ∀ s, s < 8 → memL s 5 = memL s 3 := by decide +kernel
end Go.Proofs.Ytjkmgpiiamffgaa

/- A region that ends in one frame but for some slots, whatever the order: walked on once. -/
namespace Go.Proofs.Ytjkmgpiiamffgaa
open Go.RowKit

/-- A frame with other values in some slots. -/
def frmL (a : Act) : List Nat → List Value → Act
  | d :: ds, u :: us => frmL (a.put (some d) u) ds us
  | _, _ => a
/-- At the end of a region: the frame but for some slots, and F of these and of the world. -/
def PutQ (a : Act) (ds : List Nat) (F : List Value → World → Prop) : Exit → Act → World → Prop
  | .normal, b, v => ∃ us, b = frmL a ds us ∧ F us v
  | _, _, _ => False
theorem PutQ.mk {a b : Act} {ds : List Nat} {F : List Value → World → Prop} {v : World} (us : List Value) (h : b = frmL a ds us) (f : F us v) : PutQ a ds F .normal b v := ⟨us, h, f⟩
theorem region_put {P : Program} {c : Code} {Q : Exit → Act → World → Prop} {a : Act} {w : World} (ds : List Nat) (F : List Value → World → Prop) (h : c.wp P (PutQ a ds F) a w) (k : ∀ us v, F us v → Q .normal (frmL a ds us) v) : c.wp P Q a w :=
  Code.wp_mono (fun e b v h => by
    cases e <;> first | exact (h : False).elim | (obtain ⟨us, rfl, hf⟩ := (h : ∃ us, b = frmL a ds us ∧ F us v); exact k us v hf)) h
end Go.Proofs.Ytjkmgpiiamffgaa

