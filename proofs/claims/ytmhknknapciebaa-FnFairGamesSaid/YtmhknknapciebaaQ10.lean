/- Texts merged: K8 K9 Z5 Math21 G9 Asc Y5 W7 A6 Z6 Math24 D4 W8 W9 X1 Math13 FnTab Math30. -/
import Derived.Test.YtmhknknapciebaaQ9
import Derived.Laws.CopyOwn
/- The next shares, by both programs. -/
namespace Go.Proofs.Ytmhknknapciebaa
open Go.RowKit

/-- What the next shares are to each other. -/
def nxV (a : List (List Int)) (x : List Int) (n i : Nat) : Int := gi x i * dotr a x i n
def nxL (a : List (List Int)) (x : List Int) (n k : Nat) : List Int := (List.range k).map (nxV a x n)
theorem nxL_succ (a : List (List Int)) (x : List Int) (n k : Nat) : nxL a x n (k + 1) = nxL a x n k ++ [nxV a x n k] := by simp [nxL, List.range_succ]
theorem nxL_len (a : List (List Int)) (x : List Int) (n k : Nat) : (nxL a x n k).length = k := by simp [nxL]
theorem gi_nxL {a : List (List Int)} {x : List Int} {n k i : Nat} (h : i < k) : gi (nxL a x n k) i = nxV a x n i := gi_range h
theorem VQ.len2' {a : List (List Int)} {n : Nat} (v : VQ a) (hl : a.length = n) : (gr a 0).length = n := by have := v.2; omega
theorem dotr_pos {a : List (List Int)} {x : List Int} {i n : Nat} (ha : ∀ j, j < n → 1 ≤ g2 a i j) (hx : ∀ j, j < n → 0 ≤ gi x j) : ∀ {k}, k ≤ n → sm x k ≤ dotr a x i k
  | 0, _ => Int.le_refl _
  | k + 1, h => by
    have h1 := dotr_pos ha hx (k := k) (by omega)
    have h2 := ha k (by omega)
    have h3 := hx k (by omega)
    have h4 : 1 * gi x k ≤ g2 a i k * gi x k := Int.mul_le_mul_of_nonneg_right h2 h3
    simp only [sm, dotr]
    omega
/-- A field and shares. -/
structure FS (a : List (List Int)) (x : List Int) (n : Nat) : Prop where
  f : VF a
  s : VS x (n : Int)
  l : a.length = n
theorem FS.n3 {a x n} (h : FS a x n) : 1 ≤ n ∧ n ≤ 3 := by have := h.f.q.1.n1; have := h.f.q.1.n3; have := h.l; omega
theorem FS.xl {a x n} (h : FS a x n) : x.length = n := by have := h.s.1; omega
theorem FS.x {a x n} (h : FS a x n) : ∀ j, j < n → 0 ≤ gi x j ∧ gi x j ≤ 1000 := VS.bds h.s
theorem FS.a {a x n} (h : FS a x n) {i j : Nat} (hi : i < n) (hj : j < n) : 1 ≤ g2 a i j ∧ g2 a i j ≤ 9 := by
  have hl := h.l
  have h1 := h.f.p i j (by omega) (by omega)
  have h2 := h.f.q.1.bd (i := i) (j := j) (by omega) (by have := h.f.q.2; omega)
  omega
theorem FS.dot {a x n} (h : FS a x n) {i : Nat} (hi : i < n) : 1 ≤ dotr a x i n ∧ dotr a x i n ≤ 27000 := by
  have h0 := h.n3
  have h1 := dotr_pos (a := a) (x := x) (i := i) (n := n) (fun j hj => (h.a hi hj).1) (fun j hj => (h.x j hj).1) (Nat.le_refl n)
  have h2 := dotr_bd (a := a) (w := x) (i := i) (m := n) (fun j hj => by have := h.a hi hj; omega) h.x (Nat.le_refl n)
  have h3 := h.s.2.2
  unfold tot at h3
  rw [h.xl] at h3
  omega
theorem FS.nx {a x n} (h : FS a x n) {i : Nat} (hi : i < n) : 0 ≤ nxV a x n i ∧ nxV a x n i ≤ 27000000 ∧ (0 < gi x i → 0 < nxV a x n i) := by
  have h1 := h.dot hi
  have h2 := h.x i hi
  unfold nxV
  have h3 : 0 * dotr a x i n ≤ gi x i * dotr a x i n := Int.mul_le_mul_of_nonneg_right h2.1 (by omega)
  have h4 : gi x i * dotr a x i n ≤ 1000 * 27000 := Int.mul_le_mul h2.2 h1.2 (by omega) (by omega)
  exact ⟨by omega, by omega, fun h => Int.mul_pos h (by omega)⟩
theorem sm_has {x : List Int} : ∀ {k}, (∀ j, j < k → 0 ≤ gi x j) → 0 < sm x k → ∃ j, j < k ∧ 0 < gi x j
  | 0, _, h => by simp [sm] at h
  | k + 1, hp, h => by
    by_cases e : 0 < gi x k
    · exact ⟨k, by omega, e⟩
    · have h1 := hp k (by omega)
      obtain ⟨j, hj, hp'⟩ := sm_has (x := x) (k := k) (fun j hj => hp j (by omega)) (by simp only [sm] at h; omega)
      exact ⟨j, by omega, hp'⟩
theorem FS.clr {a x n} (h : FS a x n) : ClrP (nxL a x n n) ∧ 0 < gcdL (nxL a x n n) n := by
  have h0 := h.s.2.2
  unfold tot at h0
  rw [h.xl] at h0
  obtain ⟨j, hj, hp⟩ := sm_has (fun j hj => (h.x j hj).1) h0
  have hc : ClrP (nxL a x n n) := by
    refine ⟨⟨j, by rw [nxL_len]; exact hj, ?_⟩, .inl fun p hp => ?_⟩
    · rw [gi_nxL hj]; have := (h.nx hj).2.2 hp; omega
    · rw [nxL_len] at hp; rw [gi_nxL hp]; exact (h.nx hp).1
  exact ⟨hc, (clr_yes (nxL_len a x n n) hc).1⟩
theorem FS.mid {a x n} (h : FS a x n) : ∀ p, p < (nxL a x n n).length → Mid (gi (nxL a x n n) p) := fun p hp => by
  rw [nxL_len] at hp
  rw [gi_nxL hp]
  have := h.nx hp
  unfold Mid
  omega
/-- What NextShares answers. -/
noncomputable def nsF (a : List (List Int)) (x : List Int) : List Int := if pb (VF a ∧ VS x a.length) = true then clrL (nxL a x a.length a.length) (gcdL (nxL a x a.length a.length) a.length) a.length else []
theorem nsF_yes {a : List (List Int)} {x : List Int} {n : Nat} (h : FS a x n) : nsF a x = clrL (nxL a x n n) (gcdL (nxL a x n n) n) n := by
  unfold nsF; rw [if_pos (pb_true ⟨h.f, by rw [h.l]; exact h.s⟩), h.l]
theorem nsF_no {a : List (List Int)} {x : List Int} (h : ¬ (VF a ∧ VS x a.length)) : nsF a x = [] := by unfold nsF; rw [if_neg (by rw [pb_false h]; decide)]
theorem FS.of {a : List (List Int)} {x : List Int} {n : Nat} (hl : a.length = n) (hf : VF a) (hs : VS x (n : Int)) : FS a x n := ⟨hf, hs, hl⟩
theorem nsF_le (a : List (List Int)) (x : List Int) : (nsF a x).length ≤ 100 := by
  by_cases h : VF a ∧ VS x a.length
  · have hf : FS a x a.length := ⟨h.1, h.2, rfl⟩
    have := hf.n3
    rw [nsF_yes hf, clrL_len]; omega
  · rw [nsF_no h]; simp

end Go.Proofs.Ytmhknknapciebaa

/- NextShares, by both programs. -/
namespace Go.Proofs.Ytmhknknapciebaa
open Go.RowKit

theorem NewI.empty {w w' : World} {ys : List Int} (h : Below w.heap.size w w') (hy : ys = []) : NewI w ys (.returned (.slice none 0 0)) w' := by
  subst hy; exact ⟨none, 0, 0, 0, rfl, rfl, OwnI.nil _ _ _ _, h⟩
theorem NewI.from {w w1 w2 : World} {ys : List Int} {e : Ending} (h : Below w.heap.size w w1) (k : NewI w1 ys e w2) : NewI w ys e w2 := by
  obtain ⟨A, n, c, g, he, hn, ho, hb⟩ := k
  exact ⟨A, n, c, g, he, hn, ho.mono h.size (Nat.le_refl _), below_up h hb⟩


end Go.Proofs.Ytmhknknapciebaa

/- The rests of a table, by the model. -/
namespace Go.Proofs.Ytmhknknapciebaa
open Go.RowKit
open V (sumN detN rowC colC cofN minorN skip sgn Asc)

theorem shl_val' {n : Nat} (h : n ≤ 3) : ∃ P : Nat, wrap64 ((2 : Int) ^ n) = (P : Int) ∧ P = 2 ^ n := by
  refine ⟨2 ^ n, ?_, rfl⟩
  have : n = 0 ∨ n = 1 ∨ n = 2 ∨ n = 3 := by omega
  rcases this with rfl | rfl | rfl | rfl <;> (unfold wrap64; decide)
theorem NewT.from {w w1 w2 : World} {xss : List (List Int)} {e : Ending} (h : Below w.heap.size w w1) (k : NewT w1 xss e w2) : NewT w xss e w2 := by
  obtain ⟨A, n, c, g, e1, e2, ho, hb⟩ := k
  exact ⟨A, n, c, g, e1, e2, ho.mono h.size (Nat.le_refl _), below_up h hb⟩
theorem TM.new {wb vs xss w} {A : Option Addr} {n c : Nat} (h : TM wb (.slice A n c) vs xss w) (hm : xss.length ≤ 100) : NewT wb xss (.returned (.slice A n c)) w := by
  obtain ⟨A', n', c', gg, e, hn', hown⟩ := h.bo.owns (by omega)
  injection e with e1 e2 e3
  subst e1
  subst e2
  subst e3
  exact ⟨_, _, _, gg, rfl, hn', hown, h.up⟩
theorem NewT.none {w w' : World} {xss : List (List Int)} (h : Below w.heap.size w w') (hx : xss = []) : NewT w xss (.returned (.slice none 0 0)) w' := by
  subst hx
  exact ⟨_, _, _, 0, rfl, rfl, OwnR.nil _ _ _ _, h⟩
theorem resF_yes {a : List (List Int)} (h : VQ a) : resF a = resR a 8 := by unfold resF; rw [if_pos (pb_true h)]
theorem resF_no {a : List (List Int)} (h : ¬ VQ a) : resF a = [] := by unfold resF; rw [if_neg (by rw [pb_false h]; decide)]

set_option maxRecDepth 100000 in
set_option maxHeartbeats 3200000 in
theorem RestsOn_spec (A : Option Addr) (n c : Nat) (a : List (List Int)) (w : World) (hx : IntRows w A n c a) :
    Calls Try.prog 45 #[.slice A n c] w (NewT w (resF a)) := by
  have HX := Lib.hid hx
  have hl := hx.len
  by_cases hv : VQ a
  · have HC := Lib.hid (pb_true hv ▸ validSquare_any A n c a w hx)
    have HF := Lib.hid (resF_yes hv)
    have HV := Lib.hid hv
    have HL := Lib.hid hl
    have hn3 : n ≤ 3 := by have := hv.1.n3; omega
    obtain ⟨P, hP, hP2⟩ := shl_val' hn3
    have HP2 := Lib.hid hP2
    obtain ⟨b, o, rb, ro, cc, rfl, tab⟩ := hx.tab hv.1
    rw [show (gr a 0).length = n by rw [← hv.2, hl]] at tab
    have HT0 := Lib.hid tab
    clear hx hl hv hP2 tab
    go_enter Try.func45, Try.ntmps45
    go_wp2_with fail
    refine HC.out.mono ?_
    rintro e w1 ⟨rfl, hq⟩
    have HB0 := Lib.hid (show Below w.heap.size w w1 from hq.below)
    have HT1 := Lib.hid (HT0.out.keep (Keep.quiet hq))
    have HS0 := Lib.hid (show TM w1 _ [] (resR a 1) _ from by rw [resR_one]; exact TM.start w1)
    clear hq HC HX HT0
    go_wp2
    go_loopw [3, 4] (fun v i wr => ∃ (s : Nat) (vs : List Value), 1 ≤ s ∧ s ≤ 8 ∧ i = .int .i64 s ∧ Hid (TM w1 v vs (resR a s) wr)) (fun _ i _ => 8 - (intOf i).toNat)
    case atStart => exact ⟨1, [], by omega, by omega, rfl, HS0⟩
    case round =>
      clear HS0
      obtain ⟨s, vs, hs1, hs8, rfl, HTM⟩ := hrel
      obtain ⟨Av, cv, rfl⟩ := HTM.out.bo.form
      by_cases hlt : s < 8
      · have HC := Lib.hid (members_any s n wr (by omega) (by omega))
        go_wp2_with fail
        refine HC.out.mono ?_
        rintro e w2 ⟨Ao, k, co, go_, rfl, hk, ho, hb⟩
        have HO := Lib.hid (memL_pl ho.ints hk)
        have HK := Lib.hid hk
        have HTM2 := Lib.hid (HTM.out.next hb)
        have hk3 : k ≤ 3 := by have := memL_le s n; omega
        clear ho hb HC HTM hk
        by_cases hsp : s < P
        · have hk1 : 1 ≤ k := by rw [HK.out]; exact memL_ge s hlt n (by omega) hs1 (by rw [← HP2.out]; exact hsp)
          have hkz : ((k : Int) == 0) = false := by simp; omega
          have hsd : decide ((P : Int) ≤ (s : Int)) = false := by simp; omega
          have HAS := Lib.hid (show Asc n k (idx s n) from by rw [HK.out]; exact idx_asc s n)
          have HLV : Hid (LvP a s ↔ LevAt a k (idx s n)) := Lib.hid (by
            unfold LvP
            rw [HL.out, ← HK.out]
            exact ⟨fun h => h.2.2, fun h => ⟨hs1, by rw [← HP2.out]; exact hsp, h⟩⟩)
          have HEQ : Hid (lvl a s = shr a.length (idx s n) (kY a (idx s n) (idx s n) k) k) := Lib.hid (by unfold lvl; rw [HL.out, ← HK.out])
          have HC := Lib.hid (restOn_any b o rb ro cc n c k co Ao a (idx s n) w2 (HT1.out.keep (Keep.below HTM2.out.up)) HO.out HV.out HL.out hk1 hk3 HAS.out)
          go_wp2_with fail
          refine HC.out.mono ?_
          rintro e w3 hnew
          clear HC
          by_cases hlv : LevAt a k (idx s n)
          · obtain ⟨A1, c1, g1, rfl, ho, hb⟩ : ∃ A1 c1 g, e = .returned (.tuple #[.slice A1 a.length c1, .bool true]) ∧ OwnI w2.heap.size w3.heap.size w3 g A1 a.length c1 (shr a.length (idx s n) (kY a (idx s n) (idx s n) k) k) ∧ Below w2.heap.size w2 w3 := by
              rcases hnew with ⟨_, h⟩ | ⟨h, _⟩
              · exact h
              · exact absurd hlv h
            have HMS := Lib.hid (resR_yes (HLV.out.2 hlv))
            rw [← HEQ.out] at ho
            have HLL := Lib.hid (lvl_len a s)
            have HTL := Lib.hid (resR_len a s)
            rw [← HLL.out] at ho
            rw [← HLL.out]
            have HO3 := Lib.hid ho
            have HB3 := Lib.hid hb
            have hb2 := below_alloc w3 (.cells #[.slice A1 (lvl a s).length c1] 23)
            have HB4 := Lib.hid ((HTM2.out.next hb).bo.below hb2).own
            have HN := Lib.hid (cell_one_new w3 (.slice A1 (lvl a s).length c1) 23)
            have hlh : w1.heap.size ≤ w3.heap.size := Nat.le_trans HTM2.out.up.size hb.size
            have hll3 : (lvl a s).length ≤ 3 := by rw [HLL.out, HL.out]; exact hn3
            clear hb ho hb2 hnew hlv HLV HEQ HLL
            generalize lvl a s = ys at *
            generalize resR a s = ms at *
            obtain ⟨i0, hi0, hz0, hz1, hz2⟩ := info_parts Try.info_row
            go_wp2_with (at_builtin; refine wpList_append_own_at _ rfl _ _ 22 rfl w1.heap.size 23 i0 (.slice none 0 0) 1 24 Try.underlying22 hi0 hz0 hz1 hz2 rfl (by decide) _ ms.length vs rfl HB4.out ⟨w3.heap.size, 0, none⟩ 1 1 [.slice A1 ys.length c1] rfl rfl ?d1 ?d2 ?d3 ?d4 ?d5 ?_)
            case d1 => exact HN.out
            case d2 => intro u hu; simp at hu; subst hu; rfl
            case d3 => have := HTL.out; unfold maxLen; omega
            case d4 => have := HTL.out; omega
            case d5 => simp; omega
            intro v' w5 hown' hgrow _ hat
            have HT5 := Lib.hid (HTM2.out.push HB3.out HO3.out hown' hgrow (by simpa using hat))
            clear HB4 HN hown' hgrow hat HTM2 HO3
            go_wp2
            go_roundw
            case rel => exact ⟨s + 1, _, by omega, by omega, by go_num, Lib.hid (by rw [HMS.out]; exact HT5.out)⟩
            case measure => simp [intOf]; omega
          · obtain ⟨v, rfl, hb⟩ : ∃ v, e = .returned (.tuple #[v, .bool false]) ∧ Below w2.heap.size w2 w3 := by
              rcases hnew with ⟨h, _⟩ | ⟨_, h⟩
              · exact absurd h hlv
              · exact h
            have HMS := Lib.hid (resR_no (fun h => hlv (HLV.out.1 h)))
            have HTM3 := Lib.hid (HTM2.out.next hb)
            clear hnew hlv hb HLV HEQ HTM2
            go_wp2
            go_roundw
            case rel => exact ⟨s + 1, _, by omega, by omega, by go_num, Lib.hid (by rw [HMS.out]; exact HTM3.out)⟩
            case measure => simp [intOf]; omega
        · have HMS := Lib.hid (resR_no (a := a) (s := s) (fun h => by have := h.2.1; rw [HL.out, ← HP2.out] at this; omega))
          have hsd : decide ((P : Int) ≤ (s : Int)) = true := by simp; omega
          by_cases hk0 : k = 0
          · have hkz : ((k : Int) == 0) = true := by simp; omega
            have HK0 := Lib.hid hk0
            clear hk0
            go_wp2
            go_roundw
            case rel => exact ⟨s + 1, _, by omega, by omega, by go_num, Lib.hid (by rw [HMS.out]; exact HTM2.out)⟩
            case measure => simp [intOf]; omega
          · have hkz : ((k : Int) == 0) = false := by simp; omega
            go_wp2
            go_roundw
            case rel => exact ⟨s + 1, _, by omega, by omega, by go_num, Lib.hid (by rw [HMS.out]; exact HTM2.out)⟩
            case measure => simp [intOf]; omega
      · obtain rfl : s = 8 := by omega
        have HNW := Lib.hid (NewT.from HB0.out (HTM.out.new (by have := resR_len a 8; omega)))
        go_wp2
        go_ret
        rw [HF.out]
        exact HNW.out
  · have HC := Lib.hid (pb_false hv ▸ validSquare_any A n c a w hx)
    have HF := Lib.hid (resF_no hv)
    clear hx hl hv
    go_enter Try.func45, Try.ntmps45
    go_wp2_with fail
    refine HC.out.mono ?_
    rintro e w1 ⟨rfl, hq⟩
    go_wp2
    go_ret
    exact NewT.none hq.below HF.out
end Go.Proofs.Ytmhknknapciebaa

/- What is among the rests of a table rests; one strategy alone is among them if it rests. Plain. -/
namespace Go.Proofs.Ytmhknknapciebaa
open V (sumN detN rowC colC cofN minorN skip sgn Asc)

theorem resF_yes' {a : List (List Int)} (h : VQ a) : resF a = resR a 8 := by unfold resF; rw [if_pos (pb_true h)]
theorem resF_no' {a : List (List Int)} (h : ¬ VQ a) : resF a = [] := by unfold resF; rw [if_neg (by rw [pb_false h]; decide)]
theorem resF_len (a : List (List Int)) : (resF a).length ≤ 8 := by
  by_cases h : VQ a
  · rw [resF_yes' h]; exact resR_len a 8
  · rw [resF_no' h]; simp
theorem resF_rest {a : List (List Int)} {x : List Int} (h : x ∈ resF a) : RQ a x ∧ x.length = a.length := by
  by_cases q : VQ a
  · rw [resF_yes' q] at h
    obtain ⟨s, h8, hl, rfl⟩ := mem_resR.1 h
    exact ⟨⟨q, lvl_VS q hl h8, hl.2.2.2⟩, lvl_len a s⟩
  · rw [resF_no' q] at h; simp at h
theorem memL_two : ∀ n, n < 4 → ∀ i, i < n → memL (2 ^ i) n = [(i : Int)] := by decide
theorem lvl_one {a : List (List Int)} (q : VQ a) {i : Nat} (hi : i < a.length) : lvl a (2 ^ i) = onl a.length i ∧ LevP (kY a (idx (2 ^ i) a.length) (idx (2 ^ i) a.length) (memL (2 ^ i) a.length).length) := by
  have hn3 := q.1.n3
  have hm := memL_two a.length (by omega) i hi
  have hk : (memL (2 ^ i) a.length).length = 1 := by rw [hm]; rfl
  have hid : idx (2 ^ i) a.length 0 = i := by unfold idx; rw [hm]; simp [gi]
  have hY : kY a (idx (2 ^ i) a.length) (idx (2 ^ i) a.length) 1 = [1] := by simp [kY, cofL, rowC, sumN, cofN, sgn, detN, List.range_succ]
  unfold lvl
  rw [hk, hY]
  refine ⟨?_, .inl fun p hp => ?_⟩
  · refine gi_ext (by rw [onl_len]; exact putL_len _ _ _ _) fun j hj => ?_
    have hj : j < a.length := by rw [show (shr a.length (idx (2 ^ i) a.length) [1] 1).length = a.length from putL_len _ _ _ _] at hj; exact hj
    rw [gi_onl hj]
    unfold shr
    rw [gi_putL hj (fun p q hp hq => by omega)]
    simp only [sumN, hid]
    rw [gi_clrL (by simp)]
    by_cases e : i = j
    · subst e; simp [gi, gcdL, gcdI]; decide
    · rw [if_neg e, if_neg (by omega)]; rfl
  · obtain rfl : p = 0 := by simp at hp; omega
    simp [gi]
/-- One strategy alone rests just if it is among the rests. -/
theorem rest_one {a : List (List Int)} (q : VQ a) {i : Nat} (hi : i < a.length) : RQ a (onl a.length i) ↔ onl a.length i ∈ resF a := by
  constructor
  · intro h
    obtain ⟨e, hl⟩ := lvl_one q hi
    rw [resF_yes' q]
    refine mem_resR.2 ⟨2 ^ i, ?_, ⟨Nat.one_le_two_pow, Nat.pow_lt_pow_right (by omega) hi, hl, ?_⟩, e.symm⟩
    · have hn3 := q.1.n3
      have := Nat.pow_lt_pow_right (a := 2) (by omega) hi
      have := pow_le8 hn3
      omega
    · have := h.r
      rw [← e] at this
      exact this
  · intro h; exact (resF_rest h).1
end Go.Proofs.Ytmhknknapciebaa

/- Squares and shares drawn, now and then shares that rest. -/
namespace Go.Proofs.Ytmhknknapciebaa
open Go.RowKit

set_option maxRecDepth 100000 in
set_option maxHeartbeats 2000000 in
theorem DrawIsRest_any (A : Option Addr) (n c : Nat) (w : World) (h : Bytes w A n c) :
    Calls Try.prog 36 #[.slice A n c] w (DrawnTS w) := by
  have H0 := Lib.hid (newReader_any A n c w h)
  clear h
  go_enter Try.func36, Try.ntmps36
  go_wp2_with fail
  refine H0.out.mono ?_
  rintro e w1 ⟨A1, l, c1, rfl, hl, hr, hs⟩
  have H1 := Lib.hid (someSquare_any w w1 w.heap.size A1 l c1 0 hr (by omega))
  clear hr hl H0
  go_wp2_with fail
  refine H1.out.mono ?_
  rintro e w2 ⟨wb, v', vs', xss', p', rfl, hsm, hto, hp, hg⟩
  have hsz := hg.size
  obtain ⟨Av, nv, cv, gg, rfl, hnv, hown⟩ := hto.bo.owns (by have := hsm.n; omega)
  have HO := Lib.hid (hown.mono (show w.heap.size + 1 ≤ wb.heap.size by have := hto.gl; omega) (Nat.le_refl _))
  have HRD := Lib.hid hto.rd
  have HS := Lib.hid hsm
  have hn8 : nv ≤ 8 := by rw [hnv]; exact hsm.n
  clear hsm hto hown hg H1 hnv
  have HC := Lib.hid (sharesOf_any w w2 w.heap.size A1 l c1 p' nv HRD.out (by omega) hn8)
  go_wp2_with fail
  refine HC.out.mono ?_
  rintro e w4 ⟨Bv, cb, ys, p2, rfl, hyl, hyb, hsh, hp2⟩
  obtain ⟨A', n', c', g', e, -, ho, -⟩ := hsh.bi.owns (by omega) (fun x hx => by have := hyb x hx; omega)
  injection e with e1 e2 e3
  subst e1
  subst e2
  subst e3
  have HI := Lib.hid (ho.mono (show w.heap.size + 1 ≤ w2.heap.size by have := blk_lt HRD.out.box; omega) (Nat.le_refl _))
  have HR4 := Lib.hid hsh.rd
  have HO4 := Lib.hid ((HO.out.grown hsh.up (by omega)).mono (Nat.le_refl _) hsh.up.size)
  clear hsh ho HC hyb HO HRD
  have HC := Lib.hid (pick_any w w4 w.heap.size A1 l c1 p2 2 HR4.out (by omega))
  go_wp2_with fail
  refine HC.out.mono ?_
  rintro e w6 hpk
  obtain ⟨m, rfl, hm, hrd, hgr⟩ := hpk.one
  have HR6 := Lib.hid hrd
  have HO6 := Lib.hid ((HO4.out.grown hgr (by omega)).mono (Nat.le_refl _) hgr.size)
  have HI6 := Lib.hid (HI.out.grown hgr (by omega))
  clear hpk hrd hgr HC HR4 HO4 HI hm
  by_cases h0 : m = 0
  · have hz : (m == 0) = true := by simpa using h0
    clear h0
    by_cases hv : VQ xss'
    · have HC := Lib.hid (pb_true hv ▸ validSquare_any _ _ _ _ w6 HO6.out.rows)
      clear hv
      go_wp2_with fail
      refine HC.out.mono ?_
      rintro e w7 ⟨rfl, hq⟩
      have HO7 := Lib.hid (HO6.out.quiet hq)
      have HI7 := Lib.hid (HI6.out.below (hq.below (B := w6.heap.size)))
      have HR7 := Lib.hid (HR6.out.quiet hq)
      have hz7 : w6.heap.size ≤ w7.heap.size := (hq.below (B := 0)).size
      have hg7 : w.heap.size + 1 ≤ w7.heap.size := by have := blk_lt HR7.out.box; omega
      clear hq HC HO6 HI6 HR6 hz
      have HC := Lib.hid (RestsOn_spec _ _ _ xss' w7 HO7.out.rows)
      go_wp2_with fail
      refine HC.out.mono ?_
      rintro e w8 ⟨A8, n8, c8, g8, rfl, rfl, ho, hb⟩
      have HL8 := Lib.hid (ho.mono hg7 (Nat.le_refl _))
      have HR8 := Lib.hid (HR7.out.below_ hb)
      have HO8 := Lib.hid ((HO7.out.mono (Nat.le_refl _) hz7 |>.below hb).mono (Nat.le_refl _) hb.size)
      have HI8 := Lib.hid (HI7.out.below hb)
      have hrl := resF_len xss'
      clear ho hb HC HO7 HI7 HR7
      by_cases hl0 : (resF xss').length = 0
      · have hl0' : ¬ (0 : Int) < ((resF xss').length : Int) := by omega
        have HL0 := Lib.hid hl0
        clear hl0
        go_wp2
        go_ret2
        exact ⟨Av, nv, cv, gg, xss', Bv, _, cb, ys, rfl, HS.out, HO8.out.mono (Nat.le_succ _) (Nat.le_refl _), HI8.out.ints, HR8.out.below⟩
      · have hl0' : (0 : Int) < ((resF xss').length : Int) := by omega
        have HRL := Lib.hid (fun q (hq : q < (resF xss').length) => (resF_rest (gr_mem hq)).2)
        generalize resF xss' = rs at *
        have HC := Lib.hid (pick_any w w8 w.heap.size A1 l c1 _ (rs.length : Int) HR8.out (by omega))
        go_wp2_with fail
        refine HC.out.mono ?_
        rintro e w9 hpk
        obtain ⟨m2, rfl, hm, hrd, hgr⟩ := hpk.one
        have hm := hm (by omega)
        obtain ⟨q, rfl⟩ : ∃ q : Nat, m2 = (q : Int) := ⟨m2.toNat, by omega⟩
        have HB9 := Lib.hid hrd.below
        have HO9 := Lib.hid ((HO8.out.grown hgr (by omega)).mono (Nat.le_succ _) hgr.size)
        have HL9 := Lib.hid (HL8.out.grown hgr (by omega))
        have hqn : q < rs.length := by omega
        obtain ⟨rb', ro', rfl, hc⟩ := HL9.out.rows.at_ (by omega)
        obtain ⟨R, cR, c1', hR⟩ := hc q hqn
        have HRI := Lib.hid hR
        obtain ⟨hm1, hm2⟩ := hm
        clear hpk hrd hgr HC hc hR HO8 HI8 HR8 HL8 hl0
        go_wp2
        go_ret2
        exact ⟨Av, nv, cv, gg, xss', R, _, cR, gr rs q, rfl, HS.out, HO9.out, HRI.out, HB9.out⟩
    · have HC := Lib.hid (pb_false hv ▸ validSquare_any _ _ _ _ w6 HO6.out.rows)
      clear hv
      go_wp2_with fail
      refine HC.out.mono ?_
      rintro e w7 ⟨rfl, hq⟩
      have HO7 := Lib.hid ((HO6.out.quiet hq).mono (Nat.le_succ _) (hq.below (B := 0)).size)
      have HI7 := Lib.hid (HI6.out.below (hq.below (B := w6.heap.size)))
      have HB7 := Lib.hid (below_quiet HR6.out.below hq)
      clear hq HC HO6 HI6 HR6 hz
      go_wp2
      go_ret2
      exact ⟨Av, nv, cv, gg, xss', Bv, _, cb, ys, rfl, HS.out, HO7.out, HI7.out.ints, HB7.out⟩
  · have hz : (m == 0) = false := by simpa using h0
    clear h0
    go_wp2
    go_ret2
    exact ⟨Av, nv, cv, gg, xss', Bv, _, cb, ys, rfl, HS.out, HO6.out.mono (Nat.le_succ _) (Nat.le_refl _), HI6.out.ints, HR6.out.below⟩

end Go.Proofs.Ytmhknknapciebaa

/- Ascending lists, by the laws. -/
namespace Go.Proofs.Ytmhknknapciebaa
open Go.RowKit

end Go.Proofs.Ytmhknknapciebaa

/- Rows among rows, ascending lists, by the laws. -/
namespace Go.Proofs.Ytmhknknapciebaa
open Go.RowKit

set_option maxHeartbeats 800000 in
theorem inRows_any (A B : Option Addr) (n c m d : Nat) (xs : List (List Int)) (ys : List Int) (w : World) (hx : IntRows w A n c xs) (hy : Ints w B m d ys) :
    Calls Try.prog 46 #[.slice A n c, .slice B m d] w fun e w' => e = .returned (.bool (pb (ys ∈ xs))) ∧ Quiet w w' := by
  have HL := Lib.hid hx.len
  have HX := Lib.hid hx
  have HY := Lib.hid hy
  have hmx := hx.max
  clear hx hy
  go_enter Try.func46, Try.ntmps46
  go_wp2
  go_loopw [5] (fun i wr => ∃ k : Nat, k ≤ n ∧ i = .int .i64 k ∧ Hid (∀ j, j < k → gr xs j ≠ ys) ∧ Quiet w wr) (fun i _ => n - (intOf i).toNat)
  case atStart => exact ⟨0, Nat.zero_le _, rfl, Lib.hid (fun _ h => absurd h (by omega)), Quiet.refl _⟩
  case round =>
    obtain ⟨k, hk, rfl, HALL, hq⟩ := hrel
    by_cases hlt : k < n
    · obtain ⟨b, o, rfl, hc⟩ := (HX.out.keep (Keep.quiet hq)).at_ (by omega)
      obtain ⟨R, cR, c1, hR⟩ := hc k hlt
      have HQ := Lib.hid hq
      have HC := Lib.hid (equalInts_any _ _ _ _ _ _ (gr xs k) ys wr hR (HY.out.keep (Keep.quiet hq)))
      clear hc hR hq
      by_cases he : gr xs k = ys
      · have HR := Lib.hid (pb_true (p := ys ∈ xs) (by rw [← he]; exact gr_mem (by rw [HL.out]; exact hlt)))
        rw [show eqI (gr xs k) ys = true by unfold eqI; exact decide_eq_true he] at HC
        clear he
        go_wp2_with fail
        refine HC.out.mono ?_
        rintro e w2 ⟨rfl, hq⟩
        have HQ2 := Lib.hid (HQ.out.trans hq)
        clear hq HC HQ c1
        go_wp2
        go_ret
        exact ⟨ret_bool HR.out.symm, HQ2.out⟩
      · rw [show eqI (gr xs k) ys = false by unfold eqI; exact decide_eq_false he] at HC
        have HN := Lib.hid (show ∀ j, j < k + 1 → gr xs j ≠ ys from fun j hj => by
          by_cases e : j = k
          · subst e; exact he
          · exact HALL.out j (by omega))
        clear he
        go_wp2_with fail
        refine HC.out.mono ?_
        rintro e w2 ⟨rfl, hq⟩
        have HQ2 := Lib.hid (HQ.out.trans hq)
        clear hq HC HQ c1
        go_wp2
        go_roundw
        case rel => exact ⟨k + 1, by omega, by go_num, HN, HQ2.out⟩
        case measure => simp [intOf]; omega
    · obtain rfl : k = n := by omega
      have HR := Lib.hid (pb_false (p := ys ∈ xs) (fun h => by
        obtain ⟨j, hj, e⟩ := List.mem_iff_getElem.1 h
        exact HALL.out j (by rw [← HL.out]; exact hj) (by rw [gr_get hj]; exact e)))
      have HQ2 := Lib.hid hq
      clear hq
      go_wp2
      go_ret
      exact ⟨ret_bool HR.out.symm, HQ2.out⟩

end Go.Proofs.Ytmhknknapciebaa

/- Members of sets; numbers put to their places: by the program. -/
namespace Go.Proofs.Ytmhknknapciebaa
open Go.RowKit

theorem and_one : ∀ s, s < 32 → ∀ k, k < 6 → (bits BinOp.and IntKind.i64 (((s : Nat) : Int) / 2 ^ k) 1 == 1) = (s / 2 ^ k % 2 == 1) := by decide +kernel
theorem shr_pos : ∀ s, s < 32 → ∀ k, k < 6 → decide (0 < ((s : Nat) : Int) / 2 ^ k) = decide (0 < s / 2 ^ k) := by decide +kernel
theorem memL_end : ∀ s, s < 32 → ∀ k, k < 6 → ¬ 0 < s / 2 ^ k → memL s k = memL s 5 := by decide +kernel
theorem memL_53 : ∀ s, s < 8 → memL s 5 = memL s 3 := by decide +kernel
set_option maxRecDepth 100000 in
set_option maxHeartbeats 1000000 in
theorem membersOf5_any (s : Nat) (w : World) (hs : s < 32) : Calls Try.prog 83 #[.int .i64 s] w (NewI w (memL s 5)) := by
  have HS0 := Lib.hid (IU.nil w)
  have HA := Lib.hid (and_one s hs)
  have HP := Lib.hid (shr_pos s hs)
  have HE := Lib.hid (memL_end s hs)
  have H5 := Lib.hid (show s / 2 ^ 5 = 0 from Nat.div_eq_of_lt (by omega))
  go_enter Try.func83, Try.ntmps83
  go_wp2
  go_loopw [3, 4] (fun v i wr => ∃ k : Nat, k ≤ 5 ∧ i = .int .i64 k ∧ Hid (IU w v (memL s k) wr)) (fun _ i _ => 5 - (intOf i).toNat)
  case atStart => exact ⟨0, Nat.zero_le _, rfl, HS0⟩
  case round =>
    clear HS0
    obtain ⟨k, hk, rfl, HI⟩ := hrel
    obtain ⟨Av, cv, rfl⟩ := HI.out.bi.form
    have hpos := HP.out k (by omega)
    by_cases hlt : 0 < s / 2 ^ k
    · have hk5 : k < 5 := by
        rcases Nat.lt_or_ge k 5 with h | h
        · exact h
        · obtain rfl : k = 5 := by omega
          rw [H5.out] at hlt; omega
      have hand := HA.out k (by omega)
      rw [show decide (0 < s / 2 ^ k) = true from decide_eq_true hlt] at hpos
      clear hlt
      by_cases hp : s / 2 ^ k % 2 = 1
      · have HCS := Lib.hid (memL_yes hp)
        have HML := Lib.hid (memL_le s k)
        rw [show (s / 2 ^ k % 2 == 1) = true by simpa using hp] at hand
        clear hp
        have hb := below_alloc wr (.cells #[iv (k : Int)] 3)
        have HB4 := Lib.hid (HI.out.bi.below hb).own
        have HN := Lib.hid (cell_one_new wr (iv (k : Int)) 3)
        have hwz := HI.out.up.size
        clear hb
        generalize memL s k = ys at *
        obtain ⟨i0, hi0, hz0, hz1, hz2⟩ := info_parts Try.info_int
        go_wp2_with (at_builtin; refine wpList_append_own_at _ rfl _ _ 23 rfl w.heap.size 3 i0 (.int .i64 0) 1 8 Try.underlying23 hi0 hz0 hz1 hz2 rfl (by decide) _ ys.length (ys.map iv) rfl HB4.out ⟨wr.heap.size, 0, none⟩ 1 1 [iv (k : Int)] rfl rfl ?c1 ?c2 ?c3 ?c4 ?c5 ?_)
        case c1 => exact HN.out
        case c2 => intro u hu; simp at hu; subst hu; rfl
        case c3 => have := HML.out; unfold maxLen; omega
        case c4 => have := HML.out; omega
        case c5 => simp; omega
        intro v' w5 hown' hgrow _ hat
        have HI5 := Lib.hid (HI.out.push hown' hgrow (by simpa using hat))
        clear HB4 HN hown' hgrow hat HI hand hpos
        go_wp2
        go_roundw
        case rel => exact ⟨k + 1, by omega, by go_num, Lib.hid (by rw [HCS.out]; exact HI5.out)⟩
        case measure => simp [intOf]; omega
      · have HCS := Lib.hid (memL_no hp)
        rw [show (s / 2 ^ k % 2 == 1) = false by simpa using hp] at hand
        clear hp
        go_wp2
        go_roundw
        case rel => exact ⟨k + 1, by omega, by go_num, Lib.hid (by rw [HCS.out]; exact HI.out)⟩
        case measure => simp [intOf]; omega
    · have HEQ := Lib.hid (HE.out k (by omega) hlt)
      rw [show decide (0 < s / 2 ^ k) = false from decide_eq_false hlt] at hpos
      have HNW := Lib.hid (Eq.mp (congrArg (fun ys => NewI w ys (.returned (.slice Av (memL s k).length cv)) wr) HEQ.out) (HI.out.new (by have := memL_le s k; omega) (memb_bd s k (by omega))))
      clear hlt HEQ HI
      go_wp2
      go_ret
      exact HNW.out
theorem membersOf_any (s : Nat) (w : World) (hs : s < 8) : Calls Try.prog 83 #[.int .i64 s] w (NewI w (memL s 3)) := memL_53 s hs ▸ membersOf5_any s w (by omega)

set_option maxRecDepth 100000 in
set_option maxHeartbeats 2000000 in
theorem spreadI_any (n k cx cy : Nat) (X Y : Option Addr) (xs : List Int) (r : Nat → Nat) (w : World) (hx : Ints w X k cx xs) (hy : Pl w Y k cy r n) (hn : n ≤ 3) (hk3 : k ≤ 3) (hm : ∀ p, p < xs.length → Mid (gi xs p)) (hc : ClrP xs) :
    Calls Try.prog 105 #[.slice X k cx, .slice Y k cy, .int .i64 n] w (NewI w (shr n r xs k)) := by
  have HX := Lib.hid hx
  have HY := Lib.hid hy
  have HM := Lib.hid hm
  have HLX := Lib.hid hx.len
  have hg0 : 0 < gcdL xs k := by have := clr_pos hc; rwa [hx.len] at this
  have HS0 := Lib.hid (SU.start w n (by omega))
  have hmk := run_make_row' (P := Try.prog) 23 3 (.int .i64 0) 8 Try.underlying23 Try.info3 rfl .i64 .i64 n (by omega) (by omega)
  have HC := Lib.hid (fun W (k : Keep w W) => commonFactor_any _ _ _ _ W (hx.keep k) hm)
  clear hx hy hm hc
  have HSH : Hid (shr n r xs k = putL n r (clrL xs (gcdL xs k) k) k) := Lib.hid (by unfold shr; rw [HLX.out])
  rw [HSH.out]
  have HGM := gcdL_mid HM.out (k := k) (Nat.le_of_eq HLX.out.symm)
  obtain ⟨mg1, mg2⟩ := HGM
  clear HSH
  generalize gcdL xs k = G at *
  have hgz : (G == 0) = false := by simp; omega
  have hgn : ¬ (G = 0) := by omega
  have HZ : Hid (List.replicate n 0 = putL n r (clrL xs G k) 0) := Lib.hid rfl
  rw [HZ.out] at HS0
  clear HZ
  go_enter Try.func105, Try.ntmps105
  go_wp2_with fail
  refine (HC.out _ (Keep.below HS0.out.up)).mono ?_
  rintro e w2 ⟨rfl, hq⟩
  have HS1 := Lib.hid (HS0.out.qu hq)
  clear hq HC HS0 hmk
  go_wp2
  go_loopw [17] (fun i wr => ∃ p : Nat, p ≤ k ∧ i = .int .i64 p ∧ Hid (SU w n (putL n r (clrL xs G k) p) wr)) (fun i _ => k - (intOf i).toNat)
  case atStart => exact ⟨0, Nat.zero_le _, rfl, HS1⟩
  case round =>
    clear HS1
    obtain ⟨p, hp, rfl, HS⟩ := hrel
    by_cases hlt : p < k
    · obtain ⟨bx, ox, rfl, hcx⟩ := HX.out.at_ (by omega)
      obtain ⟨by_, oy, rfl, hcy⟩ := HY.out.ints.at_ (by omega)
      have c1 := hcx p hlt
      have c2 := hcy p hlt
      rw [gi_lstN hlt] at c2
      have hrp := HY.out.lt p hlt
      have d1 := Keep.below HS.out.up _ _ c1
      have d2 := Keep.below HS.out.up _ _ c2
      have d3 := HS.out.cell hrp
      have d4 := HS.out.frozen hrp
      have hmx := HM.out p (by rw [HLX.out]; exact hlt)
      have HE : Hid ((putL n r (clrL xs G k) p).set (r p) (max (gi xs p) (-(gi xs p)) / G) = putL n r (clrL xs G k) (p + 1)) := Lib.hid (by rw [putL, gi_clrL hlt])
      have HV := Lib.hid (show -1000000000000000 ≤ max (gi xs p) (-(gi xs p)) / G ∧ max (gi xs p) (-(gi xs p)) / G ≤ 1000000000000000 from by
        unfold Mid at hmx
        have h1 : 0 ≤ max (gi xs p) (-(gi xs p)) / G := Int.ediv_nonneg (by omega) (by omega)
        have h2 : max (gi xs p) (-(gi xs p)) / G ≤ max (gi xs p) (-(gi xs p)) := Int.ediv_le_self _ (by omega)
        omega)
      obtain ⟨m1, m2⟩ := hmx
      clear hcx hcy c1 c2
      generalize r p = R at *
      generalize gi xs p = x at *
      have HW : Hid ((if x < -x then -x else x) / G = max x (-x) / G) := Lib.hid (by congr 1; split <;> omega)
      have HN := Lib.hid (show SU w n (putL n r (clrL xs G k) (p + 1)) (wr.setCell ⟨w.heap.size, R, none⟩ (.int .i64 ((if x < -x then -x else x) / G))).drew from by
        rw [HW.out, ← HE.out]
        exact (HS.out.set hrp (v := max x (-x) / G) (by have := HV.out; omega)).qu ⟨1, rfl⟩)
      generalize gi (putL n r (clrL xs G k) p) R = y at *
      clear HS HE HV
      go_wp2
      go_region
      all_goals
        clear d1 d2 d3 d4
        go_wp2
        go_roundw
        case rel => exact ⟨p + 1, by omega, by go_num, HN⟩
        case measure => simp [intOf]; omega
    · obtain rfl : p = k := by omega
      have HNW := Lib.hid (HS.out.new (putL_len _ _ _ _).symm)
      go_wp2
      go_ret
      exact HNW.out
end Go.Proofs.Ytmhknknapciebaa

/- The harness of the exact laws: a copy of a game marked; how many numbers it has. -/
namespace Go.Proofs.Ytmhknknapciebaa
open Go.RowKit

theorem szR_offs (left : Int) (xs : List (List Int)) (h : 0 ≤ szR left xs) : szR left xs = left - offs xs xs.length := by
  have key : ∀ (xs : List (List Int)) (left : Int), 0 ≤ szR left xs → szR left xs = left - ((xs.map List.length).sum : Nat) := by
    intro xs
    induction xs with
    | nil => intro left _; simp [szR]
    | cons x xs ih =>
      intro left h
      by_cases hn : szI left x.length < 0
      · rw [szR_neg hn] at h; omega
      · rw [szR_pos hn] at h ⊢
        rw [ih _ h]
        have : szI left x.length = left - x.length := by unfold szI at hn ⊢; split <;> simp_all
        rw [this]
        simp
        omega
  have key2 : ∀ k, k ≤ xs.length → offs xs k = (((xs.take k).map List.length).sum : Nat) := by
    intro k
    induction k with
    | zero => intro _; simp [offs]
    | succ k ih =>
      intro hk
      rw [offs, ih (by omega), List.take_succ_eq_append_getElem (by omega), List.map_append, List.sum_append, gr_get (by omega)]
      simp
  rw [key xs left h, key2 _ (Nat.le_refl _), List.take_length]
theorem szRR_offs {left : Int} {xs : List (List Int)} (h : ¬ szRR left xs < 0) : offs xs xs.length ≤ left := by
  unfold szRR at h
  split at h
  · omega
  · rename_i hn
    have := szR_offs _ _ (by omega : 0 ≤ szR (szI left xs.length) xs)
    have h2 : szI left xs.length ≤ left := by unfold szI at hn ⊢; split <;> simp_all; omega
    omega
theorem szG_offs {left : Int} {xs ys : List (List Int)} (h : ¬ szG left xs ys < 0) (h0 : 0 ≤ left) (h1 : left ≤ 1048576) : offs xs xs.length ≤ 1048576 ∧ offs ys ys.length ≤ 1048576 := by
  unfold szG at h
  split at h
  · omega
  · rename_i hn
    split at h
    · omega
    · rename_i hn2
      have := szRR_offs hn
      have := szRR_offs hn2
      have := szRR_le left xs h0 h1
      omega

/-- A game marked: only its own rows have turned, and new blocks are there. -/
def MarkedG (lo hi : Nat) (w : World) (xs ys : List (List Int)) (k : Int) (e : Ending) (w' : World) : Prop :=
  e = .returned (.int .i64 (k + offs xs xs.length + offs ys ys.length)) ∧ ∃ w1, Below w.heap.size w w1 ∧ Touch lo hi w1 w'

def MarkedP (lo hi : Nat) (w : World) (xs ys : List (List Int)) (k : Int) (n m : Nat) (e : Ending) (w' : World) : Prop :=
  e = .returned (.int .i64 (k + offs xs n + offs ys m)) ∧ ∃ w1, Below w.heap.size w w1 ∧ Touch lo hi w1 w'

theorem offs_le {xss : List (List Int)} (h : ∀ r ∈ xss, r.length ≤ 3) : ∀ k, k ≤ xss.length → offs xss k ≤ 3 * k
  | 0, _ => by simp [offs]
  | k + 1, hk => by
    have h1 := offs_le h k (by omega)
    have h2 := h _ (gr_mem (xs := xss) (k := k) (by omega))
    simp only [offs]
    omega

end Go.Proofs.Ytmhknknapciebaa

/- The rests of a table, by the program. -/
namespace Go.Proofs.Ytmhknknapciebaa
open Go.RowKit
open V (sumN detN rowC colC cofN minorN skip sgn Asc)

theorem mid_of' {x : Int} (h : -648 ≤ x ∧ x ≤ 648) : Mid x := by unfold Mid; omega
theorem lf_ab {a : List (List Int)} (v : VT a) (h : a.length = (gr a 0).length) {r : Nat → Nat} {k : Nat} (hr : Asc a.length k r) : Ab k (lf a r) := fun p q hp hq => by
  have := v.bd (hr.1 p hp) (j := r q) (by have := hr.1 q hq; omega)
  unfold lf; omega

/-- Shares of some strategies at which these have as much; or none. -/
def NewLS (w : World) (a : List (List Int)) (n k : Nat) (r : Nat → Nat) (e : Ending) (w' : World) : Prop :=
  (LevP (kY a r r k) ∧ NewI w (shr n r (kY a r r k) k) e w') ∨ (¬ LevP (kY a r r k) ∧ e = .returned (.slice none 0 0) ∧ Below w.heap.size w w')

set_option maxRecDepth 100000 in
set_option maxHeartbeats 4000000 in
theorem levelShares_any (A X : Option Addr) (n c k cx : Nat) (a : List (List Int)) (r : Nat → Nat) (w : World) (ha : IntRows w A n c a) (hq : VQ a) (hx : Pl w X k cx r n) (h1 : 1 ≤ k) (hk3 : k ≤ 3) (hr : Asc n k r) :
    Calls Try.prog 82 #[.slice A n c, .slice X k cx] w (NewLS w a n k r) := by
  have HX := Lib.hid hx
  have HV := Lib.hid hq
  have hl := ha.len
  have HR := Lib.hid (show Asc a.length k r by rw [hl]; exact hr)
  have hn3 : n ≤ 3 := by have := hq.1.n3; omega
  obtain ⟨b, o, rb, ro, cc, rfl, tab⟩ := ha.tab hq.1
  rw [show (gr a 0).length = n by rw [← hq.2, hl]] at tab
  have HT := Lib.hid tab
  have HAB := Lib.hid (lf_ab hq.1 hq.2 HR.out)
  have HLY := Lib.hid (lf_kY a r hk3)
  have HYL := Lib.hid (kY_len a r r k)
  have HYB := Lib.hid (fun p (hp : p < (kY a r r k).length) => mid_of' (kY_bd hq.1 hk3 HR.out (by rw [← hq.2]; exact HR.out) (p := p) hp))
  clear ha hq hx hr hl tab
  have HC := Lib.hid (partOf_any b o rb ro cc n n c k k cx cx X X a r r 0 w HT.out HX.out HX.out hk3 hk3 (by omega) (by omega))
  go_enter Try.func82, Try.ntmps82
  go_wp2_with fail
  refine HC.out.mono ?_
  rintro e w1 ⟨A1, n1, c1, g1, rfl, hn1', ho, hb⟩
  have HSQ := Lib.hid (show Sq k (prtL a r r 0 k k) (lf a r) from prtL_sq a r r 0 k)
  have HO1 := Lib.hid ho.rows
  have HB1 := Lib.hid hb
  obtain rfl : n1 = k := hn1'.trans HSQ.out.len
  clear hn1' ho hb HC
  have HC := Lib.hid (cofactorsM_any n1 hk3 (by omega) A1 c1 _ _ w1 HO1.out HSQ.out HAB.out)
  go_wp2_with fail
  refine HC.out.mono ?_
  rintro e w3 ⟨A3, n3, c3, g3, rfl, hn3', ho, hb⟩
  have HF := Lib.hid ho.rows
  have HB3 := Lib.hid (below_up HB1.out hb)
  obtain rfl : n3 = n1 := hn3'.trans (cofM_len _ _ _)
  clear hn3' ho hb HC HB1 HO1
  have HSF := Lib.hid (cofM_sq n3 (lf a r))
  have HCB := Lib.hid (fun i j (hi : i < n3) (hj : j < n3) => cof_bd hk3 HAB.out hi hj)
  obtain ⟨b3, o3, rb3, ro3, cc3, rfl, tx⟩ := HF.out.tabX HSF.out (by omega) (fun i j hi hj => by have := HCB.out i j hi hj; omega)
  have HTX := Lib.hid tx
  clear tx
  have HC := Lib.hid (turnedX_any b3 o3 rb3 ro3 cc3 n3 c3 _ w3 HTX.out (by omega) hk3)
  go_wp2_with fail
  refine HC.out.mono ?_
  rintro e w5 ⟨rfl, ho, hb, -⟩
  have HG := Lib.hid ho.rows
  have HB5 := Lib.hid (below_up HB3.out hb)
  clear ho hb HC HB3 HF HTX
  have HSO := Lib.hid (show ∀ p, p < n3 → SumOk (gr (flip (cofM n3 (lf a r) n3) n3 n3) p) from fun p hp => by
    rw [gr_flip hp]; exact sumOk_of (by simp; omega) (fun x hx => by
      obtain ⟨i, hi, rfl⟩ := List.mem_map.1 hx
      have hi := List.mem_range.1 hi
      rw [HSF.out.eq i p hi hp]; have := HCB.out i p hi hp; omega))
  generalize w3.heap.size = h3 at *
  have HC := Lib.hid (rowSums_any _ n3 n3 _ w5 HG.out hk3 HSO.out)
  rw [rsL_flip hk3, HLY.out] at HC
  go_wp2_with fail
  refine HC.out.mono ?_
  rintro e w6 ⟨A6, n6, c6, g6, rfl, hn6, ho, hb⟩
  have HY6 := Lib.hid (show Ints w6 A6 n6 c6 (kY a r r n3) from ho.ints)
  have HB6 := Lib.hid (below_up HB5.out hb)
  obtain rfl : n6 = n3 := hn6.trans HYL.out
  clear hn6 ho hb HC HB5 HG HSO HSF HCB HSQ
  have HLB := Lib.hid (levB_iff (xs := kY a r r n6) (by rw [HYL.out]; omega))
  have HC := Lib.hid (Min_any A6 n6 c6 _ w6 HY6.out (by omega))
  have HCL : Hid (LevP (kY a r r n6) → ClrP (kY a r r n6)) := Lib.hid (fun h => h.clr (by rw [HYL.out]; omega))
  have HSP := Lib.hid (fun (h : LevP (kY a r r n6)) (W : World) (k : Keep w6 W) => spreadI_any n n6 c6 cx A6 X _ r W (HY6.out.keep k) ⟨HX.out.ints.keep (Keep.trans (Keep.below HB6.out) k), HX.out.lt⟩ hn3 hk3 HYB.out (HCL.out h))
  clear HYB HCL
  by_cases hm : lst (kY a r r n6) ≤ 0
  · have HCM := Lib.hid (fun q => Max_any A6 n6 c6 _ (w6.drewN q) (HY6.out.keep (Keep.drewN w6 q)) (by omega))
    by_cases hx : 0 ≤ mxl (kY a r r n6)
    · have HNO := Lib.hid (show ¬ LevP (kY a r r n6) from fun h => by
        have := HLB.out.2 h
        unfold levB at this
        rw [decide_eq_true hm, decide_eq_true hx] at this; cases this)
      clear HLB HSP
      generalize mxl (kY a r r n6) = M at *
      generalize lst (kY a r r n6) = L at *
      go_wp2_with fail
      refine HC.out.mono ?_
      rintro e w7 ⟨rfl, q, rfl⟩
      have HC := Lib.hid (HCM.out q)
      clear HCM
      go_wp2_with fail
      refine HC.out.mono ?_
      rintro e w8 ⟨rfl, q2, rfl⟩
      go_wp2
      go_ret
      exact .inr ⟨HNO.out, rfl, below_quiet HB6.out ⟨q + q2, rfl⟩⟩
    · have HYES := Lib.hid (show LevP (kY a r r n6) from HLB.out.1 (by unfold levB; rw [decide_eq_false hx, Bool.and_false]))
      clear HLB
      have HSW := Lib.hid (HSP.out HYES.out)
      clear HSP
      generalize mxl (kY a r r n6) = M at *
      generalize lst (kY a r r n6) = L at *
      go_wp2_with fail
      refine HC.out.mono ?_
      rintro e w7 ⟨rfl, q, rfl⟩
      have HC := Lib.hid (HCM.out q)
      clear HCM
      go_wp2_with fail
      refine HC.out.mono ?_
      rintro e w8 ⟨rfl, q2, rfl⟩
      have HB8 := Lib.hid (below_quiet HB6.out ⟨q + q2, rfl⟩)
      have HC := Lib.hid (HSW.out _ (Keep.drewN w6 (q + q2)))
      go_wp2_with fail
      refine HC.out.mono ?_
      rintro e w9 hnew
      obtain ⟨A9, n9, c9, g9, rfl, hn9, ho, hb⟩ := hnew
      have HN := Lib.hid (NewI.from HB8.out ⟨A9, n9, c9, g9, rfl, hn9, ho, hb⟩)
      clear hn9 ho hb HC
      go_wp2
      go_ret
      exact .inl ⟨HYES.out, HN.out⟩
  · have HYES := Lib.hid (show LevP (kY a r r n6) from HLB.out.1 (by unfold levB; rw [decide_eq_false hm, Bool.false_and]))
    clear HLB
    have HSW := Lib.hid (HSP.out HYES.out)
    clear HSP
    generalize lst (kY a r r n6) = L at *
    go_wp2_with fail
    refine HC.out.mono ?_
    rintro e w7 ⟨rfl, q, rfl⟩
    have HB8 := Lib.hid (below_quiet HB6.out ⟨q, rfl⟩)
    have HC := Lib.hid (HSW.out _ (Keep.drewN w6 q))
    go_wp2_with fail
    refine HC.out.mono ?_
    rintro e w9 hnew
    obtain ⟨A9, n9, c9, g9, rfl, hn9, ho, hb⟩ := hnew
    have HN := Lib.hid (NewI.from HB8.out ⟨A9, n9, c9, g9, rfl, hn9, ho, hb⟩)
    clear hn9 ho hb HC
    go_wp2
    go_ret
    exact .inl ⟨HYES.out, HN.out⟩

set_option maxRecDepth 100000 in
set_option maxHeartbeats 3200000 in
theorem RestsOn_impl (A : Option Addr) (n c : Nat) (a : List (List Int)) (w : World) (hx : IntRows w A n c a) :
    Calls Try.prog 44 #[.slice A n c] w (NewT w (resF a)) := by
  have HX := Lib.hid hx
  have hl := hx.len
  by_cases hv : VQ a
  · have HC := Lib.hid (pb_true hv ▸ ValidSquare_impl A n c a w hx)
    have HV := Lib.hid hv
    have HL := Lib.hid hl
    have hn3 : n ≤ 3 := by have := hv.1.n3; omega
    have hn1 : 1 ≤ n := by have := hv.1.n1; omega
    obtain ⟨P, hP, hP2⟩ := shl_val' hn3
    have hP8 : P ≤ 8 := by rw [hP2]; exact pow_le8 hn3
    have hP1 : 1 ≤ P := by rw [hP2]; exact Nat.one_le_two_pow
    have HP2 := Lib.hid hP2
    have HF := Lib.hid (show resF a = resR a P by rw [resF_yes hv, resR_all (by omega), hl, hP2])
    clear hx hl hv hP2
    go_enter Try.func44, Try.ntmps44
    go_wp2_with fail
    refine HC.out.mono ?_
    rintro e w1 ⟨rfl, hq⟩
    have HB0 := Lib.hid (show Below w.heap.size w w1 from hq.below)
    have HX1 := Lib.hid (HX.out.keep (Keep.quiet hq))
    have HS0 := Lib.hid (show TM w1 (.slice none 0 0) [] (resR a 1) w1 from by rw [resR_one]; exact TM.nil w1)
    clear hq HC HX
    go_wp2
    go_loopw [3, 4] (fun v i wr => ∃ (s : Nat) (vs : List Value), 1 ≤ s ∧ s ≤ P ∧ i = .int .i64 s ∧ Hid (TM w1 v vs (resR a s) wr)) (fun _ i _ => 8 - (intOf i).toNat)
    case atStart => exact ⟨1, [], by omega, by omega, rfl, HS0⟩
    case round =>
      clear HS0
      obtain ⟨s, vs, hs1, hs8, rfl, HTM⟩ := hrel
      obtain ⟨Av, cv, rfl⟩ := HTM.out.bo.form
      by_cases hlt : s < P
      · have hlt' : (s : Int) < (P : Int) := by omega
        have HC := Lib.hid (membersOf_any s wr (by omega))
        rw [memL_all3 s (by omega) n (by omega) (by rw [← HP2.out]; exact hlt)] at HC
        go_wp2_with fail
        refine HC.out.mono ?_
        rintro e w2 ⟨Ao, k, co, go_, rfl, hk, ho, hb⟩
        have HO := Lib.hid (memL_pl ho.ints hk)
        have HK := Lib.hid hk
        have HTM2 := Lib.hid (HTM.out.next hb)
        have hk3 : k ≤ 3 := by have := memL_le s n; omega
        have hk1 : 1 ≤ k := by rw [hk]; exact memL_ge s (by omega) n (by omega) hs1 (by rw [← HP2.out]; exact hlt)
        clear ho hb HC HTM hk
        have HAS := Lib.hid (show Asc n k (idx s n) from by rw [HK.out]; exact idx_asc s n)
        have HLV : Hid (LvP a s ↔ LevAt a k (idx s n)) := Lib.hid (by
          unfold LvP
          rw [HL.out, ← HK.out]
          exact ⟨fun h => h.2.2, fun h => ⟨hs1, by rw [← HP2.out]; exact hlt, h⟩⟩)
        have HEQ : Hid (lvl a s = shr n (idx s n) (kY a (idx s n) (idx s n) k) k) := Lib.hid (by unfold lvl; rw [HL.out, ← HK.out])
        have HC := Lib.hid (levelShares_any A Ao n c k co a (idx s n) w2 (HX1.out.keep (Keep.below HTM2.out.up)) HV.out HO.out hk1 hk3 HAS.out)
        go_wp2_with fail
        refine HC.out.mono ?_
        rintro e w3 hnew
        clear HC
        by_cases hlv : LevP (kY a (idx s n) (idx s n) k)
        · obtain ⟨A1, n1, c1, g1, rfl, hn1', ho, hb⟩ : NewI w2 (shr n (idx s n) (kY a (idx s n) (idx s n) k) k) e w3 := by
            rcases hnew with ⟨_, h⟩ | ⟨h, _⟩
            · exact h
            · exact absurd hlv h
          rw [← HEQ.out] at ho hn1'
          have HLL := Lib.hid (lvl_len a s)
          have HTL := Lib.hid (resR_len a s)
          subst hn1'
          have HO3 := Lib.hid ho
          have HB3 := Lib.hid hb
          have HTM3 := Lib.hid (HTM2.out.next hb)
          have HVS := Lib.hid (show VS (lvl a s) a.length from by
            rw [HEQ.out, HL.out]
            exact shr_VS (kY_len _ _ _ _) HAS.out (hlv.clr (by rw [kY_len]; omega)) (fun p hp => kY_bd HV.out.1 hk3 (by rw [HL.out]; exact HAS.out) (by rw [← HV.out.2, HL.out]; exact HAS.out) hp))
          have HRQ : Hid (RQ a (lvl a s) ↔ LvP a s) := Lib.hid (by
            rw [HLV.out]
            unfold LevAt
            refine ⟨fun h => ⟨hlv, ?_⟩, fun h => ⟨HV.out, HVS.out, ?_⟩⟩
            · have := h.r; rw [HEQ.out] at this; rw [HL.out] at this ⊢; exact this
            · have := h.2; rw [HEQ.out]; rw [HL.out] at this ⊢; exact this)
          have HC := Lib.hid (IsRest_impl A n c a A1 _ c1 (lvl a s) w3 (HX1.out.keep (Keep.below HTM3.out.up)) ho.ints)
          have hll3 : (lvl a s).length ≤ 3 := by rw [HLL.out, HL.out]; exact hn3
          clear hb ho hnew hlv HLV HEQ HLL HVS HTM3
          by_cases hr : LvP a s
          · have HMS := Lib.hid (resR_yes hr)
            rw [pb_true (HRQ.out.2 hr)] at HC
            clear hr HRQ
            generalize lvl a s = ys at *
            generalize resR a s = ms at *
            go_wp2_with fail
            refine HC.out.mono ?_
            rintro e w4 ⟨rfl, hb⟩
            have HB4' := Lib.hid (below_up HB3.out hb)
            have HO4 := Lib.hid ((HO3.out.below hb).mono (Nat.le_refl _) hb.size)
            have hb2 := below_alloc w4 (.cells #[.slice A1 ys.length c1] 23)
            have HB4 := Lib.hid ((HTM2.out.next HB4'.out).bo.below hb2).own
            have HN := Lib.hid (cell_one_new w4 (.slice A1 ys.length c1) 23)
            have hlh : w1.heap.size ≤ w4.heap.size := Nat.le_trans HTM2.out.up.size HB4'.out.size
            clear hb hb2 HC HB3 HO3
            obtain ⟨i0, hi0, hz0, hz1, hz2⟩ := info_parts Try.info_row
            go_wp2_with (at_builtin; refine wpList_append_own_at _ rfl _ _ 22 rfl w1.heap.size 23 i0 (.slice none 0 0) 1 24 Try.underlying22 hi0 hz0 hz1 hz2 rfl (by decide) _ ms.length vs rfl HB4.out ⟨w4.heap.size, 0, none⟩ 1 1 [.slice A1 ys.length c1] rfl rfl ?d1 ?d2 ?d3 ?d4 ?d5 ?_)
            case d1 => exact HN.out
            case d2 => intro u hu; simp at hu; subst hu; rfl
            case d3 => have := HTL.out; unfold maxLen; omega
            case d4 => have := HTL.out; omega
            case d5 => simp; omega
            intro v' w5 hown' hgrow _ hat
            have HT5 := Lib.hid (HTM2.out.push HB4'.out HO4.out hown' hgrow (by simpa using hat))
            clear HB4 HN hown' hgrow hat HTM2 HO4
            go_wp2
            go_roundw
            case rel => exact ⟨s + 1, _, by omega, by omega, by go_num, Lib.hid (by rw [HMS.out]; exact HT5.out)⟩
            case measure => simp [intOf]; omega
          · have HMS := Lib.hid (resR_no hr)
            rw [pb_false (fun h => hr (HRQ.out.1 h))] at HC
            clear hr HRQ
            generalize lvl a s = ys at *
            go_wp2_with fail
            refine HC.out.mono ?_
            rintro e w4 ⟨rfl, hb⟩
            have HTM4 := Lib.hid ((HTM2.out.next HB3.out).next hb)
            clear hb HC HB3 HO3 HTM2
            go_wp2
            go_roundw
            case rel => exact ⟨s + 1, _, by omega, by omega, by go_num, Lib.hid (by rw [HMS.out]; exact HTM4.out)⟩
            case measure => simp [intOf]; omega
        · obtain ⟨rfl, hb⟩ : e = .returned (.slice none 0 0) ∧ Below w2.heap.size w2 w3 := by
            rcases hnew with ⟨h, _⟩ | ⟨_, h⟩
            · exact absurd h hlv
            · exact h
          have HMS := Lib.hid (resR_no (fun h => hlv (HLV.out.1 h).1))
          have HTM3 := Lib.hid (HTM2.out.next hb)
          have HC := Lib.hid (IsRest_impl A n c a none 0 0 [] w3 (HX1.out.keep (Keep.below HTM3.out.up)) (OwnI.nil 0 0 w3 0).ints)
          rw [pb_false (p := RQ a []) (fun h => by have := h.s.1; rw [HL.out] at this; simp at this; omega)] at HC
          clear hnew hlv hb HLV HEQ HTM2
          go_wp2_with fail
          refine HC.out.mono ?_
          rintro e w4 ⟨rfl, hb⟩
          have HTM4 := Lib.hid (HTM3.out.next hb)
          clear hb HC HTM3
          go_wp2
          go_roundw
          case rel => exact ⟨s + 1, _, by omega, by omega, by go_num, Lib.hid (by rw [HMS.out]; exact HTM4.out)⟩
          case measure => simp [intOf]; omega
      · obtain rfl : s = P := by omega
        have HNW := Lib.hid (NewT.from HB0.out (HTM.out.new (by have := resR_len a s; omega)))
        have hlt' : ¬ (s : Int) < (s : Int) := by omega
        go_wp2
        go_ret
        rw [HF.out]
        exact HNW.out
  · have HC := Lib.hid (pb_false hv ▸ ValidSquare_impl A n c a w hx)
    have HF := Lib.hid (resF_no hv)
    clear hx hl hv
    go_enter Try.func44, Try.ntmps44
    go_wp2_with fail
    refine HC.out.mono ?_
    rintro e w1 ⟨rfl, hq⟩
    go_wp2
    go_ret
    exact NewT.none hq.below HF.out
theorem resF_offs (a : List (List Int)) : offs (resF a) (resF a).length ≤ 1000000 := by
  by_cases h : VQ a
  · rw [resF_yes h]
    have h1 := resR_len a 8
    have h3 : ∀ r ∈ resR a 8, r.length ≤ 3 := fun r hr => by
      obtain ⟨s, _, _, rfl⟩ := mem_resR.1 hr
      rw [lvl_len]; exact h.1.n3
    have h2 := offs_le h3 _ (Nat.le_refl (resR a 8).length)
    omega
  · rw [resF_no h]; simp [offs]
end Go.Proofs.Ytmhknknapciebaa

/- One strategy alone rests just if it twice is a pure rest of two who play the table. Plain. -/
namespace Go.Proofs.Ytmhknknapciebaa

theorem rest_le {a : List (List Int)} (v : VQ a) {i : Nat} (hi : i < a.length) : RQ a (onl a.length i) ↔ ∀ k, k < a.length → g2 a k i ≤ g2 a i i := by
  constructor
  · intro h k hk
    have := h.r i hi (by rw [gi_onl hi, if_pos rfl]; omega) k hk
    rwa [dotr_alone a _ k i hi, dotr_alone a _ i i hi] at this
  · intro h
    refine ⟨v, onl_VS hi, fun j hj hp k hk => ?_⟩
    rw [gi_onl hj] at hp
    have e : j = i := by
      by_cases e : j = i
      · exact e
      · rw [if_neg e] at hp; omega
    subst e
    rw [dotr_alone a _ k j hj, dotr_alone a _ j j hj]
    exact h k hk
theorem pair_le {a : List (List Int)} (v : VQ a) {i : Nat} (hi : i < a.length) : [(i : Int), (i : Int)] ∈ pureR a (flip a a.length a.length) ↔ ∀ k, k < a.length → g2 a k i ≤ g2 a i i := by
  have hf := v.flip rfl
  have hm := v.m rfl
  have hg : VG a (flip a a.length a.length) := ⟨v.1, hf.1, by rw [flip_len], by rw [hm, gr_flip (by omega)]; simp⟩
  unfold pureR
  rw [if_pos (pb_true hg), allRests_mem]
  constructor
  · rintro ⟨k, l, hk, hl, e, h⟩
    simp only [List.cons.injEq, and_true] at e
    have e1 : k = i := by omega
    have e2 : l = i := by omega
    subst e1; subst e2
    exact h.1
  · intro h
    refine ⟨i, i, hi, by omega, rfl, h, fun k hk => ?_⟩
    rw [hm] at hk
    rw [g2_flipT hi hk, g2_flipT hi hi]
    exact h k hk
theorem rest_pair {a : List (List Int)} (v : VQ a) {n i : Nat} (hl : a.length = n) (hi : i < n) : RQ a (onl n i) ↔ [(i : Int), (i : Int)] ∈ pureR a (flip a n n) := by
  subst hl
  exact (rest_le v hi).trans (pair_le v hi).symm
theorem pureR_le (a b : List (List Int)) : (pureR a b).length ≤ 9 := by
  by_cases v : VG a b
  · have h1 := allRests_len a b a.length (gr a 0).length v.ta.m3 a.length
    have h2 := v.ta.n3
    unfold pureR; rw [if_pos (pb_true v)]; omega
  · unfold pureR; rw [if_neg (by rw [pb_false v]; decide)]; simp
end Go.Proofs.Ytmhknknapciebaa

/- Pure rests, by the program. -/
namespace Go.Proofs.Ytmhknknapciebaa
open Go.RowKit

theorem Try.info32b : (Try.prog.info? 23).map (fun i => (i.zero, i.size, i.bytes)) = some (some (.slice none 0 0), 1, 24) := by kernel_rfl

/-- What the loops know: the game, the turned table, the rests so far. -/
structure PS (p : GP) (w : World) (N L : Nat) (wr : World) (v : Value) (vs : List Value) (xs ys rs : List (List Int)) : Prop where
  gt : GT p w wr w.heap.size xs ys
  tn : OwnR N L wr N (some ⟨N, 0, none⟩) p.m p.m (flip xs p.n p.m)
  bd : Bld L wr.heap.size wr v vs rs
  h1 : w.heap.size < N
  h2 : N < L
  h3 : L ≤ wr.heap.size
theorem PS.qu {p w N L wr wr' v vs xs ys rs} (h : PS p w N L wr v vs xs ys rs) (k : Quiet wr wr') : PS p w N L wr' v vs xs ys rs := by
  have kb : Below wr.heap.size wr wr' := k.below
  exact ⟨h.gt.up kb, h.tn.below kb, (h.bd.below kb).mono kb.size, h.h1, h.h2, Nat.le_trans h.h3 kb.size⟩

set_option maxHeartbeats 1000000 in
theorem PureRests_impl (A B : Option Addr) (n c m d : Nat) (xs ys : List (List Int)) (w : World) (hx : IntRows w A n c xs) (hy : IntRows w B m d ys) :
    Calls Try.prog 47 #[.agg #[.slice A n c, .slice B m d]] w (RetR (pureR xs ys) w) := by
  have hb0 := below_alloc w (.cells #[.slice A n c, .slice B m d] 47)
  have b0 := blk_new w 47 #[.slice A n c, .slice B m d]
  have HB := Lib.hid hb0
  have HK := Lib.hid b0
  have HX := Lib.hid (hx.keep (Keep.below hb0))
  have HY := Lib.hid (hy.keep (Keep.below hb0))
  have HX0 := Lib.hid hx
  have HY0 := Lib.hid hy
  clear hx hy hb0 b0
  go_enter Try.func47, Try.ntmps47
  go_wp2_with fail
  generalize w.alloc (.cells #[.slice A n c, .slice B m d] 47) = W1 at *
  have HC := Lib.hid (ValidGame_impl _ _ _ _ _ _ _ _ _ HX.out HY.out)
  by_cases hv : VG xs ys
  · refine ((pb_true hv) ▸ HC.out).mono ?_
    rintro e w1 ⟨rfl, hb⟩
    have hb2 := below_up HB.out hb
    have hk2 := blk_below HK.out hb
    obtain ⟨p, rfl, rfl, rfl, rfl, rfl, rfl, hg⟩ := GV.of HX0.out HY0.out hv
    have HT := Lib.hid (show GT p w w1 w.heap.size xs ys from ⟨hb2, hk2, hg⟩)
    have hn3 := hg.tx.n3
    have hm3 := hg.tx.m3
    have hn1 := hg.tx.n1
    have hm1 := hg.tx.m1
    have HP := Lib.hid (show pureR xs ys = allRests xs ys p.n p.m p.n by rw [pureR, if_pos (pb_true hv), hg.lx, hg.mx])
    have HLY := Lib.hid (show ∀ i, i < p.n → (gr ys i).length = p.m from fun i hi => (hg.ty.ints i hi).len)
    clear hb hv hb2 hk2 hg HX HY HX0 HY0 HB HK HC
    have k0 := HT.out.c0
    go_wp2_with fail
    refine (turned_any _ _ _ _ _ _ _ _ _ _ HT.out.gv.tx).mono ?_
    rintro e w2 ⟨rfl, ho, hb, hlt⟩
    have HS := Lib.hid (show PS p w w1.heap.size w2.heap.size w2 (.slice none 0 0) [] xs ys [] from ⟨HT.out.up hb, ho, Bld.nil _ _ _, blk_lt HT.out.box, hlt, Nat.le_refl _⟩)
    clear ho hb hlt HT k0
    generalize w1.heap.size = N at *
    generalize w2.heap.size = L at *
    have k1 := HS.out.gt.c1
    go_wp2
    clear k1
    go_loopw [4, 18] (fun v s wr => ∃ (i : Nat) (vs : List Value), i ≤ p.n ∧ s = .int .i64 i ∧ Hid (PS p w N L wr v vs xs ys (allRests xs ys p.n p.m i))) (fun _ s _ => p.n - (intOf s).toNat)
    case atStart => exact ⟨0, [], Nat.zero_le _, rfl, HS⟩
    case round =>
      clear HS
      obtain ⟨i, vs, hi, rfl, HS⟩ := hrel
      by_cases hin : i < p.n
      · have s1 := HS.out.gt.gv.ty.row i hin
        go_wp2
        clear s1
        go_loopw [4, 25] (fun v s wj => ∃ (j : Nat) (vs : List Value), j ≤ p.m ∧ s = .int .i64 j ∧ Hid (PS p w N L wj v vs xs ys (allRests xs ys p.n p.m i ++ rowRests xs ys p.n p.m i j))) (fun _ s _ => p.m - (intOf s).toNat)
        case atStart => exact ⟨0, vs, Nat.zero_le _, rfl, Lib.hid (by rw [rowRests, List.append_nil]; exact HS.out)⟩
        case round =>
          clear HS vs
          obtain ⟨j, vs, hj, rfl, HS⟩ := hrel
          by_cases hjm : j < p.m
          · have k0 := HS.out.gt.c0
            have r1 := HS.out.gt.gv.tx.row i hin
            have e1 := HS.out.gt.gv.tx.cell i j hin hjm
            have f1 := HS.out.gt.gv.ty.cell i j hin hjm
            obtain ⟨R, cc, t1, tI⟩ := HS.out.tn.row0 hjm
            have hfl : (gr (flip xs p.n p.m) j).length = p.n := by rw [gr_flip hjm]; simp
            have HQX := Lib.hid tI
            have HQY := Lib.hid (HS.out.gt.gv.ty.ints i hin)
            clear tI
            generalize hcol : gr (flip xs p.n p.m) j = col at *
            have HCOL := Lib.hid hcol
            clear hcol
            have QX := Lib.hid (fun W (hW : Quiet wr W) => Max_any _ _ _ _ W (HQX.out.keep (Keep.quiet hW)) (by omega))
            have QY := Lib.hid (fun W (hW : Quiet wr W) => Max_any _ _ _ _ W (HQY.out.keep (Keep.quiet hW)) (by omega))
            clear HQX HQY hfl
            by_cases h1 : g2 xs i j = mxl col
            · have h1' : (g2 xs i j == mxl col) = true := by simp [h1]
              by_cases h2 : g2 ys i j = mxl (gr ys i)
              · have h2' : (g2 ys i j == mxl (gr ys i)) = true := by simp [h2]
                have HR := Lib.hid (rowRests_yes ((RestAt_iff hin hjm (HLY.out i hin)).2 ⟨by rw [HCOL.out]; exact h1, h2⟩))
                clear h1 h2
                go_wp2
                go_quiet ((go_at_call 87; (first | (with_reducible refine quiet_fit (QX.out _ ?_) (fun m => ?_)) | (with_reducible refine quiet_fit (QY.out _ ?_) (fun m => ?_))); (first | exact ⟨_, rfl⟩ | exact Quiet.two _ _ _); (first | exact drewN_to1 _ _ _ | exact drewN_to2 _ _ _ _)))
                have HS2 := Lib.hid (HS.out.qu ⟨nq, rfl⟩)
                have hlen : (allRests xs ys p.n p.m i ++ rowRests xs ys p.n p.m i j).length ≤ 12 := by
                  have h1 := allRests_len xs ys p.n p.m hm3 i
                  have h2 := rowRests_len xs ys p.n p.m i j
                  rw [List.length_append]; omega
                clear QX QY h1' h2' HS k0 r1 e1 f1 t1
                generalize wr.drewN nq = w2 at *
                have hb3 := below_alloc w2 (.cells #[.int .i64 i, .int .i64 j] 3)
                have hb4 := below_alloc (w2.alloc (.cells #[.int .i64 i, .int .i64 j] 3)) (.cells #[.slice (some ⟨w2.heap.size, 0, none⟩) 2 2] 23)
                have HB4 := Lib.hid ((HS2.out.bd.below hb3).below hb4).own
                have HN := Lib.hid (cell_one_new (w2.alloc (.cells #[.int .i64 i, .int .i64 j] 3)) (.slice (some ⟨w2.heap.size, 0, none⟩) 2 2) 23)
                have hL := HS2.out.h3
                clear hb3 hb4
                generalize hrs : allRests xs ys p.n p.m i ++ rowRests xs ys p.n p.m i j = rs at *
                have HRS := Lib.hid hrs
                clear hrs
                obtain ⟨i0, hi0, hz0, hz1, hz2⟩ := info_parts Try.info32b
                go_wp2_with (at_builtin; refine wpList_append_own_at _ rfl _ _ 22 rfl L 23 i0 (.slice none 0 0) 1 24 Try.underlying22 hi0 hz0 hz1 hz2 rfl (by decide) _ rs.length vs rfl HB4.out ⟨w2.heap.size + 1, 0, none⟩ 1 1 [.slice (some ⟨w2.heap.size, 0, none⟩) 2 2] rfl rfl ?c1 ?c2 ?c3 ?c4 ?c5 ?_)
                case c1 => have h := HN.out; rw [World.size_alloc] at h; exact h
                case c2 => intro u hu; simp at hu; subst hu; rfl
                case c3 => unfold maxLen; omega
                case c4 => omega
                case c5 => simp; omega
                intro v' w5 hown' hgrow _ hat
                obtain ⟨hP, hK⟩ := push_pair HS2.out.bd (by omega) (by omega) hown' hgrow hat hL
                have HS5 := Lib.hid (show PS p w N L w5 v' _ xs ys _ from ⟨HS2.out.gt.up2 hK (by have := HS2.out.h1; have := HS2.out.h2; omega) (by have := HS2.out.h1; have := HS2.out.h2; omega), HS2.out.tn.of_blocks (fun g _ hg _ => hK.block g hg), hP, HS2.out.h1, HS2.out.h2, Nat.le_trans hL hK.size⟩)
                clear HB4 HN hown' hgrow hat hP hK HS2
                go_wp2
                go_roundw
                case rel => exact ⟨j + 1, _, by omega, by go_num, Lib.hid (by rw [HR.out, ← List.append_assoc, HRS.out]; exact HS5.out)⟩
                case measure => simp [intOf]; omega
              · have h2' : (g2 ys i j == mxl (gr ys i)) = false := by simp [h2]
                have HR := Lib.hid (rowRests_no (a := xs) (fun v => h2 ((RestAt_iff hin hjm (HLY.out i hin)).1 v).2))
                clear h1 h2
                go_wp2
                go_quiet ((go_at_call 87; (first | (with_reducible refine quiet_fit (QX.out _ ?_) (fun m => ?_)) | (with_reducible refine quiet_fit (QY.out _ ?_) (fun m => ?_))); (first | exact ⟨_, rfl⟩ | exact Quiet.two _ _ _); (first | exact drewN_to1 _ _ _ | exact drewN_to2 _ _ _ _)))
                have HS2 := Lib.hid (HS.out.qu ⟨nq, rfl⟩)
                go_wp2
                go_roundw
                case rel => exact ⟨j + 1, vs, by omega, by go_num, Lib.hid (by rw [HR.out]; exact HS2.out)⟩
                case measure => simp [intOf]; omega
            · have h1' : (g2 xs i j == mxl col) = false := by simp [h1]
              have HR := Lib.hid (rowRests_no (fun v => h1 (by have := ((RestAt_iff hin hjm (HLY.out i hin)).1 v).1; rw [HCOL.out] at this; exact this)))
              clear h1
              go_wp2
              go_quiet ((go_at_call 87; (first | (with_reducible refine quiet_fit (QX.out _ ?_) (fun m => ?_)) | (with_reducible refine quiet_fit (QY.out _ ?_) (fun m => ?_))); (first | exact ⟨_, rfl⟩ | exact Quiet.two _ _ _); (first | exact drewN_to1 _ _ _ | exact drewN_to2 _ _ _ _)))
              have HS2 := Lib.hid (HS.out.qu ⟨nq, rfl⟩)
              go_wp2
              go_roundw
              case rel => exact ⟨j + 1, vs, by omega, by go_num, Lib.hid (by rw [HR.out]; exact HS2.out)⟩
              case measure => simp [intOf]; omega
          · go_wp2
            go_roundw
            case rel => exact ⟨i + 1, vs, by omega, by go_num, Lib.hid (by have h := HS.out; rw [show j = p.m by omega] at h; rw [allRests]; exact h)⟩
            case measure => simp [intOf]; omega
      · go_wp2
        go_ret
        obtain ⟨A, n, c, g, rfl, hn, ho⟩ := HS.out.bd.owns (by have := allRests_len xs ys p.n p.m hm3 i; omega)
        have e : pureR xs ys = allRests xs ys p.n p.m i := by rw [HP.out, show i = p.n by omega]
        exact ⟨A, n, c, g, rfl, by rw [e]; exact hn, by rw [e]; exact ho.mono (by have := HS.out.h1; have := HS.out.h2; omega) (Nat.le_refl _), HS.out.gt.below⟩
  · have HZ := Lib.hid (show pureR xs ys = [] by rw [pureR, if_neg (by rw [pb_false hv]; decide)])
    refine ((pb_false hv) ▸ HC.out).mono ?_
    rintro e w1 ⟨rfl, hb⟩
    have HB2 := Lib.hid (below_up HB.out hb)
    clear hb hv HC
    go_wp2
    go_ret
    exact ⟨none, 0, 0, 0, rfl, by rw [HZ.out]; rfl, by rw [HZ.out]; exact OwnR.nil _ _ _ _, HB2.out⟩
end Go.Proofs.Ytmhknknapciebaa

/- Shares by a part of a table, by the program. -/
namespace Go.Proofs.Ytmhknknapciebaa
open Go.RowKit
open V (sumN detN rowC colC cofN minorN skip sgn Asc Kern)

/-- The part tells shares. -/
structure Tells (a : List (List Int)) (k : Nat) (r s : Nat → Nat) : Prop where
  det : detN k (kf a r s) ≠ 0
  cx : ClrP (kX a r s k)
  cy : ClrP (kY a r s k)
def NewS (w : World) (a : List (List Int)) (k l : Nat) (r s : Nat → Nat) (e : Ending) (w' : World) : Prop :=
  (k = l ∧ Tells a k r s ∧ ∃ A1 c1 g1 A2 c2 g2, e = .returned (.tuple #[.slice A1 a.length c1, .slice A2 (gr a 0).length c2]) ∧ OwnI w.heap.size w'.heap.size w' g1 A1 a.length c1 (shr a.length r (kX a r s k) k) ∧
    OwnI w.heap.size w'.heap.size w' g2 A2 (gr a 0).length c2 (shr (gr a 0).length s (kY a r s k) k) ∧ g1 ≠ g2 ∧ Below w.heap.size w w') ∨
  (¬ (k = l ∧ Tells a k r s) ∧ e = .returned (.tuple #[.slice none 0 0, .slice none 0 0]) ∧ Below w.heap.size w w')
theorem newS_of {w wf : World} {a : List (List Int)} {k n : Nat} {r s : Nat → Nat} (hl : a.length = n) (T : Tells a k r s) {Ax Ay : Option Addr} {nx dx gx ny dy gy lo1 lo2 : Nat} (hnx : nx = (shr n r (kX a r s k) k).length) (hny : ny = (shr (gr a 0).length s (kY a r s k) k).length)
    (hx : OwnI lo1 wf.heap.size wf gx Ax nx dx (shr n r (kX a r s k) k)) (hy : OwnI lo2 wf.heap.size wf gy Ay ny dy (shr (gr a 0).length s (kY a r s k) k)) (h1 : w.heap.size ≤ lo1) (h2 : w.heap.size ≤ lo2) (hne : gx ≠ gy) (hb : Below w.heap.size w wf) :
    NewS w a k k r s (.returned (.tuple #[.slice Ax nx dx, .slice Ay ny dy])) wf := by
  obtain rfl : nx = n := hnx.trans (putL_len _ _ _ _)
  obtain rfl : ny = (gr a 0).length := hny.trans (putL_len _ _ _ _)
  subst hl
  exact .inl ⟨rfl, T, Ax, dx, gx, Ay, dy, gy, rfl, hx.mono h1 (Nat.le_refl _), hy.mono h2 (Nat.le_refl _), hne, hb⟩
theorem own_apart {lo1 hi1 lo2 hi2 : Nat} {w1 w2 : World} {g1 g2 n1 n2 c1 c2 : Nat} {A1 A2 : Option Addr} {xs ys : List Int} (h1 : OwnI lo1 hi1 w1 g1 A1 n1 c1 xs) (h2 : OwnI lo2 hi2 w2 g2 A2 n2 c2 ys) (p1 : 0 < n1) (p2 : 0 < n2) (h : hi1 ≤ lo2) : g1 ≠ g2 := by
  obtain ⟨_, _, _, q1, _⟩ := h1.own p1
  obtain ⟨_, _, q2, _⟩ := h2.own p2
  omega
theorem lit_two {w : World} {A B : Option Addr} {n m c d : Nat} {xs ys : List Int} (hx : Ints w A n c xs) (hy : Ints w B m d ys) :
    IntRows (w.alloc (.cells #[.slice A n c, .slice B m d] 23)) (some ⟨w.heap.size, 0, none⟩) 2 2 [xs, ys] := by
  have hb := blk_new w 23 #[.slice A n c, .slice B m d]
  have hk := Keep.below (below_alloc w (.cells #[.slice A n c, .slice B m d] 23))
  refine ⟨rfl, Nat.le_refl _, by omega, fun _ => ⟨_, 0, rfl, fun k hk2 => ?_⟩⟩
  rw [Nat.zero_add]
  have hlx := hx.len
  have hly := hy.len
  match k, hk2 with
  | 0, _ => exact ⟨A, c, by rw [show (gr [xs, ys] 0).length = n from hlx]; exact blk_cell hb rfl, by rw [show (gr [xs, ys] 0).length = n from hlx]; exact hx.keep hk⟩
  | 1, _ => exact ⟨B, d, by rw [show (gr [xs, ys] 1).length = m from hly]; exact blk_cell hb rfl, by rw [show (gr [xs, ys] 1).length = m from hly]; exact hy.keep hk⟩
theorem kXY_rows {a : List (List Int)} {k : Nat} {r s : Nat → Nat} (hk : k ≤ 3) (hu : Up k (kf a r s)) : ∀ p, p < [kX a r s k, kY a r s k].length → (gr [kX a r s k, kY a r s k] p).length = k ∧ ∀ x ∈ gr [kX a r s k, kY a r s k] p, -1000000 ≤ x ∧ x ≤ 1000000 := fun p hp => by
  have hp : p < 2 := hp
  match p, hp with
  | 0, _ => exact ⟨kX_len a r s k, cofL_bd hk hu.ab (Nat.le_refl k)⟩
  | 1, _ => exact ⟨kY_len a r s k, cofL_bd hk hu.tr.ab (Nat.le_refl k)⟩

set_option maxRecDepth 100000 in
set_option maxHeartbeats 4000000 in
theorem sharesOn_any (A X Y : Option Addr) (n c k l cx cy : Nat) (a : List (List Int)) (r s : Nat → Nat) (w : World) (ha : IntRows w A n c a) (hv : VT a) (hx : Pl w X k cx r a.length) (hy : Pl w Y l cy s (gr a 0).length)
    (hk1 : 1 ≤ k) (hk3 : k ≤ 3) (hl3 : l ≤ 3) (hr : Asc a.length k r) (hs : Asc (gr a 0).length l s) :
    Calls Try.prog 88 #[.slice A n c, .slice X k cx, .slice Y l cy] w (NewS w a k l r s) := by
  by_cases hkl : k = l
  case neg =>
    have hz := nei_true hkl
    have HKL := Lib.hid hkl
    clear hkl ha hv hx hy hr hs
    go_enter Try.func88, Try.ntmps88
    go_wp2
    go_ret2
    exact .inr ⟨fun h => HKL.out h.1, rfl, Below.refl _ _⟩
  subst hkl
  have hz : ((k : Int) != (k : Int)) = false := by simp
  have HA := Lib.hid ha
  have HX := Lib.hid hx
  have HY := Lib.hid hy
  have HV := Lib.hid hv
  have HR := Lib.hid hr
  have HS := Lib.hid hs
  have HLEN := Lib.hid ha.len
  have hn1 := hv.n1
  have hn3 := hv.n3
  have hm1 := hv.m1
  have hm3 := hv.m3
  rw [ha.len] at hn1 hn3
  obtain ⟨b, o, rb, ro, cc, rfl, tab⟩ := ha.tab hv
  have HT := Lib.hid tab
  have hrow := tab.row 0 (by omega)
  simp only [Nat.add_zero] at hrow
  have HROW := Lib.hid hrow
  have HUP := Lib.hid (kf_up hv hr hs)
  clear ha hv hx hy hr hs tab hrow
  have HC := Lib.hid (partOf_any b o rb ro cc n (gr a 0).length c k k cx cy X Y a r s 18 w HT.out (HLEN.out ▸ HX.out) HY.out hk3 hk3 (by omega) (by omega))
  go_enter Try.func88, Try.ntmps88
  go_wp2_with fail
  refine HC.out.mono ?_
  rintro e w1 ⟨A1, n1, c1, g1, rfl, hn1', ho, hb⟩
  have HSQ := Lib.hid (show Sq k (prtL a r s 18 k k) (kf a r s) from prtL_sq a r s 18 k)
  have HO1 := Lib.hid ho.rows
  have HB1 := Lib.hid hb
  obtain rfl : n1 = k := hn1'.trans HSQ.out.len
  clear hn1' ho hb HC hz
  have HC := Lib.hid (determinant_any n1 hk3 A1 c1 _ _ w1 HO1.out HSQ.out HUP.out.ab)
  by_cases hd : detN n1 (kf a r s) = 0
  · have HNO := Lib.hid (show ¬ Tells a n1 r s from fun h => h.det hd)
    rw [hd] at HC
    clear hd
    go_wp2_with fail
    refine HC.out.mono ?_
    rintro e w2 ⟨rfl, hb⟩
    have HB2 := Lib.hid (below_up HB1.out hb)
    clear hb HC HB1
    go_wp2
    go_ret2
    exact .inr ⟨fun h => HNO.out h.2, rfl, HB2.out⟩
  have HD := Lib.hid hd
  have hdz : (detN n1 (kf a r s) == 0) = false := by simpa using hd
  clear hd
  generalize hdd : detN n1 (kf a r s) = D at hdz HC
  clear hdd
  go_wp2_with fail
  refine HC.out.mono ?_
  rintro e w2 ⟨rfl, hb⟩
  have HB2 := Lib.hid (below_up HB1.out hb)
  have HO2 := Lib.hid (HO1.out.keep (Keep.below hb))
  clear hb HC HB1 HO1
  have HC := Lib.hid (cofactorsM_any n1 hk3 (by omega) A1 c1 _ _ w2 HO2.out HSQ.out HUP.out.ab)
  go_wp2_with fail
  refine HC.out.mono ?_
  rintro e w3 ⟨A3, n3, c3, g3, rfl, hn3', ho, hb⟩
  have HF := Lib.hid ho.rows
  have HB3 := Lib.hid (below_up HB2.out hb)
  obtain rfl : n3 = n1 := hn3'.trans (cofM_len _ _ _)
  clear hn3' ho hb HC HB2 HO2
  have HSF := Lib.hid (cofM_sq n3 (kf a r s))
  have HCB := Lib.hid (fun i j (hi : i < n3) (hj : j < n3) => cof_bd hk3 HUP.out.ab hi hj)
  have HSO := Lib.hid (show ∀ p, p < n3 → SumOk (gr (cofM n3 (kf a r s) n3) p) from fun p hp => by
    rw [gr_cofM hp]; exact sumOk_of (by rw [cofR_len]; omega) (fun x hx => by have := cofR_bd hk3 HUP.out.ab hp (Nat.le_refl n3) x hx; omega))
  have HC := Lib.hid (rowSums_any A3 n3 c3 _ w3 HF.out hk3 HSO.out)
  rw [rsL_cofM] at HC
  go_wp2_with fail
  refine HC.out.mono ?_
  rintro e w4 ⟨A4, n4, c4, g4, rfl, hn4, ho, hb⟩
  have HX4 := Lib.hid (show Ints w4 A4 n4 c4 (kX a r s n3) from ho.ints)
  have HB4 := Lib.hid (below_up HB3.out hb)
  have HF4 := Lib.hid (HF.out.keep (Keep.below hb))
  obtain rfl : n4 = n3 := hn4.trans (cofL_len _ _ _)
  clear hn4 ho hb HC HB3 HF HSO
  obtain ⟨b3, o3, rb3, ro3, cc3, rfl, tx⟩ := HF4.out.tabX HSF.out (by omega) (fun i j hi hj => by have := HCB.out i j hi hj; omega)
  have HTX := Lib.hid tx
  clear tx
  have HC := Lib.hid (turnedX_any b3 o3 rb3 ro3 cc3 n4 c3 _ w4 HTX.out (by omega) hk3)
  go_wp2_with fail
  refine HC.out.mono ?_
  rintro e w5 ⟨rfl, ho, hb, -⟩
  have HG := Lib.hid ho.rows
  have HB5 := Lib.hid (below_up HB4.out hb)
  have HX5 := Lib.hid (HX4.out.keep (Keep.below hb))
  clear ho hb HC HB4 HF4 HTX HX4
  have HSO := Lib.hid (show ∀ p, p < n4 → SumOk (gr (flip (cofM n4 (kf a r s) n4) n4 n4) p) from fun p hp => by
    rw [gr_flip hp]; exact sumOk_of (by simp; omega) (fun x hx => by
      obtain ⟨i, hi, rfl⟩ := List.mem_map.1 hx
      have hi := List.mem_range.1 hi
      rw [HSF.out.eq i p hi hp]; have := HCB.out i p hi hp; omega))
  generalize w4.heap.size = h4 at *
  have HC := Lib.hid (rowSums_any _ n4 n4 _ w5 HG.out hk3 HSO.out)
  rw [rsL_flip hk3] at HC
  go_wp2_with fail
  refine HC.out.mono ?_
  rintro e w6 ⟨A6, n6, c6, g6, rfl, hn6, ho, hb⟩
  have HY6 := Lib.hid (show Ints w6 A6 n6 c6 (kY a r s n4) from ho.ints)
  have HB6 := Lib.hid (below_up HB5.out hb)
  have HX6 := Lib.hid (HX5.out.keep (Keep.below hb))
  obtain rfl : n6 = n4 := hn6.trans (cofL_len _ _ _)
  clear hn6 ho hb HC HB5 HX5 HG HSO HSF HCB HSQ
  have HLT := Lib.hid (lit_two HX6.out HY6.out)
  have HKR := Lib.hid (kXY_rows hk3 HUP.out)
  have hal := below_alloc w6 (.cells #[.slice A4 n6 c4, .slice A6 n6 c6] 23)
  have HB7 := Lib.hid (below_up HB6.out hal)
  have HX7 := Lib.hid (HX6.out.keep (Keep.below hal))
  have HY7 := Lib.hid (HY6.out.keep (Keep.below hal))
  clear hal
  have HC := Lib.hid (Concat_any _ 2 2 _ _ HLT.out (by omega) (fun p hp => by rw [(HKR.out p hp).1]; exact hk3) (fun p hp => by rw [(HKR.out p hp).1]; omega) (fun p hp => (HKR.out p hp).2) (by rw [catL_two, List.length_append, kX_len, kY_len]; omega))
  rw [catL_two] at HC
  go_wp2_with fail
  clear HLT HB6 HX6 HY6
  generalize w6.alloc (.cells #[.slice A4 n6 c4, .slice A6 n6 c6] 23) = w7 at *
  refine HC.out.mono ?_
  rintro e w8 ⟨A8, n8, c8, g8, rfl, hn8, ho, hb⟩
  have HI8 := Lib.hid ho.ints
  have HB8 := Lib.hid (below_up HB7.out hb)
  have HX8 := Lib.hid (HX7.out.keep (Keep.below hb))
  have HY8 := Lib.hid (HY7.out.keep (Keep.below hb))
  have h8 : 0 < n8 := by rw [hn8, List.length_append, kX_len]; omega
  clear ho hb HC HB7 HX7 HY7 hn8
  have HC := Lib.hid (haveBothSigns_any A8 n8 c8 _ w8 HI8.out h8)
  have HSG := Lib.hid (sgn_ok (a := a) (r := r) (s := s) (k := n6) (by omega) hk3 HD.out)
  by_cases hbb : bothB (kX a r s n6 ++ kY a r s n6) = false
  case neg =>
    have HNO := Lib.hid (show ¬ Tells a n6 r s from fun h => hbb (HSG.out.2 ⟨h.cx, h.cy⟩))
    rw [show bothB (kX a r s n6 ++ kY a r s n6) = true by simpa using hbb] at HC
    clear hbb HSG
    go_wp2_with fail
    refine HC.out.mono ?_
    rintro e w9 ⟨rfl, hq⟩
    have HB9 := Lib.hid (below_quiet HB8.out hq)
    clear hq HC HB8
    go_wp2
    go_ret2
    exact .inr ⟨fun h => HNO.out h.2, rfl, HB9.out⟩
  have HTL := Lib.hid (show Tells a n6 r s from ⟨HD.out, (HSG.out.1 hbb).1, (HSG.out.1 hbb).2⟩)
  rw [hbb] at HC
  clear hbb HSG
  go_wp2_with fail
  refine HC.out.mono ?_
  rintro e w9 ⟨rfl, hq⟩
  have HB9 := Lib.hid (below_quiet HB8.out hq)
  have HX9 := Lib.hid (HX8.out.keep (Keep.quiet hq))
  have HY9 := Lib.hid (HY8.out.keep (Keep.quiet hq))
  clear hq HC HB8 HX8 HY8 HI8
  have hrow := Keep.below HB9.out _ _ HROW.out
  have HXB := Lib.hid (fun p hp => mid_of (kX_bd HV.out hk3 HR.out HS.out (p := p) hp))
  have HYB := Lib.hid (fun p hp => mid_of (kY_bd HV.out hk3 HR.out HS.out (p := p) hp))
  have HCX := Lib.hid (fun W (k : Keep w9 W) => spreadI_any n n6 c4 cx A4 X _ r W (HX9.out.keep k) (HLEN.out ▸ HX.out.keep (Keep.trans (Keep.below HB9.out) k)) hn3 hk3 HXB.out HTL.out.cx)
  have HCY := Lib.hid (fun W (k : Keep w9 W) => spreadI_any (gr a 0).length n6 c6 cy A6 Y _ s W (HY9.out.keep k) (HY.out.keep (Keep.trans (Keep.below HB9.out) k)) hm3 hk3 HYB.out HTL.out.cy)
  have HK0 := Lib.hid (show Keep w9 w9.drew from Keep.drewN w9 1)
  have HRW := Lib.hid hrow
  have h0n : (0 : Int) < (n : Int) := by omega
  have h0n' : 0 < n := by omega
  go_wp2
  go_region_held3 (fun W => W.cell? ⟨b, o, none⟩ = some (.slice (some ⟨rb 0, ro 0, none⟩) (gr a 0).length (cc 0))) (first | exact HSX.out | exact HSY.out | exact HRW.out | go_keep)
    (first
    | (go_at_call 105; (with_reducible refine (HCX.out _ ?_).mono ?_); (first | exact HKY.out | exact HK0.out); rintro e wx ⟨Ax, nx, dx, gx, rfl, hnx, ho, hb⟩; have HOX := Lib.hid ho; have HBX := Lib.hid hb; have HNX := Lib.hid hnx; (first | (have HKX := Lib.hid (Keep.trans HKY.out (Keep.below hb))) | (have HKX := Lib.hid (Keep.trans HK0.out (Keep.below hb)))); (first | (have HSX := Lib.hid (Keep.below hb _ _ HSY.out)) | (have HSX := Lib.hid (Keep.below hb _ _ HRW.out))); clear ho hb hnx HCX)
    | (go_at_call 105; (with_reducible refine (HCY.out _ ?_).mono ?_); (first | exact HKX.out | exact HK0.out); rintro e wy ⟨Ay, ny, dy, gy, rfl, hny, ho, hb⟩; have HOY := Lib.hid ho; have HBY := Lib.hid hb; have HNY := Lib.hid hny; (first | (have HKY := Lib.hid (Keep.trans HKX.out (Keep.below hb))) | (have HKY := Lib.hid (Keep.trans HK0.out (Keep.below hb)))); (first | (have HSY := Lib.hid (Keep.below hb _ _ HSX.out)) | (have HSY := Lib.hid (Keep.below hb _ _ HRW.out))); clear ho hb hny HCY))
  all_goals
    have hnx : 0 < nx := by rw [HNX.out]; unfold shr; rw [putL_len]; omega
    have hny : 0 < ny := by rw [HNY.out]; unfold shr; rw [putL_len]; omega
    have hz9 := HB9.out.size
    have HFIN := Lib.hid (And.intro hnx hny)
    clear hnx hny hrow
    go_wp2
    go_ret2
    first
    | exact newS_of HLEN.out HTL.out HNX.out HNY.out ((HOX.out.below HBY.out).mono (Nat.le_refl _) HBY.out.size) HOY.out (by simpa using hz9) (Nat.le_trans hz9 (by simpa using HBX.out.size)) (own_apart HOX.out HOY.out HFIN.out.1 HFIN.out.2 (Nat.le_refl _)) (below_up (below_up HB9.out.drew HBX.out) HBY.out)
    | exact newS_of HLEN.out HTL.out HNX.out HNY.out HOX.out ((HOY.out.below HBX.out).mono (Nat.le_refl _) HBX.out.size) (Nat.le_trans hz9 (by simpa using HBY.out.size)) (by simpa using hz9) (own_apart HOY.out HOX.out HFIN.out.2 HFIN.out.1 (Nat.le_refl _)).symm (below_up (below_up HB9.out.drew HBY.out) HBX.out)
end Go.Proofs.Ytmhknknapciebaa

/- Best shares, by the program. -/
namespace Go.Proofs.Ytmhknknapciebaa
open Go.RowKit
open V (Asc)

/-- The best shares of a table, each in memory of its own; none of what is no table. -/
def NewBS (w : World) (a : List (List Int)) (e : Ending) (w' : World) : Prop :=
  (VT a ∧ ∃ A1 c1 g1 A2 c2 g2, e = .returned (.tuple #[.slice A1 a.length c1, .slice A2 (gr a 0).length c2]) ∧ OwnI w.heap.size w'.heap.size w' g1 A1 a.length c1 (bx a) ∧
    OwnI w.heap.size w'.heap.size w' g2 A2 (gr a 0).length c2 (by_ a) ∧ g1 ≠ g2 ∧ Below w.heap.size w w') ∨
  (¬ VT a ∧ e = .returned (.tuple #[.slice none 0 0, .slice none 0 0]) ∧ Below w.heap.size w w')
theorem memL_pos : ∀ R, R < 8 → ∀ n, n < 4 → 1 ≤ R → R < 2 ^ n → 1 ≤ (memL R n).length := by decide
theorem shl_val {n : Nat} (h : n ≤ 3) : ∃ P : Nat, wrap64 ((2 : Int) ^ n) = (P : Int) ∧ P = 2 ^ n := by
  refine ⟨2 ^ n, ?_, rfl⟩
  have : n = 0 ∨ n = 1 ∨ n = 2 ∨ n = 3 := by omega
  rcases this with rfl | rfl | rfl | rfl <;> (unfold wrap64; decide)
/-- What sharesOn tells is best just if the part passes the model's test. -/
theorem tells_best {a : List (List Int)} (v : VT a) {k : Nat} {r s : Nat → Nat} (hk : k ≤ 3) (hr : Asc a.length k r) (hs : Asc (gr a 0).length k s) (T : Tells a k r s) :
    BestP a (shr a.length r (kX a r s k) k) (shr (gr a 0).length s (kY a r s k) k) ↔ KerP a k r s :=
  ⟨fun h => ⟨T.det, T.cx, T.cy, h.eq⟩, fun h => ⟨⟨v, (KerP.shares v hk hr hs T.cx T.cy).1, (KerP.shares v hk hr hs T.cx T.cy).2⟩, h.eq⟩⟩

set_option maxRecDepth 100000 in
set_option maxHeartbeats 4000000 in
theorem BestShares_impl (A : Option Addr) (n c : Nat) (a : List (List Int)) (w : World) (ha : IntRows w A n c a) :
    Calls Try.prog 49 #[.slice A n c] w (NewBS w a) := by
  have HA := Lib.hid ha
  by_cases hv : VT a
  · have HV := Lib.hid hv
    have HLEN := Lib.hid ha.len
    have hn1 := hv.n1
    have hn3 := hv.n3
    have hm1 := hv.m1
    have hm3 := hv.m3
    rw [ha.len] at hn1 hn3
    obtain ⟨b, o, rb, ro, cc, rfl, tab⟩ := ha.tab hv
    have hrow := tab.row 0 (by omega)
    simp only [Nat.add_zero] at hrow
    have HROW := Lib.hid hrow
    have HF := Lib.hid (first_of hv)
    have hS1 := HF.out.s1
    have hT1 := HF.out.t1
    obtain ⟨P, hP, hP2⟩ := shl_val hn3
    obtain ⟨Q, hQ, hQ2⟩ := shl_val hm3
    have hP8 : P ≤ 8 := by rw [hP2]; exact pow_le8 hn3
    have hQ8 : Q ≤ 8 := by rw [hQ2]; exact pow_le8 hm3
    have hSP : vS a < P := by rw [hP2]; have := HF.out.sn; rwa [HLEN.out] at this
    have hTQ : vT a < Q := by rw [hQ2]; exact HF.out.tm
    have HP2 := Lib.hid hP2
    have HQ2 := Lib.hid hQ2
    clear hP2 hQ2
    have hn0 : 0 < n := by omega
    have hn0' : (0 : Int) < (n : Int) := by omega
    have HC := Lib.hid (pb_true hv ▸ ValidTable_impl _ _ _ _ w HA.out)
    clear ha hv tab
    go_enter Try.func49, Try.ntmps49
    go_wp2_with fail
    refine HC.out.mono ?_
    rintro e w1 ⟨rfl, hq⟩
    have HB1 := Lib.hid (show Below w.heap.size w w1 from hq.below)
    clear hq HC hrow
    go_wp2
    go_loopw [4] (fun i wr => ∃ R : Nat, 1 ≤ R ∧ R ≤ vS a ∧ i = .int .i64 R ∧ Hid (Below w.heap.size w wr)) (fun i _ => 8 - (intOf i).toNat)
    case atStart => exact ⟨1, by omega, hS1, rfl, HB1⟩
    case round =>
      clear HB1
      obtain ⟨R, hR1, hR2, rfl, HB⟩ := hrel
      have hRP : (R : Int) < (P : Int) := by omega
      go_wp2
      rw [hP]
      generalize wr = w1 at *
      go_loopw [5] (fun i wi => ∃ T : Nat, 1 ≤ T ∧ T ≤ Q ∧ i = .int .i64 T ∧ Hid (R = vS a → T ≤ vT a) ∧ Hid (Below w1.heap.size w1 wi)) (fun i _ => 8 - (intOf i).toNat)
      case atStart => exact ⟨1, by omega, by omega, rfl, Lib.hid (fun _ => hT1), Lib.hid (Below.refl _ _)⟩
      case round =>
        obtain ⟨T, hT1', hT8', rfl, HRT, HBI⟩ := hrel
        have HBW := Lib.hid (below_up HB.out HBI.out)
        have hrow := Keep.below HBW.out _ _ HROW.out
        by_cases hlt : T < Q
        · have hTQ' : (T : Int) < (Q : Int) := by omega
          have HC := Lib.hid (membersOf_any R wr (by omega))
          rw [memL_all3 R (by omega) n (by omega) (by rw [← HP2.out]; omega)] at HC
          go_wp2_with fail
          refine HC.out.mono ?_
          rintro e w2 ⟨Ar, nr, cr, gr_, rfl, hnr, ho, hb⟩
          have HRI := Lib.hid (memL_pl ho.ints hnr)
          have HNR := Lib.hid (show nr = (memL R a.length).length by rw [HLEN.out]; exact hnr)
          have hnr3 : nr ≤ 3 := by have := memL_le R n; omega
          have hnr1 : 1 ≤ nr := by rw [hnr]; exact memL_pos R (by omega) n (by omega) hR1 (by rw [← HP2.out]; omega)
          have HBI2 := Lib.hid (below_up HBI.out hb)
          have HBW2 := Lib.hid (below_up HBW.out hb)
          clear hnr ho hb HC HBI HBW hrow
          have HC := Lib.hid (membersOf_any T w2 (by omega))
          rw [memL_all3 T (by omega) (gr a 0).length (by omega) (by rw [← HQ2.out]; omega)] at HC
          go_wp2_with fail
          refine HC.out.mono ?_
          rintro e w3 ⟨Ac, nc, cc2, gc, rfl, hnc, ho, hb⟩
          have HCI := Lib.hid (memL_pl ho.ints hnc)
          have HNC := Lib.hid hnc
          have hnc3 : nc ≤ 3 := by have := memL_le T (gr a 0).length; omega
          have HBI3 := Lib.hid (below_up HBI2.out hb)
          have HBW3 := Lib.hid (below_up HBW2.out hb)
          have HRP := Lib.hid (show Pl w3 Ar nr cr (idx R a.length) a.length by rw [HLEN.out]; exact HRI.out.keep (Keep.below hb))
          clear hnc ho hb HC HBI2 HBW2 HRI
          have HAR := Lib.hid (show Asc a.length nr (idx R a.length) by rw [HNR.out]; exact idx_asc _ _)
          have HAT := Lib.hid (show Asc (gr a 0).length nc (idx T (gr a 0).length) by rw [HNC.out]; exact idx_asc _ _)
          have HC := Lib.hid (sharesOn_any _ Ar Ac n c nr nc cr cc2 a (idx R a.length) (idx T (gr a 0).length) w3 (HA.out.keep (Keep.below HBW3.out)) HV.out HRP.out HCI.out hnr1 hnr3 hnc3 HAR.out HAT.out)
          have HKI : Hid (kerAt a R T ↔ nr = nc ∧ KerP a nr (idx R a.length) (idx T (gr a 0).length)) := Lib.hid (by
            unfold kerAt
            rw [← HNR.out, ← HNC.out]
            exact ⟨fun h => h.2, fun h => ⟨hnr1, h⟩⟩)
          have HNX : Hid (¬ kerAt a R T → R = vS a → T + 1 ≤ vT a) := Lib.hid (fun hk e => by
            have := HRT.out e
            have : T ≠ vT a := fun e2 => hk (by rw [e, e2]; exact HF.out.at_)
            omega)
          have HEQ : Hid (kerAt a R T → R = vS a ∧ T = vT a) := Lib.hid (fun hk => by
            by_cases e : R = vS a
            · refine ⟨e, ?_⟩
              apply Classical.byContradiction; intro h2
              have h1 := HRT.out e
              exact HF.out.noT T hT1' (by omega) (e ▸ hk)
            · exact absurd hk (HF.out.noS R T hR1 (by omega) hT1' (by omega)))
          go_wp2_with fail
          refine HC.out.mono ?_
          clear HC
          rintro e w4 hsn
          by_cases hts : nr = nc ∧ Tells a nr (idx R a.length) (idx T (gr a 0).length)
          · obtain ⟨A1, c1, g1, A2, c2, g2, rfl, o1, o2, hne, hb⟩ : ∃ A1 c1 g1 A2 c2 g2, e = .returned (.tuple #[.slice A1 a.length c1, .slice A2 (gr a 0).length c2]) ∧ OwnI w3.heap.size w4.heap.size w4 g1 A1 a.length c1 (shr a.length (idx R a.length) (kX a (idx R a.length) (idx T (gr a 0).length) nr) nr) ∧
                OwnI w3.heap.size w4.heap.size w4 g2 A2 (gr a 0).length c2 (shr (gr a 0).length (idx T (gr a 0).length) (kY a (idx R a.length) (idx T (gr a 0).length) nr) nr) ∧ g1 ≠ g2 ∧ Below w3.heap.size w3 w4 := by
              rcases hsn with ⟨_, _, h⟩ | ⟨h, _⟩
              · exact h
              · exact absurd hts h
            have HO1 := Lib.hid o1
            have HO2 := Lib.hid o2
            have HNE := Lib.hid hne
            have HBI4 := Lib.hid (below_up HBI3.out hb)
            have HBW4 := Lib.hid (below_up HBW3.out hb)
            have hz3 := HBW3.out.size
            have HTB := Lib.hid (tells_best HV.out hnr3 HAR.out (by rw [hts.1]; exact HAT.out) hts.2)
            have HRC := Lib.hid hts.1
            clear hsn o1 o2 hne hb hts HBI3 HBW3
            have HC := Lib.hid (AreBest_impl _ A1 A2 n c _ c1 _ c2 a _ _ w4 (HA.out.keep (Keep.below HBW4.out)) HO1.out.ints HO2.out.ints)
            by_cases hk : kerAt a R T
            · obtain ⟨e1, e2⟩ := HEQ.out hk
              rw [pb_true (HTB.out.2 (HKI.out.1 hk).2)] at HC
              have HEX : Hid (shr a.length (idx R a.length) (kX a (idx R a.length) (idx T (gr a 0).length) nr) nr = bx a ∧ shr (gr a 0).length (idx T (gr a 0).length) (kY a (idx R a.length) (idx T (gr a 0).length) nr) nr = by_ a) := Lib.hid (by
                have e : nr = bxk a := by rw [HNR.out, e1]; rfl
                rw [e, e1, e2]; exact ⟨rfl, rfl⟩)
              rw [HEX.out.1] at HO1
              rw [HEX.out.2] at HO2
              clear e1 e2 hk
              go_wp2_with fail
              refine HC.out.mono ?_
              rintro e w5 ⟨rfl, hb⟩
              have HB5 := Lib.hid (below_up HBW4.out hb)
              have HP1 := Lib.hid ((HO1.out.below hb).mono hz3 hb.size)
              have HP2 := Lib.hid ((HO2.out.below hb).mono hz3 hb.size)
              clear hb HC HO1 HO2
              go_wp2
              go_ret2
              exact .inl ⟨HV.out, A1, c1, g1, A2, c2, g2, rfl, HP1.out, HP2.out, HNE.out, HB5.out⟩
            · have HT2 := Lib.hid (HNX.out hk)
              rw [pb_false (fun h => hk (HKI.out.2 ⟨HRC.out, HTB.out.1 h⟩))] at HC
              clear hk
              go_wp2_with fail
              refine HC.out.mono ?_
              rintro e w5 ⟨rfl, hb⟩
              have HBI5 := Lib.hid (below_up HBI4.out hb)
              clear hb HC HO1 HO2
              go_wp2
              go_roundw
              case rel => exact ⟨T + 1, by omega, by omega, by go_num, HT2, HBI5⟩
              case measure => simp [intOf]; omega
          · obtain ⟨rfl, hb⟩ : e = .returned (.tuple #[.slice none 0 0, .slice none 0 0]) ∧ Below w3.heap.size w3 w4 := by
              rcases hsn with ⟨h1, h2, _⟩ | ⟨_, h⟩
              · exact absurd ⟨h1, h2⟩ hts
              · exact h
            have HBI4 := Lib.hid (below_up HBI3.out hb)
            have HBW4 := Lib.hid (below_up HBW3.out hb)
            have HT2 := Lib.hid (HNX.out (fun h => hts ⟨(HKI.out.1 h).1, (HKI.out.1 h).2.det, (HKI.out.1 h).2.cx, (HKI.out.1 h).2.cy⟩))
            have HC := Lib.hid (AreBest_impl _ none none n c 0 0 0 0 a [] [] w4 (HA.out.keep (Keep.below HBW4.out)) (OwnI.nil 0 0 w4 0).ints (OwnI.nil 0 0 w4 0).ints)
            rw [pb_false (p := BestP a [] []) (fun h => by have := h.ok.x.1; have := HV.out.n1; simp at *; omega)] at HC
            clear hsn hb hts HBI3 HBW3
            go_wp2_with fail
            refine HC.out.mono ?_
            rintro e w5 ⟨rfl, hb⟩
            have HBI5 := Lib.hid (below_up HBI4.out hb)
            clear hb HC
            go_wp2
            go_roundw
            case rel => exact ⟨T + 1, by omega, by omega, by go_num, HT2, HBI5⟩
            case measure => simp [intOf]; omega
        · obtain rfl : T = Q := by omega
          have hRS : R < vS a := by
            by_cases e : R = vS a
            · have := HRT.out e; omega
            · omega
          go_wp2
          go_roundw
          case rel => exact ⟨R + 1, by omega, by omega, by go_num, HBW⟩
          case measure => simp [intOf]; omega
  · have HV := Lib.hid hv
    have HC := Lib.hid (pb_false hv ▸ ValidTable_impl _ _ _ _ w HA.out)
    clear ha hv
    go_enter Try.func49, Try.ntmps49
    go_wp2_with fail
    refine HC.out.mono ?_
    rintro e w1 ⟨rfl, hq⟩
    have HB1 := Lib.hid (show Below w.heap.size w w1 from hq.below)
    clear hq HC
    go_wp2
    go_ret2
    exact .inr ⟨HV.out, rfl, HB1.out⟩
end Go.Proofs.Ytmhknknapciebaa

/- The value and the best shares, by both programs. -/
namespace Go.Proofs.Ytmhknknapciebaa
open Go.RowKit

/-- The value; 0 over 0 of what is no table. -/
noncomputable def vF (a : List (List Int)) : Int × Int := if pb (VT a) = true then wlast a (bx a) else (0, 0)
theorem vF_yes {a} (h : VT a) : vF a = wlast a (bx a) := by rw [vF, if_pos (pb_true h)]
theorem vF_no {a} (h : ¬ VT a) : vF a = (0, 0) := by rw [vF, if_neg (by rw [pb_false h]; decide)]
theorem bx_VS {a} (v : VT a) : VS (bx a) a.length := (best_is v).ok.x
theorem by_VS {a} (v : VT a) : VS (by_ a) (gr a 0).length := (best_is v).ok.y
/-- Best shares by the model: what they read as. -/
def NewBSs (w : World) (a : List (List Int)) (e : Ending) (w' : World) : Prop :=
  ∃ A1 n1 c1 A2 n2 c2, e = .returned (.tuple #[.slice A1 n1 c1, .slice A2 n2 c2]) ∧ Ints w' A1 n1 c1 (if pb (VT a) = true then bx a else []) ∧ Ints w' A2 n2 c2 (if pb (VT a) = true then by_ a else []) ∧ Below w.heap.size w w'

set_option maxRecDepth 100000 in
set_option maxHeartbeats 3200000 in
theorem ValueOf_impl (A : Option Addr) (n c : Nat) (a : List (List Int)) (w : World) (ha : IntRows w A n c a) :
    Calls Try.prog 48 #[.slice A n c] w (Ret (.tuple #[wstV (vF a), .bool (pb (VT a))]) w) := by
  have HA := Lib.hid ha
  have HPF := Lib.hid (PF.start w)
  clear ha
  have HC := Lib.hid (BestShares_impl A n c a _ (HA.out.keep HPF.out.keep))
  go_enter Try.func48, Try.ntmps48
  go_wp2_with fail
  refine HC.out.mono ?_
  rintro e w1 hbs
  have hx : ∃ A1 n1 c1 xs v2, e = .returned (.tuple #[.slice A1 n1 c1, v2]) ∧ Ints w1 A1 n1 c1 xs ∧ worF a xs = vF a ∧ pb (WOk a xs) = pb (VT a) ∧ Below (w.alloc (.cells #[.int .i64 0, .int .i64 0] 26)).heap.size (w.alloc (.cells #[.int .i64 0, .int .i64 0] 26)) w1 := by
    rcases hbs with ⟨hv, A1, c1, g1, A2, c2, g2, rfl, o1, _, _, hb⟩ | ⟨hv, rfl, hb⟩
    · exact ⟨A1, _, c1, bx a, _, rfl, o1.ints, by rw [vF_yes hv, worF_yes ⟨hv, bx_VS hv⟩], pb_congr ⟨fun h => h.v, fun h => ⟨h, bx_VS h⟩⟩, hb⟩
    · exact ⟨none, 0, 0, [], _, rfl, (OwnI.nil 0 0 w1 0).ints, by rw [vF_no hv, worF_no fun h => hv h.v], pb_congr ⟨fun h => h.v, fun h => absurd h hv⟩, hb⟩
  obtain ⟨A1, n1, c1, xs, v2, rfl, hi, hwv, hwo, hb⟩ := hx
  have HI := Lib.hid hi
  have HPF1 := Lib.hid (HPF.out.up hb)
  have HWV := Lib.hid hwv
  have HWO := Lib.hid hwo
  clear hbs hi hwv hwo hb HC HPF
  have HC := Lib.hid (WorstOf_impl A A1 n c n1 c1 a xs w1 (HA.out.keep HPF1.out.keep) HI.out)
  rw [HWV.out, HWO.out] at HC
  have HFV : Hid (wstV (vF a) = .agg #[.int .i64 (vF a).1, .int .i64 (vF a).2]) := Lib.hid rfl
  rw [HFV.out] at HC
  clear HWV
  generalize (vF a).1 = U at *
  generalize (vF a).2 = D at *
  generalize pb (VT a) = K at *
  go_wp2_with fail
  refine HC.out.mono ?_
  rintro e w2 ⟨rfl, hb⟩
  have HPF := Lib.hid (HPF1.out.up hb)
  clear hb HC HPF1
  have c0 := blk_cell HPF.out.box (i := 0) rfl
  have c1 := blk_cell HPF.out.box (i := 1) rfl
  have f0 := blk_frozen HPF.out.box 0
  have f1 := blk_frozen HPF.out.box 1
  go_wp2
  clear c0 c1 f0 f1
  have B1 := blk_set (blk_set HPF.out.box 0 (.int .i64 U)) 1 (.int .i64 D)
  have r0 := blk_cell B1 (i := 0) (v := .int .i64 U) rfl
  have r1 := blk_cell B1 (i := 1) (v := .int .i64 D) rfl
  have HBX := Lib.hid ((HPF.out.below.setCell (p := ⟨w.heap.size, 0, none⟩) (Nat.le_refl _) (.int .i64 U)).setCell (p := ⟨w.heap.size, 1, none⟩) (Nat.le_refl _) (.int .i64 D))
  clear B1 HPF
  generalize (w2.setCell ⟨w.heap.size, 0, none⟩ (.int .i64 U)).setCell ⟨w.heap.size, 1, none⟩ (.int .i64 D) = WE at *
  refine bodyPost_ret (v := .tuple #[.agg #[.int .i64 U, .int .i64 D], .bool K]) (by simp [results, Try.results48, go_sem, r0, r1]) rfl ?_
  exact ⟨by rw [HFV.out], HBX.out⟩

end Go.Proofs.Ytmhknknapciebaa

/- The value from both sides. Plain. -/
namespace Go.Proofs.Ytmhknknapciebaa

theorem ntab_row {a : List (List Int)} (v : VT a) {j : Nat} (hj : j < (gr a 0).length) : (gr (ntab a) j).length = a.length := by
  have h := VT.len v.ntab (i := j) (by rw [ntab_len]; exact hj)
  rw [h, v.ntab_m]
/-- Turned and with the other signs twice it is the table. -/
theorem ntab_ntab {a : List (List Int)} (v : VT a) : ntab (ntab a) = a := by
  have vn := v.ntab
  have l1 : (ntab (ntab a)).length = a.length := by rw [ntab_len, v.ntab_m]
  refine gr_ext l1 fun i hi => ?_
  rw [l1] at hi
  have hi' : i < (gr (ntab a) 0).length := by rw [v.ntab_m]; exact hi
  have r1 := ntab_row vn hi'
  rw [ntab_len] at r1
  have r2 := VT.len v hi
  refine gi_ext (by omega) fun j hj => ?_
  have hj' : j < (gr a 0).length := by omega
  have e1 := vn.ntab_neg j i (by rw [ntab_len]; exact hj') hi'
  have e2 := v.ntab_neg i j hi hj'
  unfold g2 at e1 e2
  omega
theorem duo_of {a : List (List Int)} {x y : List Int} (v : VT a) (hx : VS x a.length) (hy : VS y (gr a 0).length) : Duo a (ntab a) x y a.length (gr a 0).length :=
  ⟨v.n1, v.m1, v.ntab_neg, by have := hx.1; omega, by have := hy.1; omega, fun i hi => (hx.2.1 i (by have := hx.1; omega)).1, fun j hj => (hy.2.1 j (by have := hy.1; omega)).1, hx.2.2, hy.2.2⟩
theorem wlast_n (a : List (List Int)) (x : List Int) : wlast a x = wst a x a.length (gr a 0).length ((gr a 0).length - 1) := rfl
theorem wlast_t {a : List (List Int)} (v : VT a) (y : List Int) : wlast (ntab a) y = wst (ntab a) y (gr a 0).length a.length (a.length - 1) := wlast_def _ _ _ _ (ntab_len a) v.ntab_m
/-- Less or the same, of fractions. -/
def leF (p q : Int × Int) : Prop := p.1 * q.2 ≤ q.1 * p.2
theorem weak_of {a : List (List Int)} {x y : List Int} (v : VT a) (hx : VS x a.length) (hy : VS y (gr a 0).length) : leF (wlast a x) (-(wlast (ntab a) y).1, (wlast (ntab a) y).2) := by
  rw [wlast_n, wlast_t v]; exact (duo_of v hx hy).weak
/-- No shares make more sure than the value. -/
theorem le_value {a : List (List Int)} {x : List Int} (v : VT a) (hx : VS x a.length) : leF (wlast a x) (vF a) := by
  rw [vF_yes v, (best_is v).eq]; exact weak_of v hx (by_VS v)
/-- .. and no shares of columns let less through. -/
theorem value_le {a : List (List Int)} {y : List Int} (v : VT a) (hy : VS y (gr a 0).length) : leF (vF a) (-(wlast (ntab a) y).1, (wlast (ntab a) y).2) := by
  rw [vF_yes v]; exact weak_of v (bx_VS v) hy
theorem best_same {a : List (List Int)} {x y : List Int} (v : VT a) (h : BestP a x y) : wlast a x = vF a := by
  rw [vF_yes v]
  have e1 := h.eq
  have e2 := (best_is v).eq
  rw [wlast_n, wlast_t v] at e1 e2
  exact (duo_of v h.ok.x h.ok.y).same e1 (duo_of v (bx_VS v) (by_VS v)) e2
/-- The other player's value is it with the other sign. -/
theorem vF_ntab {a : List (List Int)} (v : VT a) : vF (ntab a) = (-(vF a).1, (vF a).2) := by
  have B := best_is v.ntab
  have e := B.eq
  rw [ntab_ntab v] at e
  have hx := B.ok.x
  have hy := B.ok.y
  rw [ntab_len] at hx
  rw [v.ntab_m] at hy
  have B2 : BestP a (by_ (ntab a)) (bx (ntab a)) := ⟨⟨v, hy, hx⟩, by rw [e]; simp⟩
  rw [vF_yes v.ntab, e, best_same v B2]
theorem vF_bd {a : List (List Int)} (v : VT a) : (-81000000 ≤ (vF a).1 ∧ (vF a).1 ≤ 81000000) ∧ 1 ≤ (vF a).2 ∧ (vF a).2 ≤ 3000 := by rw [vF_yes v]; exact wlast_bd v (bx_VS v)
/-- Shares that make the value sure, against shares that let no more through, are best; and so is no other pair. -/
theorem best_iff {a : List (List Int)} {x y : List Int} (v : VT a) (hx : VS x a.length) (hy : VS y (gr a 0).length) : BestP a x y ↔ wlast a x = vF a ∧ wlast (ntab a) y = (-(vF a).1, (vF a).2) := by
  constructor
  · intro h
    have e := best_same v h
    refine ⟨e, ?_⟩
    have := h.eq
    rw [e] at this
    rw [this]; simp
  · rintro ⟨h1, h2⟩
    exact ⟨⟨v, hx, hy⟩, by rw [h1, h2]; simp⟩
end Go.Proofs.Ytmhknknapciebaa

/- Two words that the laws of values share. -/
namespace Go.Proofs.Ytmhknknapciebaa
theorem wstV_eq (p : Int × Int) {U D : Int} (h : p = (U, D)) : wstV p = .agg #[.int .i64 U, .int .i64 D] := by rw [h]; rfl
theorem small_ntab {a : List (List Int)} (v : VT a) : Small (flip a a.length (gr a 0).length) := v.small.flip v.even v.n1
end Go.Proofs.Ytmhknknapciebaa

/- A table less it turned has the value 0. Plain. -/
namespace Go.Proofs.Ytmhknknapciebaa
open Go.RowKit

theorem wst_min' (a : List (List Int)) (x : List Int) (n m : Nat) (tx : 0 < tot x) : ∃ C, wst a x n m (m - 1) = (frU C (tot x), frD C (tot x)) := by
  obtain ⟨j, hj, e, hl⟩ := wst_least a x n m tx (m - 1)
  exact ⟨_, e⟩
theorem NewBS.one {w w' : World} {a : List (List Int)} {e : Ending} (h : NewBS w a e w') (v : VT a) : ∃ A1 c1 A2 c2, e = .returned (.tuple #[.slice A1 a.length c1, .slice A2 (gr a 0).length c2]) ∧ Ints w' A1 a.length c1 (bx a) ∧ Below w.heap.size w w' := by
  rcases h with ⟨_, A1, c1, g1, A2, c2, g2, rfl, o1, o2, _, hb⟩ | ⟨h, _⟩
  · exact ⟨A1, c1, A2, c2, rfl, o1.ints, hb⟩
  · exact absurd v h
/-- The first j numbers of row i of a table less it turned; the first i rows. -/
def farR (a : List (List Int)) (i j : Nat) : List Int := (List.range j).map fun q => g2 a i q - g2 a q i
def farL (a : List (List Int)) (n i : Nat) : List (List Int) := (List.range i).map fun p => farR a p n
theorem farR_succ (a : List (List Int)) (i j : Nat) : farR a i (j + 1) = farR a i j ++ [g2 a i j - g2 a j i] := by simp [farR, List.range_succ]
theorem farL_succ (a : List (List Int)) (n i : Nat) : farL a n (i + 1) = farL a n i ++ [farR a i n] := by simp [farL, List.range_succ]
theorem farR_len (a : List (List Int)) (i j : Nat) : (farR a i j).length = j := by simp [farR]
theorem farL_len (a : List (List Int)) (n i : Nat) : (farL a n i).length = i := by simp [farL]
theorem gr_farL {a : List (List Int)} {n i p : Nat} (h : p < i) : gr (farL a n i) p = farR a p n := by
  rw [gr_get (by rw [farL_len]; exact h)]; simp [farL]
theorem g2_farL {a : List (List Int)} {n i p q : Nat} (h : p < i) (hq : q < n) : g2 (farL a n i) p q = g2 a p q - g2 a q p := by
  unfold g2
  rw [gr_farL h, gi_get (by rw [farR_len]; exact hq)]
  simp [farR, g2]
theorem far_ntab {a : List (List Int)} {n : Nat} (h0 : 0 < n) (v : VT (farL a n n)) : ntab (farL a n n) = farL a n n := by
  have hl := farL_len a n n
  have hm : (gr (farL a n n) 0).length = n := by rw [gr_farL h0, farR_len]
  refine gr_ext (by rw [ntab_len, hm, hl]) fun i hi => ?_
  have hi' : i < n := by rw [ntab_len, hm] at hi; exact hi
  have r1 := ntab_row v (j := i) (by rw [hm]; exact hi')
  refine gi_ext (by rw [r1, hl, gr_farL hi', farR_len]) fun j hj => ?_
  rw [r1, hl] at hj
  have e := v.ntab_neg j i (by rw [hl]; exact hj) (by rw [hm]; exact hi')
  have e1 := g2_farL (a := a) (n := n) (i := n) (p := j) (q := i) hj hi'
  have e2 := g2_farL (a := a) (n := n) (i := n) (p := i) (q := j) hi' hj
  unfold g2 at e e1 e2
  omega
/-- Its value is 0, and the best shares of the rows are best for the columns, too. -/
theorem far_value {a : List (List Int)} {n : Nat} (h0 : 0 < n) (v : VT (farL a n n)) : vF (farL a n n) = (0, 1) ∧ BestP (farL a n n) (bx (farL a n n)) (bx (farL a n n)) := by
  have hs := far_ntab h0 v
  have hl := farL_len a n n
  have hm : (gr (farL a n n) 0).length = n := by rw [gr_farL h0, farR_len]
  have e := vF_ntab v
  rw [hs] at e
  have h1 : (vF (farL a n n)).1 = 0 := by have := congrArg Prod.fst e; simp only at this; omega
  have hx := bx_VS v
  obtain ⟨C, hC⟩ := wst_min' (farL a n n) (bx (farL a n n)) (farL a n n).length (gr (farL a n n) 0).length hx.2.2
  have hv := vF_yes v
  rw [wlast_n, hC] at hv
  have hfu : frU C (tot (bx (farL a n n))) = 0 := by rw [hv] at h1; exact h1
  have k1 := frU_mul C (tot (bx (farL a n n)))
  rw [hfu, Int.zero_mul] at k1
  have hz := fr_eq (u := C) (d := tot (bx (farL a n n))) (v := 0) (e := 1) hx.2.2 (by omega) (by omega)
  rw [(fr_one 0).1, (fr_one 0).2] at hz
  have hval : vF (farL a n n) = (0, 1) := by rw [hv, hz.1, hz.2]
  refine ⟨hval, (best_iff v hx (by have h := hx; rw [hl] at h; rw [hm]; exact h)).2 ⟨(vF_yes v).symm, ?_⟩⟩
  rw [hs, ← vF_yes v, hval]; rfl
end Go.Proofs.Ytmhknknapciebaa

