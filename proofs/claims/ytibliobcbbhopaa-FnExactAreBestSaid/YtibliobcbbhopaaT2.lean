/- A table as the second player has it, by the program. -/
import Derived.Test.YtibliobcbbhopaaTurn
import Derived.Test.YtibliobcbbhopaaR10
import Derived.Test.YtibliobcbbhopaaA5
namespace Go.Proofs.Ytibliobcbbhopaa
open Go.RowKit

/-- The first j numbers of a row with the other sign. -/
def negTo (r : List Int) (j : Nat) : List Int := (List.range r.length).map fun k => if k < j then - gi r k else gi r k
theorem negTo_len (r : List Int) (j : Nat) : (negTo r j).length = r.length := by simp [negTo]
theorem gi_negTo {r : List Int} {j k : Nat} (h : k < r.length) : gi (negTo r j) k = if k < j then - gi r k else gi r k := by
  rw [gi_get (by rw [negTo_len]; exact h)]; simp [negTo]
theorem negTo_zero (r : List Int) : negTo r 0 = r := gi_ext (negTo_len r 0) fun k hk => by
  rw [negTo_len] at hk; rw [gi_negTo hk, if_neg (by omega)]
theorem negTo_all (r : List Int) : negTo r r.length = mrow r r.length := gi_ext (by rw [negTo_len, mrow_len]) fun k hk => by
  rw [negTo_len] at hk
  rw [gi_negTo hk, if_pos hk, gi_get (xs := mrow r r.length) (by rw [mrow_len]; exact hk)]
  simp [mrow]
theorem negTo_set {r : List Int} {j : Nat} (h : j < r.length) : (negTo r j).set j (- gi r j) = negTo r (j + 1) := gi_ext (by rw [List.length_set, negTo_len, negTo_len]) fun k hk => by
  rw [List.length_set, negTo_len] at hk
  by_cases e : k = j
  · subst e; rw [gi_set_eq (by rw [negTo_len]; exact h), gi_negTo hk, if_pos (by omega)]
  · rw [gi_set_ne (by rw [negTo_len]; exact hk) e, gi_negTo hk, gi_negTo hk]
    split <;> split <;> first | rfl | omega
/-- The first i rows with the other signs. -/
def negR (a : List (List Int)) (i : Nat) : List (List Int) := (List.range a.length).map fun k => if k < i then mrow (gr a k) (gr a k).length else gr a k
theorem negR_len (a : List (List Int)) (i : Nat) : (negR a i).length = a.length := by simp [negR]
theorem gr_negR {a : List (List Int)} {i k : Nat} (h : k < a.length) : gr (negR a i) k = if k < i then mrow (gr a k) (gr a k).length else gr a k := by
  rw [gr_get (by rw [negR_len]; exact h)]; simp [negR]
theorem negR_zero (a : List (List Int)) : negR a 0 = a := gr_ext (negR_len a 0) fun k hk => by
  rw [negR_len] at hk; rw [gr_negR hk, if_neg (by omega)]
theorem negR_all (a : List (List Int)) : negR a a.length = mtab a a.length := gr_ext (by rw [negR_len, mtab_len]) fun k hk => by
  rw [negR_len] at hk
  rw [gr_negR hk, if_pos hk, gr_get (xs := mtab a a.length) (by rw [mtab_len]; exact hk)]
  simp [mtab]
theorem negR_set {a : List (List Int)} {i : Nat} (h : i < a.length) : (negR a i).set i (mrow (gr a i) (gr a i).length) = negR a (i + 1) := gr_ext (by rw [List.length_set, negR_len, negR_len]) fun k hk => by
  rw [List.length_set, negR_len] at hk
  by_cases e : k = i
  · subst e; rw [gr_set_eq (by rw [negR_len]; exact h), gr_negR hk, if_pos (by omega)]
  · rw [gr_set_ne e, gr_negR hk, gr_negR hk]
    split <;> split <;> first | rfl | omega
theorem One.trans {b : Nat} {x y z : World} (h : One b x y) (k : One b y z) : One b x z :=
  ⟨k.os.trans h.os, k.tape.trans h.tape, k.output.trans h.output, by rw [k.size, h.size], fun g hg => (k.block g hg).trans (h.block g hg)⟩

set_option maxHeartbeats 1000000 in
theorem otherSide_any (b o : Nat) (rb ro cc : Nat → Nat) (n m c : Nat) (xs : List (List Int)) (w : World) (h : Tab w b o rb ro cc n m xs) :
    Calls Try.prog 86 #[.slice (some ⟨b, o, none⟩) n c] w (NewT w (mtab (flip xs n m) (flip xs n m).length)) := by
  have HC := Lib.hid (turned_any b o rb ro cc n m c xs w h)
  have hm1 := h.m1
  have hm3 := h.m3
  have hn1 := h.n1
  have hn3 := h.n3
  have hbd := Lib.hid h.bd
  have HFL : Hid ((flip xs n m).length = m) := Lib.hid (by simp [flip])
  clear h
  go_enter Try.func86, Try.ntmps86
  go_wp2_with fail
  refine HC.out.mono ?_
  rintro e w1 ⟨rfl, ho, hb, hz⟩
  have HO := Lib.hid (negR_zero (flip xs n m) ▸ ho)
  have HB := Lib.hid hb
  have HRL : Hid (∀ k, k < m → (gr (flip xs n m) k).length = n) := Lib.hid (fun k hk => by rw [gr_flip hk]; simp)
  have HRB : Hid (∀ k j, k < m → j < n → -9 ≤ gi (gr (flip xs n m) k) j ∧ gi (gr (flip xs n m) k) j ≤ 9) := Lib.hid (fun k j hk hj => by rw [gr_flip hk, gi_col hj]; exact hbd.out j k hj hk)
  clear ho hb HC hbd
  have hfl := HFL.out
  rw [← hfl]
  generalize flip xs n m = fs at *
  rw [hfl]
  generalize hg : w.heap.size = g at *
  have HG := Lib.hid hg
  clear hg hfl
  go_wp2
  go_loopw [11] (fun i wr => ∃ k : Nat, k ≤ m ∧ i = .int .i64 k ∧ Hid (OwnR g w1.heap.size wr g (some ⟨g, 0, none⟩) m m (negR fs k)) ∧ Hid (Touch g w1.heap.size w1 wr)) (fun i _ => m - (intOf i).toNat)
  case atStart => exact ⟨0, Nat.zero_le _, rfl, HO, Lib.hid (Touch.refl _ _ _)⟩
  case round =>
    clear HO
    obtain ⟨k, hk, rfl, HO, HT⟩ := hrel
    by_cases hlt : k < m
    · obtain ⟨o', g', R, c', e, c1, hI, hset⟩ := HO.out.at_row hlt
      have hgk : gr (negR fs k) k = gr fs k := by rw [gr_negR (by rw [HFL.out]; exact hlt), if_neg (Nat.lt_irrefl k)]
      rw [hgk, HRL.out k hlt] at c1 hI hset
      injection e with e
      injection e with _ e _
      subst e
      obtain ⟨oR, e, hlo, hhi, _⟩ := hI.own (by omega)
      subst e
      have HI := Lib.hid (negTo_zero (gr fs k) ▸ hI)
      have HS := Lib.hid hset
      simp only [Nat.zero_add] at c1
      clear hI hset hgk
      go_wp2
      clear c1
      go_loopw [17] (fun j wi => ∃ l : Nat, l ≤ n ∧ j = .int .i64 l ∧ Hid (OwnI g w1.heap.size wi g' (some ⟨g', oR, none⟩) n c' (negTo (gr fs k) l)) ∧ Hid (One g' wr wi)) (fun j _ => n - (intOf j).toNat)
      case atStart => exact ⟨0, Nat.zero_le _, rfl, HI, Lib.hid (One.refl _ _)⟩
      case round =>
        clear HI
        obtain ⟨l, hl, rfl, HI, HN⟩ := hrel
        by_cases hll : l < n
        · have HL := Lib.hid (HRL.out k hlt)
          obtain ⟨z1, z2⟩ := HRB.out k l hlt hll
          obtain ⟨b', o2, e, hc⟩ := HI.out.ints.at_ (by omega)
          obtain ⟨o3, e3, _, _, hf⟩ := HI.out.own (by omega)
          injection e with e
          injection e with e1 e2 _
          subst e1
          subst e2
          injection e3 with e3
          injection e3 with _ e3 _
          subst e3
          have c2 := hc l hll
          have f2 := hf l hll
          rw [gi_negTo (by rw [HL.out]; exact hll), if_neg (Nat.lt_irrefl l)] at c2
          have HI2 := Lib.hid (HI.out.set hll (v := - gi (gr fs k) l) (by omega))
          have HN2 := Lib.hid (HN.out.set (oR + l) (.int .i64 (- gi (gr fs k) l)))
          have HSE := Lib.hid (negTo_set (r := gr fs k) (j := l) (by rw [HL.out]; exact hll))
          clear hc hf HI HN
          go_wp2
          go_roundw
          case rel => exact ⟨l + 1, by omega, by go_num, Lib.hid (by rw [← HSE.out]; exact HI2.out), HN2⟩
          case measure => simp [intOf]; omega
        · obtain rfl : l = n := by omega
          have HL := Lib.hid (HRL.out k hlt)
          have hx := HS.out _ (mrow (gr fs k) (gr fs k).length) (by rw [mrow_len, HL.out]) (by rw [← negTo_all, HL.out]; exact HI.out) (fun h => absurd h (by omega)) HN.out
          rw [negR_set (by rw [HFL.out]; exact hlt)] at hx
          have HX := Lib.hid hx
          clear hx HS HI HN
          go_wp2
          go_roundw
          case rel => exact ⟨k + 1, by omega, by go_num, Lib.hid HX.out.1, Lib.hid (HT.out.trans HX.out.2)⟩
          case measure => simp [intOf]; omega
    · obtain rfl : k = m := by omega
      have HO2 := Lib.hid (show OwnR g w1.heap.size wr g (some ⟨g, 0, none⟩) k k (mtab fs fs.length) by rw [← negR_all, HFL.out]; exact HO.out)
      have HSZ := Lib.hid HT.out.size
      have HB2 := Lib.hid (Touch.below HB.out HT.out (by omega))
      clear HO
      go_wp2
      go_ret
      exact ⟨some ⟨g, 0, none⟩, k, k, g, rfl, by rw [mtab_len, HFL.out], by rw [HG.out]; exact HO2.out.mono (Nat.le_refl _) (Nat.le_of_eq HSZ.out.symm), by rw [HG.out]; exact HB2.out⟩
end Go.Proofs.Ytibliobcbbhopaa
