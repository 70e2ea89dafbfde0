/- Best shares, by the program. -/
import Derived.Test.YtibliobcbbhopaaT2
import Derived.Test.YtibliobcbbhopaaT3
namespace Go.Proofs.Ytibliobcbbhopaa
open Go.RowKit

set_option maxHeartbeats 1000000 in
theorem minus_any (U D : Int) (w : World) (hU : -1000000000 ≤ U ∧ U ≤ 1000000000) : Calls Try.prog 87 #[.agg #[.int .i64 U, .int .i64 D]] w (Ret (.agg #[.int .i64 (-U), .int .i64 D]) w) := by
  obtain ⟨u1, u2⟩ := hU
  have b0 := blk_old (blk_new w 53 #[.int .i64 U, .int .i64 D]) (.cells #[.int .i64 0, .int .i64 0] 53)
  have b1 := blk_new (w.alloc (.cells #[.int .i64 U, .int .i64 D] 53)) 53 #[.int .i64 0, .int .i64 0]
  have HB := Lib.hid (below_up (below_alloc w (.cells #[.int .i64 U, .int .i64 D] 53)) (below_alloc _ (.cells #[.int .i64 (-U), .int .i64 D] 53)))
  have HN := Lib.hid (blk_new (w.alloc (.cells #[.int .i64 U, .int .i64 D] 53)) 53 #[.int .i64 (-U), .int .i64 D])
  rw [World.size_alloc] at b1 HN
  have c0 := blk_cell b0 (i := 0) (v := .int .i64 U) rfl
  have c1 := blk_cell b0 (i := 1) (v := .int .i64 D) rfl
  go_enter Try.func87, Try.ntmps87
  go_wp2
  have r0 := blk_cell HN.out (i := 0) (v := .int .i64 (-U)) rfl
  have r1 := blk_cell HN.out (i := 1) (v := .int .i64 D) rfl
  clear c0 c1 b0 b1 HN
  generalize (w.alloc (.cells #[.int .i64 U, .int .i64 D] 53)).alloc (.cells #[.int .i64 (-U), .int .i64 D] 53) = WE at *
  refine bodyPost_ret (v := .agg #[.int .i64 (-U), .int .i64 D]) (by simp [results, Try.results87, go_sem, r0, r1]) rfl ?_
  exact ⟨rfl, HB.out⟩

set_option maxRecDepth 100000 in
set_option maxHeartbeats 3200000 in
theorem AreBest_impl (A X Y : Option Addr) (n c nx cx ny cy : Nat) (a : List (List Int)) (x y : List Int) (w : World) (ha : IntRows w A n c a) (hx : Ints w X nx cx x) (hy : Ints w Y ny cy y) :
    Calls Try.prog 52 #[.slice A n c, .slice X nx cx, .slice Y ny cy] w (Ret (.bool (pb (BestP a x y))) w) := by
  have HC := Lib.hid (WorstOf_impl A X n c nx cx a x w ha hx)
  have HA := Lib.hid ha
  have HY := Lib.hid hy
  clear ha hx hy
  obtain ⟨U, D, hform⟩ := wstV_form (worF a x)
  rw [hform] at HC
  have HUD : Hid (worF a x = (U, D)) := Lib.hid (by
    unfold wstV at hform
    injection hform with h
    have h1 := congrArg (fun z : Array Value => z[0]!) h
    have h2 := congrArg (fun z : Array Value => z[1]!) h
    simp at h1 h2
    exact Prod.ext h1 h2)
  clear hform
  by_cases hok : WOk a x
  · have HV := Lib.hid hok.v
    have HVX := Lib.hid hok.x
    rw [pb_true hok] at HC
    have HUD2 := Lib.hid (show wlast a x = (U, D) by rw [← worF_yes hok]; exact HUD.out)
    have hn1 := HV.out.n1
    have hn3 := HV.out.n3
    have hm1 := HV.out.m1
    have hm3 := HV.out.m3
    have HLEN := Lib.hid HA.out.len
    have hbd := wlast_bd HV.out HVX.out
    rw [HUD2.out] at hbd
    obtain ⟨⟨u1, u2⟩, u3, u4⟩ := hbd
    simp only at u1 u2 u3 u4
    clear hok
    rw [HLEN.out] at hn1 hn3
    obtain ⟨b, o, rb, ro, cc, rfl, tab⟩ := HA.out.tab HV.out
    have HT := Lib.hid tab
    clear tab
    go_enter Try.func52, Try.ntmps52
    go_wp2_with fail
    refine HC.out.mono ?_
    rintro e w1 ⟨rfl, hb⟩
    have HB0 := Lib.hid (show Below w.heap.size w w1 from hb)
    have HB1 := Lib.hid (below_up HB0.out (below_alloc w1 (.cells #[.int .i64 U, .int .i64 D] 53)))
    have HK1 := Lib.hid (blk_new w1 53 #[.int .i64 U, .int .i64 D])
    clear hb HC HB0
    go_wp2_with fail
    generalize w1.alloc (.cells #[.int .i64 U, .int .i64 D] 53) = W1 at *
    generalize w1.heap.size = h1 at *
    have HC := Lib.hid (otherSide_any b o rb ro cc n (gr a 0).length c a W1 (HT.out.keep (Keep.below HB1.out)))
    have HNT : Hid (mtab (flip a n (gr a 0).length) (flip a n (gr a 0).length).length = ntab a) := Lib.hid (by rw [← HLEN.out]; rfl)
    rw [HNT.out] at HC
    refine HC.out.mono ?_
    rintro e w2 ⟨A2, n2, c2, g2, rfl, hn2, ho, hb⟩
    have HO2 := Lib.hid ho.rows
    have HB2 := Lib.hid (below_up HB1.out hb)
    have HK2 := Lib.hid (blk_below HK1.out hb)
    clear hn2 ho hb HC HB1 HK1
    have HC := Lib.hid (WorstOf_impl A2 Y n2 c2 ny cy (ntab a) y w2 HO2.out (HY.out.keep (Keep.below HB2.out)))
    obtain ⟨P, Q, hform⟩ := wstV_form (worF (ntab a) y)
    rw [hform] at HC
    have HPQ : Hid (worF (ntab a) y = (P, Q)) := Lib.hid (by
      unfold wstV at hform
      injection hform with h
      have h1 := congrArg (fun z : Array Value => z[0]!) h
      have h2 := congrArg (fun z : Array Value => z[1]!) h
      simp at h1 h2
      exact Prod.ext h1 h2)
    clear hform
    by_cases hvy : VS y (ntab a).length
    · have HVY := Lib.hid hvy
      have HWK := Lib.hid (WOk.mk HV.out.ntab hvy)
      rw [pb_true HWK.out] at HC
      have HPQ2 := Lib.hid (show wlast (ntab a) y = (P, Q) by rw [← worF_yes HWK.out]; exact HPQ.out)
      have hbd := wlast_bd HV.out.ntab HVY.out
      rw [HPQ2.out] at hbd
      obtain ⟨⟨p1, p2⟩, p3, p4⟩ := hbd
      simp only at p1 p2 p3 p4
      clear hvy
      have HBP : Hid (pb (BestP a x y) = pb (U = -P ∧ D = Q)) := Lib.hid (pb_congr ⟨fun h => by
        have := h.eq
        rw [HUD2.out, HPQ2.out] at this
        exact Prod.mk.inj this, fun h => ⟨⟨HV.out, HVX.out, by have := HVY.out; rw [ntab_len] at this; exact this⟩, by rw [HUD2.out, HPQ2.out, h.1, h.2]⟩⟩)
      go_wp2_with fail
      refine HC.out.mono ?_
      rintro e w3 ⟨rfl, hb⟩
      have HB3 := Lib.hid (below_up (below_up HB2.out hb) (below_alloc w3 (.cells #[.int .i64 P, .int .i64 Q] 53)))
      have HK3 := Lib.hid (blk_old (blk_below HK2.out hb) (.cells #[.int .i64 P, .int .i64 Q] 53))
      have HL3 := Lib.hid (blk_new w3 53 #[.int .i64 P, .int .i64 Q])
      clear hb HC HB2 HK2
      have c0 := blk_cell HK3.out (i := 0) (v := .int .i64 U) rfl
      have c1 := blk_cell HK3.out (i := 1) (v := .int .i64 D) rfl
      have d0 := blk_cell HL3.out (i := 0) (v := .int .i64 P) rfl
      have d1 := blk_cell HL3.out (i := 1) (v := .int .i64 Q) rfl
      go_wp2_with fail
      generalize w3.alloc (.cells #[.int .i64 P, .int .i64 Q] 53) = W3 at *
      generalize w3.heap.size = h3 at *
      have HBX := Lib.hid HB3.out.drew
      have HKD := Lib.hid (show Blk W3.drew h1 53 #[.int .i64 U, .int .i64 D] from HK3.out)
      have HLD := Lib.hid (show Blk W3.drew h3 53 #[.int .i64 P, .int .i64 Q] from HL3.out)
      have HMC := Lib.hid (fun W => minus_any P Q W (by omega))
      clear HK3 HL3
      by_cases e1 : U = -P
      · by_cases e2 : D = Q
        · have HR := Lib.hid (pb_true (p := U = -P ∧ D = Q) ⟨e1, e2⟩)
          subst e1
          subst e2
          go_region_held3 (fun W => (W.cell? ⟨h1, 0, none⟩ = some (.int .i64 (-P)) ∧ W.cell? ⟨h1, 1, none⟩ = some (.int .i64 D)) ∧ (W.cell? ⟨h3, 0, none⟩ = some (.int .i64 P) ∧ W.cell? ⟨h3, 1, none⟩ = some (.int .i64 D))) (first | go_keep | exact HKK.out)
            (first
            | (go_at_call 87; refine (HMC.out _).mono ?_; rintro e w7 ⟨rfl, hb⟩; have HB7 := Lib.hid (below_up HBX.out hb); have HKK := Lib.hid (And.intro (And.intro (blk_cell (blk_below HKD.out hb) (i := 0) (v := .int .i64 (-P)) rfl) (blk_cell (blk_below HKD.out hb) (i := 1) (v := .int .i64 D) rfl)) (And.intro (blk_cell (blk_below HLD.out hb) (i := 0) (v := .int .i64 P) rfl) (blk_cell (blk_below HLD.out hb) (i := 1) (v := .int .i64 D) rfl))); clear hb))
          go_wp2
          go_ret
          exact ⟨by rw [HBP.out, HR.out]; rfl, HB7.out⟩
        · have HR := Lib.hid (pb_false (p := U = -P ∧ D = Q) (fun h => e2 h.2))
          have e2' : (D == Q) = false := by simpa using e2
          subst e1
          go_region_held3 (fun W => (W.cell? ⟨h1, 0, none⟩ = some (.int .i64 (-P)) ∧ W.cell? ⟨h1, 1, none⟩ = some (.int .i64 D)) ∧ (W.cell? ⟨h3, 0, none⟩ = some (.int .i64 P) ∧ W.cell? ⟨h3, 1, none⟩ = some (.int .i64 Q))) (first | go_keep | exact HKK.out)
            (first
            | (go_at_call 87; refine (HMC.out _).mono ?_; rintro e w7 ⟨rfl, hb⟩; have HB7 := Lib.hid (below_up HBX.out hb); have HKK := Lib.hid (And.intro (And.intro (blk_cell (blk_below HKD.out hb) (i := 0) (v := .int .i64 (-P)) rfl) (blk_cell (blk_below HKD.out hb) (i := 1) (v := .int .i64 D) rfl)) (And.intro (blk_cell (blk_below HLD.out hb) (i := 0) (v := .int .i64 P) rfl) (blk_cell (blk_below HLD.out hb) (i := 1) (v := .int .i64 Q) rfl))); clear hb))
          go_wp2
          go_ret
          exact ⟨by rw [HBP.out, HR.out]; rfl, HB7.out⟩
      · have HR := Lib.hid (pb_false (p := U = -P ∧ D = Q) (fun h => e1 h.1))
        have e1' : (U == -P) = false := by simpa using e1
        go_region_held3 (fun W => (W.cell? ⟨h1, 0, none⟩ = some (.int .i64 U) ∧ W.cell? ⟨h1, 1, none⟩ = some (.int .i64 D)) ∧ (W.cell? ⟨h3, 0, none⟩ = some (.int .i64 P) ∧ W.cell? ⟨h3, 1, none⟩ = some (.int .i64 Q))) (first | go_keep | exact HKK.out)
          (first
          | (go_at_call 87; refine (HMC.out _).mono ?_; rintro e w7 ⟨rfl, hb⟩; have HB7 := Lib.hid (below_up HBX.out hb); have HKK := Lib.hid (And.intro (And.intro (blk_cell (blk_below HKD.out hb) (i := 0) (v := .int .i64 U) rfl) (blk_cell (blk_below HKD.out hb) (i := 1) (v := .int .i64 D) rfl)) (And.intro (blk_cell (blk_below HLD.out hb) (i := 0) (v := .int .i64 P) rfl) (blk_cell (blk_below HLD.out hb) (i := 1) (v := .int .i64 Q) rfl))); clear hb))
        go_wp2
        go_ret
        exact ⟨by rw [HBP.out, HR.out]; rfl, HB7.out⟩
    · have HWN := Lib.hid (pb_false (p := WOk (ntab a) y) (fun h => hvy h.x))
      rw [HWN.out] at HC
      have HNO := Lib.hid (pb_false (p := BestP a x y) (fun h => hvy (by rw [ntab_len]; exact h.ok.y)))
      clear hvy
      go_wp2_with fail
      refine HC.out.mono ?_
      rintro e w3 ⟨rfl, hb⟩
      have HB3 := Lib.hid (below_up (below_up HB2.out hb) (below_alloc w3 (.cells #[.int .i64 P, .int .i64 Q] 53)))
      clear hb HC HB2 HK2
      go_wp2_with fail
      go_quiet (fail)
      go_wp2
      go_ret
      exact ⟨by rw [HNO.out]; rfl, below_drewN HB3.out _⟩
  · have HNO := Lib.hid (pb_false (p := BestP a x y) (fun h => hok ⟨h.ok.v, h.ok.x⟩))
    rw [pb_false hok] at HC
    clear hok
    go_enter Try.func52, Try.ntmps52
    go_wp2_with fail
    refine HC.out.mono ?_
    rintro e w1 ⟨rfl, hb⟩
    have HB1 := Lib.hid (below_up (show Below w.heap.size w w1 from hb) (below_alloc w1 (.cells #[.int .i64 U, .int .i64 D] 53)))
    clear hb HC
    go_wp2
    go_ret
    exact ⟨by rw [HNO.out]; rfl, HB1.out⟩
end Go.Proofs.Ytibliobcbbhopaa
