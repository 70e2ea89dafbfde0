/- Best shares, by the model. -/
import Derived.Test.YtibliobcbbhopaaT1
import Derived.Test.YtibliobcbbhopaaR12
import Derived.Test.YtibliobcbbhopaaS9
namespace Go.Proofs.Ytibliobcbbhopaa
open Go.RowKit

theorem VT.small {a : List (List Int)} (v : VT a) : Small a := by
  have h3 := v.n3
  refine ⟨by omega, fun r hr => ?_⟩
  obtain ⟨k, hk, rfl⟩ := List.mem_iff_getElem.1 hr
  have h1 := v.rows k hk
  rw [← gr_get hk]
  have h2 := h1.1
  have h4 := v.m3
  refine ⟨by omega, fun x hx => ?_⟩
  obtain ⟨j, hj, rfl⟩ := List.mem_iff_getElem.1 hx
  have := h1.2 j hj
  unfold InR at this
  rw [gi_get hj] at this
  omega
/-- The table as the second player has it. -/
def ntab (a : List (List Int)) : List (List Int) := mtab (flip a a.length (gr a 0).length) (flip a a.length (gr a 0).length).length
theorem ntab_len (a : List (List Int)) : (ntab a).length = (gr a 0).length := by unfold ntab; rw [mtab_len, flip_len]
theorem VT.ntab {a : List (List Int)} (v : VT a) : VT (ntab a) := v.flip.minus
theorem VT.ntab_m {a : List (List Int)} (v : VT a) : (gr (Go.Proofs.Ytibliobcbbhopaa.ntab a) 0).length = a.length := by
  have h0 := v.m1
  have h1 := flip_len a a.length (gr a 0).length
  unfold Go.Proofs.Ytibliobcbbhopaa.ntab
  rw [gr_get (by rw [mtab_len, h1]; exact h0)]
  simp only [mtab, List.getElem_map, List.getElem_range, mrow_len]
  rw [gr_flip h0]; simp
/-- Shares that are best for both. -/
structure BestP (a : List (List Int)) (x y : List Int) : Prop where
  ok : POk a x y
  eq : wlast a x = (- (wlast (ntab a) y).1, (wlast (ntab a) y).2)
theorem wlast_bd {a : List (List Int)} {x : List Int} (v : VT a) (hx : VS x a.length) : (-81000000 ≤ (wlast a x).1 ∧ (wlast a x).1 ≤ 81000000) ∧ 1 ≤ (wlast a x).2 ∧ (wlast a x).2 ≤ 3000 := by
  have h := VT.pbx v hx
  have n3 := v.n3
  have := tot_bd (x := x) (n := a.length) n3 (by have := hx.1; omega) h.x
  exact wst_bd h n3 v.m3 hx.2.2 this.2 _

set_option maxRecDepth 100000 in
set_option maxHeartbeats 3200000 in
theorem AreBest_spec (A X Y : Option Addr) (n c nx cx ny cy : Nat) (a : List (List Int)) (x y : List Int) (w : World) (ha : IntRows w A n c a) (hx : Ints w X nx cx x) (hy : Ints w Y ny cy y) :
    Calls Try.prog 51 #[.slice A n c, .slice X nx cx, .slice Y ny cy] w (Ret (.bool (pb (BestP a x y))) w) := by
  have HA := Lib.hid ha
  have HX := Lib.hid hx
  have HY := Lib.hid hy
  clear ha hx hy
  by_cases hv : VT a
  · have HV := Lib.hid hv
    have hn1 := hv.n1
    have hn3 := hv.n3
    have hm1 := hv.m1
    have hm3 := hv.m3
    rw [HA.out.len] at hn1 hn3
    have HC := Lib.hid (pb_true hv ▸ validTable_any _ _ _ _ _ HA.out)
    clear hv
    have HLEN := Lib.hid HA.out.len
    by_cases hvx : VS x a.length
    · have HVX := Lib.hid hvx
      have hq := fun W (k : Keep w W) => validShares_any' _ _ _ _ (n : Int) W (HX.out.keep k) (by omega)
      rw [show pb (VS x (n : Int)) = true by rw [← HLEN.out]; exact pb_true hvx] at hq
      have HQ := Lib.hid hq
      clear hvx hq
      obtain ⟨b, o, rb, ro, cc, rfl, tab⟩ := HA.out.tab HV.out
      have HT := Lib.hid tab
      have hrow := HT.out.row 0 (by omega)
      simp only [Nat.add_zero] at hrow
      have HROW := Lib.hid hrow
      clear tab hrow
      by_cases hvy : VS y (gr a 0).length
      · have HVY := Lib.hid hvy
        have hq := fun W (k : Keep w W) => validShares_any' _ _ _ _ ((gr a 0).length : Int) W (HY.out.keep k) (by omega)
        rw [show pb (VS y ((gr a 0).length : Int)) = true from pb_true hvy] at hq
        have HQ2 := Lib.hid hq
        have HP := Lib.hid (POk.mk HV.out HVX.out HVY.out)
        have HBP : Hid (pb (BestP a x y) = pb (wlast a x = (- (wlast (ntab a) y).1, (wlast (ntab a) y).2))) := Lib.hid (pb_congr ⟨fun h => h.eq, fun h => ⟨HP.out, h⟩⟩)
        have h1 : n = nx := by have := HVX.out.1; have := HX.out.len; have := HLEN.out; omega
        subst h1
        have HNY := Lib.hid (show (gr a 0).length = ny by have := HVY.out.1; have := HY.out.len; omega)
        clear hvy hq
        go_enter Try.func51, Try.ntmps51
        go_wp2_with fail
        refine HC.out.mono ?_
        rintro e w1 ⟨rfl, hq⟩
        have HB1 := Lib.hid (show Below w.heap.size w w1 from hq.below)
        clear hq HC
        go_wp2_with fail
        refine (HQ.out _ (Keep.below HB1.out)).mono ?_
        rintro e w2 ⟨rfl, hq⟩
        have HB2 := Lib.hid (below_up HB1.out hq.below)
        have hrow := Keep.below HB2.out _ _ HROW.out
        clear hq HQ HB1
        go_wp2_with fail
        refine (HQ2.out _ (Keep.below HB2.out)).mono ?_
        rintro e w3 ⟨rfl, hq⟩
        have HB3 := Lib.hid (below_up HB2.out hq.below)
        clear hq HQ2 HB2 hrow
        have HC := Lib.hid (turnedS_any _ n c (gr a 0).length a w3 (HA.out.keep (Keep.below HB3.out)) HV.out.small (by omega) HV.out.even)
        go_wp2_with fail
        refine HC.out.mono ?_
        rintro e w4 ⟨A4, n4, c4, g4, rfl, hn4, ho, hb⟩
        rw [← HLEN.out] at ho
        have HO4 := Lib.hid ho.rows
        have HB4 := Lib.hid (below_up HB3.out hb)
        have HSM := Lib.hid (HV.out.small.flip HV.out.even HV.out.n1)
        clear hn4 ho hb HC HB3
        have HC := Lib.hid (negated_any _ n4 c4 _ w4 HO4.out HSM.out)
        go_wp2_with fail
        refine HC.out.mono ?_
        rintro e w5 ⟨A5, n5, c5, g5, rfl, hn5, ho, hb⟩
        have HO5 := Lib.hid (show IntRows w5 A5 n5 c5 (ntab a) from ho.rows)
        have HB5 := Lib.hid (below_up HB4.out hb)
        clear hn5 ho hb HC HB4 HO4 HSM
        have HVN := Lib.hid HV.out.ntab
        have HNL := Lib.hid HO5.out.len
        obtain ⟨b5, o5, rb5, ro5, cc5, rfl, tab5⟩ := HO5.out.tab HVN.out
        have HT5 := Lib.hid tab5
        have h5 : n5 = ny := by rw [← HNL.out, ntab_len, HNY.out]
        subst h5
        have HVY2 := Lib.hid (show VS y (ntab a).length by rw [ntab_len]; exact HVY.out)
        have HC := Lib.hid (worst_any b5 o5 rb5 ro5 cc5 n5 _ c5 cy Y (ntab a) y _ w5 HT5.out (HY.out.keep (Keep.below HB5.out)) (HNL.out ▸ VT.pbx HVN.out HVY2.out) HVY.out.2.2)
        have HWN : Hid (wst (ntab a) y n5 (gr (ntab a) 0).length ((gr (ntab a) 0).length - 1) = wlast (ntab a) y) := Lib.hid (by unfold wlast; rw [HNL.out])
        rw [HWN.out] at HC
        clear tab5
        go_wp2_with fail
        refine HC.out.mono ?_
        rintro e w6 ⟨rfl, hb⟩
        have HB6 := Lib.hid (below_up HB5.out hb)
        have hPB := wlast_bd HVN.out HVY2.out
        clear hb HC HB5 HT5
        have HBX := Lib.hid (below_up HB6.out (below_alloc w6 (.cells #[.int .i64 (wlast (ntab a) y).1, .int .i64 (wlast (ntab a) y).2] 53))).drew
        have HBK := Lib.hid (blk_new w6 53 #[.int .i64 (wlast (ntab a) y).1, .int .i64 (wlast (ntab a) y).2])
        clear HWN
        generalize (wlast (ntab a) y).1 = P at *
        generalize (wlast (ntab a) y).2 = Q at *
        obtain ⟨⟨p1, p2⟩, p3, p4⟩ := hPB
        have HPX := Lib.hid (HLEN.out ▸ VT.pbx HV.out HVX.out)
        have c0 := blk_cell HBK.out (i := 0) (v := .int .i64 P) rfl
        have c1 := blk_cell HBK.out (i := 1) (v := .int .i64 Q) rfl
        go_wp2_with fail
        generalize w6.alloc (.cells #[.int .i64 P, .int .i64 Q] 53) = W6 at *
        generalize w6.heap.size = h6 at *
        have hz : h6 < W6.heap.size := blk_lt HBK.out
        have HBD := Lib.hid (show Blk W6.drew h6 53 #[.int .i64 P, .int .i64 Q] from HBK.out)
        clear HBK
        have hwr : IntKind.i64.wrap (-P) = -P := wrap_in64 (by omega)
        have HWC : Hid (∀ W, Keep w W → Calls Try.prog 82 #[.slice (some ⟨b, o, none⟩) n c, .slice X n cx] W (Ret (.agg #[.int .i64 (wlast a x).1, .int .i64 (wlast a x).2]) W)) := Lib.hid (fun W k => by
          have h := worst_any b o rb ro cc n _ c cx X a x _ W (HT.out.keep k) (HX.out.keep k) HPX.out HVX.out.2.2
          unfold wlast
          rw [HLEN.out]
          exact h)
        have HEQ : Hid (wlast a x = (-P, Q) ↔ (wlast a x).1 = -P ∧ (wlast a x).2 = Q) := Lib.hid ⟨fun h => by rw [h]; exact ⟨rfl, rfl⟩, fun h => Prod.ext h.1 h.2⟩
        by_cases e1 : (wlast a x).1 = -P
        · rw [e1] at HWC
          by_cases e2 : (wlast a x).2 = Q
          · rw [e2] at HWC
            have HR := Lib.hid (pb_true (HEQ.out.2 ⟨e1, e2⟩))
            clear e1 e2
            go_region_held3 (fun W => W.cell? ⟨h6, 0, none⟩ = some (.int .i64 P) ∧ W.cell? ⟨h6, 1, none⟩ = some (.int .i64 Q)) (first | go_keep | exact HK2.out)
              (first
              | (go_at_call 82; refine (HWC.out _ ?_).mono ?_; exact Keep.below HBX.out; rintro e w7 ⟨rfl, hb⟩; have HB7 := Lib.hid (below_up HBX.out hb); have HK2 := Lib.hid (And.intro (blk_cell (blk_below HBD.out hb) (i := 0) (v := .int .i64 P) rfl) (blk_cell (blk_below HBD.out hb) (i := 1) (v := .int .i64 Q) rfl)); clear hb))
            go_wp2
            go_ret
            exact ⟨by rw [HBP.out, HR.out]; rfl, HB7.out⟩
          · have HR := Lib.hid (pb_false (p := wlast a x = (-P, Q)) (fun h => e2 (HEQ.out.1 h).2))
            clear e1
            clear HEQ
            generalize (wlast a x).2 = D at *
            have e2' : (D == Q) = false := by simpa using e2
            go_region_held3 (fun W => W.cell? ⟨h6, 0, none⟩ = some (.int .i64 P) ∧ W.cell? ⟨h6, 1, none⟩ = some (.int .i64 Q)) (first | go_keep | exact HK2.out)
              (first
              | (go_at_call 82; refine (HWC.out _ ?_).mono ?_; exact Keep.below HBX.out; rintro e w7 ⟨rfl, hb⟩; have HB7 := Lib.hid (below_up HBX.out hb); have HK2 := Lib.hid (And.intro (blk_cell (blk_below HBD.out hb) (i := 0) (v := .int .i64 P) rfl) (blk_cell (blk_below HBD.out hb) (i := 1) (v := .int .i64 Q) rfl)); clear hb))
            go_wp2
            go_ret
            exact ⟨by rw [HBP.out, HR.out]; rfl, HB7.out⟩
        · have HR := Lib.hid (pb_false (p := wlast a x = (-P, Q)) (fun h => e1 (HEQ.out.1 h).1))
          clear HEQ
          generalize (wlast a x).1 = U at *
          have e1' : (U == -P) = false := by simpa using e1
          go_region_held3 (fun W => W.cell? ⟨h6, 0, none⟩ = some (.int .i64 P) ∧ W.cell? ⟨h6, 1, none⟩ = some (.int .i64 Q)) (first | go_keep | exact HK2.out)
            (first
            | (go_at_call 82; refine (HWC.out _ ?_).mono ?_; exact Keep.below HBX.out; rintro e w7 ⟨rfl, hb⟩; have HB7 := Lib.hid (below_up HBX.out hb); have HK2 := Lib.hid (And.intro (blk_cell (blk_below HBD.out hb) (i := 0) (v := .int .i64 P) rfl) (blk_cell (blk_below HBD.out hb) (i := 1) (v := .int .i64 Q) rfl)); clear hb))
          go_wp2
          go_ret
          exact ⟨by rw [HBP.out, HR.out]; rfl, HB7.out⟩
      · have hq := fun W (k : Keep w W) => validShares_any' _ _ _ _ ((gr a 0).length : Int) W (HY.out.keep k) (by omega)
        rw [show pb (VS y ((gr a 0).length : Int)) = false from pb_false hvy] at hq
        have HQ2 := Lib.hid hq
        have HNO := Lib.hid (pb_false (p := BestP a x y) (fun h => hvy h.ok.y))
        clear hvy hq
        go_enter Try.func51, Try.ntmps51
        go_wp2_with fail
        refine HC.out.mono ?_
        rintro e w1 ⟨rfl, hq⟩
        have HB1 := Lib.hid (show Below w.heap.size w w1 from hq.below)
        clear hq HC
        go_wp2_with fail
        refine (HQ.out _ (Keep.below HB1.out)).mono ?_
        rintro e w2 ⟨rfl, hq⟩
        have HB2 := Lib.hid (below_up HB1.out hq.below)
        have hrow := Keep.below HB2.out _ _ HROW.out
        clear hq HQ HB1
        go_wp2_with fail
        refine (HQ2.out _ (Keep.below HB2.out)).mono ?_
        rintro e w3 ⟨rfl, hq⟩
        have HB3 := Lib.hid (below_up HB2.out hq.below)
        clear hq HQ2 HB2 hrow
        go_wp2
        go_ret
        exact ⟨by rw [HNO.out]; rfl, HB3.out⟩
    · have hq := fun W (k : Keep w W) => validShares_any' _ _ _ _ (n : Int) W (HX.out.keep k) (by omega)
      rw [show pb (VS x (n : Int)) = false by rw [← HLEN.out]; exact pb_false hvx] at hq
      have HQ := Lib.hid hq
      have HNO := Lib.hid (pb_false (p := BestP a x y) (fun h => hvx h.ok.x))
      clear hvx hq
      go_enter Try.func51, Try.ntmps51
      go_wp2_with fail
      refine HC.out.mono ?_
      rintro e w1 ⟨rfl, hq⟩
      have HB1 := Lib.hid (show Below w.heap.size w w1 from hq.below)
      clear hq HC
      go_wp2_with fail
      refine (HQ.out _ (Keep.below HB1.out)).mono ?_
      rintro e w2 ⟨rfl, hq⟩
      have HB2 := Lib.hid (below_up HB1.out hq.below)
      clear hq HQ HB1
      go_wp2
      go_ret
      exact ⟨by rw [HNO.out]; rfl, HB2.out⟩
  · have HC := Lib.hid (pb_false hv ▸ validTable_any _ _ _ _ _ HA.out)
    have HNO := Lib.hid (pb_false (p := BestP a x y) (fun h => hv h.ok.v))
    clear hv
    go_enter Try.func51, Try.ntmps51
    go_wp2_with fail
    refine HC.out.mono ?_
    rintro e w1 ⟨rfl, hq⟩
    have HB1 := Lib.hid (show Below w.heap.size w w1 from hq.below)
    clear hq HC
    go_wp2
    go_ret
    exact ⟨by rw [HNO.out]; rfl, HB1.out⟩
end Go.Proofs.Ytibliobcbbhopaa
