/- Tables turned, by the laws. -/
import Derived.Test.YtfilbknikbfjhaaR10
namespace Go.Proofs.Ytfilbknikbfjhaa
open Go.RowKit

def fcol (xss : List (List Int)) (j i : Nat) : List Int := (List.range i).map fun k => g2 xss k j
theorem fcol_succ (xss : List (List Int)) (j i : Nat) : fcol xss j (i + 1) = fcol xss j i ++ [g2 xss i j] := by simp [fcol, List.range_succ]
theorem flip_succ (xss : List (List Int)) (n j : Nat) : flip xss n (j + 1) = flip xss n j ++ [fcol xss j n] := by simp [flip, fcol, List.range_succ]
theorem fcol_len (xss : List (List Int)) (j i : Nat) : (fcol xss j i).length = i := by simp [fcol]
theorem flip_len (xss : List (List Int)) (n j : Nat) : (flip xss n j).length = j := by simp [flip]
/-- Rows of m numbers. -/
def Even (xss : List (List Int)) (m : Nat) : Prop := ∀ k, k < xss.length → (gr xss k).length = m
theorem Small.fcol_bd {xss : List (List Int)} (h : Small xss) {m : Nat} (he : Even xss m) {i j : Nat} (hi : i ≤ xss.length) (hj : j < m) : ∀ x ∈ fcol xss j i, -1000 ≤ x ∧ x ≤ 1000 := fun x hx => by
  obtain ⟨k, hk, rfl⟩ := List.mem_map.1 hx
  have hk := List.mem_range.1 hk
  exact h.gi (show k < _ by omega) (by rw [he k (by omega)]; exact hj)
theorem Small.m {xss : List (List Int)} (h : Small xss) {m : Nat} (he : Even xss m) (h0 : 0 < xss.length) : m ≤ 8 := by
  rw [← he 0 h0]; exact (h.rows _ (gr_mem h0)).1
theorem Small.flip {xss : List (List Int)} (h : Small xss) {m : Nat} (he : Even xss m) (h0 : 0 < xss.length) : Small (flip xss xss.length m) :=
  ⟨by rw [flip_len]; exact h.m he h0, fun r hr => by
    obtain ⟨j, hj, rfl⟩ := List.mem_map.1 hr
    have hj := List.mem_range.1 hj
    exact ⟨by simp; exact h.n, h.fcol_bd he (Nat.le_refl _) hj⟩⟩

theorem VT.even {a : List (List Int)} (v : VT a) : Even a (gr a 0).length := fun k hk => (v.rows k hk).1
theorem VT.flip {a : List (List Int)} (v : VT a) : VT (flip a a.length (gr a 0).length) := by
  have h0 := v.m1
  refine VT_of (by rw [flip_len]; exact v.m1) (by rw [flip_len]; exact v.m3) fun i hi => ?_
  rw [flip_len] at hi
  rw [gr_flip hi, gr_flip h0]
  refine ⟨by simp, by simp; exact v.n1, by simp; exact v.n3, fun j hj => ?_⟩
  simp at hj
  rw [gi_col hj]
  exact v.bd hj hi
theorem VT.minus {a : List (List Int)} (v : VT a) : VT (mtab a a.length) := by
  have hg : ∀ i, i < a.length → gr (mtab a a.length) i = mrow (gr a i) (gr a i).length := fun i hi => by
    rw [gr_get (by rw [mtab_len]; exact hi)]; simp [mtab]
  have h0 : 0 < a.length := v.n1
  refine VT_of (by rw [mtab_len]; exact v.n1) (by rw [mtab_len]; exact v.n3) fun i hi => ?_
  rw [mtab_len] at hi
  have hr := v.rows i hi
  rw [hg i hi, hg 0 h0, RowV, mrow_len, mrow_len]
  refine ⟨hr.1, by rw [hr.1]; exact v.m1, by rw [hr.1]; exact v.m3, fun j hj => ?_⟩
  have := hr.2 j hj
  rw [gi_get (by rw [mrow_len]; exact hj)]
  simp only [mrow, List.getElem_map, List.getElem_range]
  unfold InR at *
  omega

set_option maxHeartbeats 1000000 in
theorem flipped_any (A : Option Addr) (n c m : Nat) (xss : List (List Int)) (w : World) (hx : IntRows w A n c xss) (hs : Small xss) (h0 : 0 < n) (he : Even xss m) :
    Calls Try.prog 18 #[.slice A n c] w (NewT w (flip xss n m)) := by
  have HS := Lib.hid hs
  have HS0 := Lib.hid (TM.start w)
  have HE := Lib.hid he
  have hn8 := hs.n
  have HX := Lib.hid hx
  have LX := Lib.hid hx.len
  have hnx : n ≤ 8 := by rw [← hx.len]; exact hn8
  have hm8 : m ≤ 8 := hs.m he (by rw [hx.len]; exact h0)
  clear hx hs he
  obtain ⟨b, o, rfl, hc⟩ := HX.out.at_ h0
  have HC := Lib.hid hc
  clear hc
  go_enter Try.func18, Try.ntmps18
  go_wp2
  go_loopw [3, 4] (fun v i wr => ∃ (k : Nat) (vs : List Value), k ≤ m ∧ i = .int .i64 k ∧ Hid (TM w v vs (flip xss n k) wr)) (fun _ i _ => m - (intOf i).toNat)
  case atStart => exact ⟨0, [], Nat.zero_le _, rfl, HS0⟩
  case round =>
    clear HS0
    obtain ⟨k, vs, hk, rfl, HT⟩ := hrel
    obtain ⟨Av, cv, rfl⟩ := HT.out.bo.form
    obtain ⟨R0, cc0, c0, _⟩ := HC.out 0 h0
    rw [HE.out 0 (by rw [LX.out]; exact h0)] at c0
    have d0 := HT.out.up.cell (p := ⟨b, o + 0, none⟩) (World.block_lt_of_cell? _ _ c0)
    rw [c0] at d0
    simp only [Nat.add_zero] at d0 c0
    by_cases hlt : k < m
    · have HI := Lib.hid HT.out.row
      clear HT
      go_wp2
      clear d0
      generalize wr.heap.size = N at *
      go_loopw [5, 6] (fun u i wi => ∃ (j : Nat), j ≤ n ∧ i = .int .i64 j ∧ Hid (TN w N (.slice Av (flip xss n k).length cv) vs (flip xss n k) u (fcol xss k j) wi)) (fun _ i _ => n - (intOf i).toNat)
      case atStart => exact ⟨0, Nat.zero_le _, rfl, HI⟩
      case round =>
        clear HI
        obtain ⟨j, hj, rfl, HI⟩ := hrel
        obtain ⟨Au, cu, rfl⟩ := HI.out.bi.form
        by_cases hlm : j < n
        · have hjx : j < xss.length := by rw [LX.out]; exact hlm
          obtain ⟨R, cc, c1, hR⟩ := HC.out j hlm
          have c2 := HI.out.up.cell (p := ⟨b, o + j, none⟩) (World.block_lt_of_cell? _ _ c1)
          rw [c1] at c2
          have hR2 := hR.keep (Keep.below HI.out.up)
          have hbd := HS.out.gi hjx (show k < (gr xss j).length by rw [HE.out j hjx]; exact hlt)
          rw [HE.out j hjx] at c1 c2 hR2
          obtain ⟨b', o', rfl, hc'⟩ := hR2.at_ (by omega)
          have c3 := hc' k hlt
          clear hc' hR hR2
          generalize hval : gi (gr xss j) k = x at *
          have HV := Lib.hid (show g2 xss j k = x from hval)
          clear hval
          have hb := below_alloc wr (.cells #[iv x] 3)
          have HB4 := Lib.hid (HI.out.bi.below hb).own
          have HN := Lib.hid (cell_one_new wr (iv x) 3)
          have hHs := HI.out.hs
          have hlh := HI.out.lh
          have HML := Lib.hid (fcol_len xss k j)
          generalize hys : fcol xss k j = ys at *
          have HYS := Lib.hid hys
          clear hb hys
          obtain ⟨i0, hi0, hz0, hz1, hz2⟩ := info_parts Try.info_int
          go_wp2_with (at_builtin; refine wpList_append_own_at _ rfl _ _ 27 rfl N 3 i0 (.int .i64 0) 1 8 Try.underlying27 hi0 hz0 hz1 hz2 rfl (by decide) _ ys.length (ys.map iv) rfl HB4.out ⟨wr.heap.size, 0, none⟩ 1 1 [iv x] rfl rfl ?c1 ?c2 ?c3 ?c4 ?c5 ?_)
          case c1 => exact HN.out
          case c2 => intro u hu; simp at hu; subst hu; rfl
          case c3 => have := HML.out; unfold maxLen; omega
          case c4 => have := HML.out; omega
          case c5 => simp; omega
          intro v' w5 hown' hgrow _ hat
          have HI5 := Lib.hid (HI.out.push hown' hgrow (by simpa using hat))
          clear HB4 HN hown' hgrow hat HI
          go_wp2
          go_roundw
          case rel => exact ⟨j + 1, by omega, by go_num, Lib.hid (by rw [fcol_succ, HYS.out, HV.out]; exact HI5.out)⟩
          case measure => simp [intOf]; omega
        · obtain rfl : j = n := by omega
          have HBD := Lib.hid (HS.out.fcol_bd HE.out (Nat.le_of_eq LX.out.symm) hlt)
          obtain ⟨Ar, nr, cr, gg, e, rfl, ho, _⟩ := HI.out.bi.owns (by rw [fcol_len]; omega) (fun x hx => by have := HBD.out x hx; omega)
          injection e with e1 _ e3
          subst e1
          subst e3
          have HO := Lib.hid ho
          have HML := Lib.hid (fcol_len xss k j)
          have HTL := Lib.hid (flip_len xss j k)
          have HMS := Lib.hid (flip_succ xss j k)
          have hb := below_alloc wr (.cells #[.slice Au (fcol xss k j).length cu] 27)
          have HB4 := Lib.hid (HI.out.bo.below hb).own
          have HN := Lib.hid (cell_one_new wr (.slice Au (fcol xss k j).length cu) 27)
          have hHs := HI.out.hs
          have hlh := HI.out.lh
          clear hb ho HBD
          generalize fcol xss k j = ys at *
          generalize flip xss j k = ms at *
          obtain ⟨i0, hi0, hz0, hz1, hz2⟩ := info_parts Try.info_row
          go_wp2_with (at_builtin; refine wpList_append_own_at _ rfl _ _ 23 rfl w.heap.size 27 i0 (.slice none 0 0) 1 24 Try.underlying23 hi0 hz0 hz1 hz2 rfl (by decide) _ ms.length vs rfl HB4.out ⟨wr.heap.size, 0, none⟩ 1 1 [.slice Au ys.length cu] rfl rfl ?d1 ?d2 ?d3 ?d4 ?d5 ?_)
          case d2 => rfl
          case d3 => have := HTL.out; unfold maxLen; omega
          case d4 => have := HTL.out; omega
          case d5 => omega
          intro v' w5 hown' hgrow _ hat
          have HT5 := Lib.hid (HI.out.done HO.out hown' hgrow (by simpa using hat))
          clear HB4 HN hown' hgrow hat HI HO
          go_wp2
          go_roundw
          case rel => exact ⟨k + 1, _, by omega, by go_num, Lib.hid (by rw [HMS.out]; exact HT5.out)⟩
          case measure => simp [intOf]; omega
    · obtain rfl : k = m := by omega
      obtain ⟨A', n', c', gg, e, hn', hown⟩ := HT.out.bo.owns (by rw [flip_len]; omega)
      injection e with e1 e2 e3
      subst e1
      subst e2
      subst e3
      have HO := Lib.hid hown
      have HB := Lib.hid HT.out.up
      clear hown HT
      go_wp2
      go_ret
      exact ⟨_, _, _, gg, rfl, rfl, HO.out, HB.out⟩
end Go.Proofs.Ytfilbknikbfjhaa
