/- Tables with the other signs, by the model. -/
import Derived.Test.YtfilbknikbfjhaaR11
namespace Go.Proofs.Ytfilbknikbfjhaa
open Go.RowKit

/-- A new table, as append has made it. -/
def NewB (w : World) (yss : List (List Int)) (e : Ending) (w' : World) : Prop :=
  ∃ Av c vs, e = .returned (.slice Av yss.length c) ∧ Bld w.heap.size w'.heap.size w' (.slice Av yss.length c) vs yss ∧ Below w.heap.size w w'
set_option maxHeartbeats 1000000 in
theorem negatedB_any (A : Option Addr) (n c : Nat) (xss : List (List Int)) (w : World) (hx : IntRows w A n c xss) (hs : Small xss) :
    Calls Try.prog 101 #[.slice A n c] w (NewB w (mtab xss xss.length)) := by
  have HS := Lib.hid hs
  have HS0 := Lib.hid (TM.start w)
  have hn8 := hs.n
  have HX := Lib.hid hx
  have LX := Lib.hid hx.len
  have hnx : n ≤ 8 := by rw [← hx.len]; exact hn8
  clear hx hs
  go_enter Try.func101, Try.ntmps101
  go_wp2
  go_loopw [3, 4] (fun v i wr => ∃ (k : Nat) (vs : List Value), k ≤ n ∧ i = .int .i64 k ∧ Hid (TM w v vs (mtab xss k) wr)) (fun _ i _ => n - (intOf i).toNat)
  case atStart => exact ⟨0, [], Nat.zero_le _, rfl, HS0⟩
  case round =>
    clear HS0
    obtain ⟨k, vs, hk, rfl, HT⟩ := hrel
    obtain ⟨Av, cv, rfl⟩ := HT.out.bo.form
    by_cases hlt : k < n
    · have HI := Lib.hid HT.out.row
      have hkx : k < xss.length := by rw [LX.out]; exact hlt
      clear HT
      obtain ⟨b, o, rfl, hc⟩ := HX.out.at_ (by omega)
      have HC := Lib.hid (hc k hlt)
      clear hc
      go_wp2
      generalize wr.heap.size = N at *
      go_loopw [5, 6] (fun u i wi => ∃ (j : Nat), j ≤ (gr xss k).length ∧ i = .int .i64 j ∧ Hid (TN w N (.slice Av (mtab xss k).length cv) vs (mtab xss k) u (mrow (gr xss k) j) wi)) (fun _ i _ => (gr xss k).length - (intOf i).toNat)
      case atStart => exact ⟨0, Nat.zero_le _, rfl, HI⟩
      case round =>
        clear HI
        obtain ⟨j, hj, rfl, HI⟩ := hrel
        obtain ⟨Au, cu, rfl⟩ := HI.out.bi.form
        obtain ⟨R, cc, c1, hR⟩ := HC.out
        have c2 := HI.out.up.cell (p := ⟨b, o + k, none⟩) (World.block_lt_of_cell? _ _ c1)
        rw [c1] at c2
        have hR2 := hR.keep (Keep.below HI.out.up)
        by_cases hlm : j < (gr xss k).length
        · obtain ⟨b', o', rfl, hc'⟩ := hR2.at_ (by omega)
          have c3 := hc' j hlm
          have hbd := HS.out.gi hkx hlm
          clear hc' hR hR2
          generalize hval : gi (gr xss k) j = x at *
          have HV := Lib.hid hval
          clear hval
          have hb := below_alloc wr (.cells #[iv (-x)] 3)
          have HB4 := Lib.hid (HI.out.bi.below hb).own
          have HN := Lib.hid (cell_one_new wr (iv (-x)) 3)
          have hHs := HI.out.hs
          have hlh := HI.out.lh
          have HML := Lib.hid (mrow_len (gr xss k) j)
          generalize hys : mrow (gr xss k) j = ys at *
          have HYS := Lib.hid hys
          clear hb hys
          have hrl := (HS.out.rows _ (gr_mem hkx)).1
          obtain ⟨i0, hi0, hz0, hz1, hz2⟩ := info_parts Try.info_int
          go_wp2_with (at_builtin; refine wpList_append_own_at _ rfl _ _ 27 rfl N 3 i0 (.int .i64 0) 1 8 Try.underlying27 hi0 hz0 hz1 hz2 rfl (by decide) _ ys.length (ys.map iv) rfl HB4.out ⟨wr.heap.size, 0, none⟩ 1 1 [iv (-x)] rfl rfl ?c1 ?c2 ?c3 ?c4 ?c5 ?_)
          case c1 => exact HN.out
          case c2 => intro u hu; simp at hu; subst hu; rfl
          case c3 => have := HML.out; unfold maxLen; omega
          case c4 => have := HML.out; omega
          case c5 => simp; omega
          intro v' w5 hown' hgrow _ hat
          have HI5 := Lib.hid (HI.out.push hown' hgrow (by simpa using hat))
          clear HB4 HN hown' hgrow hat HI
          go_wp2
          go_roundw
          case rel => exact ⟨j + 1, by omega, by go_num, Lib.hid (by rw [mrow_succ, HYS.out, HV.out]; exact HI5.out)⟩
          case measure => simp [intOf]; omega
        · obtain rfl : j = (gr xss k).length := by omega
          have HBD := Lib.hid (HS.out.mrow_bd hkx (Nat.le_refl _))
          obtain ⟨Ar, nr, cr, gg, e, rfl, ho, _⟩ := HI.out.bi.owns (by rw [mrow_len]; have := (HS.out.rows _ (gr_mem hkx)).1; omega) (fun x hx => by have := HBD.out x hx; omega)
          injection e with e1 _ e3
          subst e1
          subst e3
          have HO := Lib.hid ho
          have HML := Lib.hid (mrow_len (gr xss k) (gr xss k).length)
          have HTL := Lib.hid (mtab_len xss k)
          have hb := below_alloc wr (.cells #[.slice Au (mrow (gr xss k) (gr xss k).length).length cu] 27)
          have HB4 := Lib.hid (HI.out.bo.below hb).own
          have HN := Lib.hid (cell_one_new wr (.slice Au (mrow (gr xss k) (gr xss k).length).length cu) 27)
          have hHs := HI.out.hs
          have hlh := HI.out.lh
          have HMS := Lib.hid (mtab_succ xss k)
          clear hb ho hR hR2
          generalize mrow (gr xss k) (gr xss k).length = ys at *
          generalize mtab xss k = ms at *
          obtain ⟨i0, hi0, hz0, hz1, hz2⟩ := info_parts Try.info_row
          go_wp2_with (at_builtin; refine wpList_append_own_at _ rfl _ _ 23 rfl w.heap.size 27 i0 (.slice none 0 0) 1 24 Try.underlying23 hi0 hz0 hz1 hz2 rfl (by decide) _ ms.length vs rfl HB4.out ⟨wr.heap.size, 0, none⟩ 1 1 [.slice Au ys.length cu] rfl rfl ?d1 ?d2 ?d3 ?d4 ?d5 ?_)
          case d2 => rfl
          case d3 => have := HTL.out; unfold maxLen; omega
          case d4 => have := HTL.out; omega
          case d5 => omega
          intro v' w5 hown' hgrow _ hat
          have HT5 := Lib.hid (HI.out.done HO.out hown' hgrow (by simpa using hat))
          clear HB4 HN hown' hgrow hat HI HO
          go_wp2
          go_roundw
          case rel => exact ⟨k + 1, _, by omega, by go_num, Lib.hid (by rw [HMS.out]; exact HT5.out)⟩
          case measure => simp [intOf]; omega
    · obtain rfl : k = n := by omega
      have HO := Lib.hid HT.out.bo
      have HB := Lib.hid HT.out.up
      clear HT
      go_wp2
      go_ret
      exact ⟨_, _, _, by rw [← LX.out]; rfl, by have h := HO.out; rw [← LX.out] at h; exact h, HB.out⟩
theorem negated_any (A : Option Addr) (n c : Nat) (xss : List (List Int)) (w : World) (hx : IntRows w A n c xss) (hs : Small xss) :
    Calls Try.prog 101 #[.slice A n c] w (NewT w (mtab xss xss.length)) :=
  (negatedB_any A n c xss w hx hs).mono fun e w' ⟨Av, cv, vs, he, hb, hk⟩ => by
    obtain ⟨A', n', c', gg, e1, hn', hown⟩ := hb.owns (by rw [mtab_len]; have := hs.n; omega)
    exact ⟨A', n', c', gg, by rw [he, e1], hn', hown, hk⟩
end Go.Proofs.Ytfilbknikbfjhaa
