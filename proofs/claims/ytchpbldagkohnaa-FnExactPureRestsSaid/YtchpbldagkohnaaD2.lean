/- Pure rests, by the model. -/
import Derived.Test.YtchpbldagkohnaaD1
import Derived.Test.YtchpbldagkohnaaA3
namespace Go.Proofs.Ytchpbldagkohnaa
open Go.RowKit

theorem Try.info32_ : (Try.prog.info? 32).map (fun i => (i.zero, i.size, i.bytes)) = some (some (.slice none 0 0), 1, 24) := by kernel_rfl
set_option maxHeartbeats 1000000 in
theorem PureRests_spec (A B : Option Addr) (n c m d : Nat) (xs ys : List (List Int)) (w : World) (hx : IntRows w A n c xs) (hy : IntRows w B m d ys) :
    Calls Try.prog 38 #[.agg #[.slice A n c, .slice B m d]] w (RetR (pureR xs ys) w) := by
  have hb0 := below_alloc w (.cells #[.slice A n c, .slice B m d] 29)
  have b0 := blk_new w 29 #[.slice A n c, .slice B m d]
  have HB := Lib.hid hb0
  have HK := Lib.hid b0
  have HX := Lib.hid (hx.keep (Keep.below hb0))
  have HY := Lib.hid (hy.keep (Keep.below hb0))
  have HX0 := Lib.hid hx
  have HY0 := Lib.hid hy
  clear hx hy hb0 b0
  go_enter Try.func38, Try.ntmps38
  go_wp2_with fail
  generalize w.alloc (.cells #[.slice A n c, .slice B m d] 29) = W1 at *
  have HC := Lib.hid (validGame_any _ _ _ _ _ _ _ _ _ HX.out HY.out)
  by_cases hv : VG xs ys
  · refine ((pb_true hv) ▸ HC.out).mono ?_
    rintro e w1 ⟨rfl, hb⟩
    have hb2 := below_up HB.out hb
    have hk2 := blk_below HK.out hb
    obtain ⟨p, rfl, rfl, rfl, rfl, rfl, rfl, hg⟩ := GV.of HX0.out HY0.out hv
    have HT := Lib.hid (show GT p w w1 w.heap.size xs ys from ⟨hb2, hk2, hg⟩)
    have hn3 := hg.tx.n3
    have hm3 := hg.tx.m3
    have hn1 := hg.tx.n1
    have HP := Lib.hid (show pureR xs ys = allRests xs ys p.n p.m p.n by rw [pureR, if_pos (pb_true hv), hg.lx, hg.mx])
    clear hb hv hb2 hk2 hg HX HY HX0 HY0 HB HK HC
    have HS := Lib.hid (Bld.make (lo := w.heap.size + 1) (w := w1) (blk_lt HT.out.box))
    have HT1 := Lib.hid (HT.out.up (below_alloc w1 (.cells #[] 32)))
    clear HT
    go_wp2
    go_loopw [3, 4] (fun v s wr => ∃ (i : Nat) (vs : List Value), i ≤ p.n ∧ s = .int .i64 i ∧ Hid (Bld (w.heap.size + 1) wr.heap.size wr v vs (allRests xs ys p.n p.m i)) ∧ Hid (GT p w wr w.heap.size xs ys)) (fun _ s _ => p.n - (intOf s).toNat)
    case atStart => exact ⟨0, [], Nat.zero_le _, rfl, Lib.hid (by rw [World.size_alloc]; exact HS.out), HT1⟩
    case round =>
      clear HS HT1
      obtain ⟨i, vs, hi, rfl, HBd, HT⟩ := hrel
      by_cases hin : i < p.n
      · have k0 := HT.out.c0
        go_wp2
        clear k0
        go_loopw [3, 5] (fun v s wj => ∃ (j : Nat) (vs : List Value), j ≤ p.m ∧ s = .int .i64 j ∧ Hid (Bld (w.heap.size + 1) wj.heap.size wj v vs (allRests xs ys p.n p.m i ++ rowRests xs ys p.n p.m i j)) ∧ Hid (GT p w wj w.heap.size xs ys)) (fun _ s _ => p.m - (intOf s).toNat)
        case atStart => exact ⟨0, vs, Nat.zero_le _, rfl, Lib.hid (by rw [rowRests, List.append_nil]; exact HBd.out), HT⟩
        case round =>
          clear HBd HT vs
          obtain ⟨j, vs, hj, rfl, HBd, HT⟩ := hrel
          have k0 := HT.out.c0
          have k1 := HT.out.c1
          have r0 := HT.out.gv.tx.row 0 (by omega)
          simp only [Nat.add_zero] at r0
          by_cases hjm : j < p.m
          · go_wp2_with fail
            by_cases hr : RestAt xs ys p.n p.m i j
            · refine ((pb_true hr) ▸ isRest_any p i j xs ys _ HT.out.gv hin hjm).mono ?_
              rintro e w2 ⟨rfl, hb⟩
              have HT2 := Lib.hid (HT.out.up hb)
              have HB2 := Lib.hid ((HBd.out.below hb).mono hb.size)
              have HR := Lib.hid (rowRests_yes hr)
              have hlen : (allRests xs ys p.n p.m i ++ rowRests xs ys p.n p.m i j).length ≤ 12 := by
                have h1 := allRests_len xs ys p.n p.m hm3 i
                have h2 := rowRests_len xs ys p.n p.m i j
                rw [List.length_append]; omega
              clear hb hr k0 k1 HT HBd
              have hb3 := below_alloc w2 (.cells #[.int .i64 i, .int .i64 j] 3)
              have hb4 := below_alloc (w2.alloc (.cells #[.int .i64 i, .int .i64 j] 3)) (.cells #[.slice (some ⟨w2.heap.size, 0, none⟩) 2 2] 32)
              have HB4 := Lib.hid ((HB2.out.below hb3).below hb4).own
              have HN := Lib.hid (cell_one_new (w2.alloc (.cells #[.int .i64 i, .int .i64 j] 3)) (.slice (some ⟨w2.heap.size, 0, none⟩) 2 2) 32)
              have HP4 := Lib.hid ((pair_own (lo := w2.heap.size) (w := w2) i j (by omega) (by omega) (Nat.le_refl _)).below hb4)
              have HK4 := Lib.hid (below_up hb3 hb4)
              have HT4 := Lib.hid ((HT2.out.up hb3).up hb4)
              clear hb3 hb4
              have hlo2 : w.heap.size + 1 ≤ w2.heap.size := blk_lt HT2.out.box
              generalize hrs : allRests xs ys p.n p.m i ++ rowRests xs ys p.n p.m i j = rs at *
              have HRS := Lib.hid hrs
              clear hrs
              obtain ⟨i0, hi0, hz0, hz1, hz2⟩ := info_parts Try.info32_
              go_wp2_with (at_builtin; refine wpList_append_own_at _ rfl _ _ 23 rfl (w.heap.size + 1) 32 i0 (.slice none 0 0) 1 24 Try.underlying23 hi0 hz0 hz1 hz2 rfl (by decide) _ rs.length vs rfl HB4.out ⟨w2.heap.size + 1, 0, none⟩ 1 1 [.slice (some ⟨w2.heap.size, 0, none⟩) 2 2] rfl rfl ?c1 ?c2 ?c3 ?c4 ?c5 ?_)
              case c1 => have h := HN.out; rw [World.size_alloc] at h; exact h
              case c2 => intro u hu; simp at hu; subst hu; rfl
              case c3 => unfold maxLen; omega
              case c4 => omega
              case c5 => simp; omega
              intro v' w5 hown' hgrow _ hat
              obtain ⟨hP, hK⟩ := push_pair HB2.out (by omega) (by omega) hown' hgrow hat hlo2
              have HP := Lib.hid hP
              have HT5 := Lib.hid (HT2.out.up2 hK (Nat.le_succ _) (Nat.lt_succ_self _))
              clear HB4 HN HP4 HK4 HT4 hown' hgrow hat hP hK HB2 HT2
              go_wp2
              go_roundw
              case rel => exact ⟨j + 1, _, by omega, by go_num, Lib.hid (by rw [HR.out, ← List.append_assoc, HRS.out]; exact HP.out), HT5⟩
              case measure => simp [intOf]; omega
            · refine ((pb_false hr) ▸ isRest_any p i j xs ys _ HT.out.gv hin hjm).mono ?_
              rintro e w2 ⟨rfl, hb⟩
              have HT2 := Lib.hid (HT.out.up hb)
              have HB2 := Lib.hid ((HBd.out.below hb).mono hb.size)
              have HR := Lib.hid (rowRests_no hr)
              clear hb hr k0 k1 HT HBd
              go_wp2
              go_roundw
              case rel => exact ⟨j + 1, vs, by omega, by go_num, Lib.hid (by rw [HR.out]; exact HB2.out), HT2⟩
              case measure => simp [intOf]; omega
          · go_wp2
            go_roundw
            case rel => exact ⟨i + 1, vs, by omega, by go_num, Lib.hid (by have h := HBd.out; rw [show j = p.m by omega] at h; rw [allRests]; exact h), HT⟩
            case measure => simp [intOf]; omega
      · have k0 := HT.out.c0
        go_wp2
        go_ret
        obtain ⟨A, n, c, g, rfl, hn, ho⟩ := HBd.out.owns (by have := allRests_len xs ys p.n p.m hm3 i; omega)
        have e : pureR xs ys = allRests xs ys p.n p.m i := by rw [HP.out, show i = p.n by omega]
        exact ⟨A, n, c, g, rfl, by rw [e]; exact hn, by rw [e]; exact ho.mono (Nat.le_succ _) (Nat.le_refl _), HT.out.below⟩
  · have HZ := Lib.hid (show pureR xs ys = [] by rw [pureR, if_neg (by rw [pb_false hv]; decide)])
    refine ((pb_false hv) ▸ HC.out).mono ?_
    rintro e w1 ⟨rfl, hb⟩
    have HB2 := Lib.hid (below_up HB.out hb)
    clear hb hv HC
    go_wp2
    go_ret
    exact ⟨none, 0, 0, 0, rfl, by rw [HZ.out]; rfl, by rw [HZ.out]; exact OwnR.nil _ _ _ _, HB2.out⟩

end Go.Proofs.Ytchpbldagkohnaa
