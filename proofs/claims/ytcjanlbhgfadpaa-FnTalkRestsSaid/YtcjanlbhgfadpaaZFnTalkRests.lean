/- The law FnTalkRests holds: for all bytes at each of TalkRests no other way to speak gives a type more, and no other way to hear more, and where talk is free there is one at which all types say the same, and the program's TalkRests answers as the model's. No condition. -/
import Derived.Test.YtcjanlbhgfadpaaQ12
namespace Go.Proofs.Ytcjanlbhgfadpaa
open Go.ChangeShapes Go.WideShapes Go.ChangeAt Go.RowKit Go.Deep

set_option maxRecDepth 100000 in
set_option maxHeartbeats 3200000 in
theorem fnTalkRests_calls (A : Option Addr) (n c : Nat) (w : World) (hx : Bytes w A n c) :
    Calls Try.prog 5 #[.slice A n c] w fun e w' => e = .returned (.bool true) ∧ Below w.heap.size w w' := by
  have hmx := hx.max
  have H0 := Lib.hid (DrawTalkRests_any A n c w hx)
  clear hx
  by_cases hs : 1048576 < n
  · go_enter Try.func5, Try.ntmps5
    go_wp2
    go_ret
    exact ⟨rfl, Below.refl _ _⟩
  · go_enter Try.func5, Try.ntmps5
    go_wp2_with fail
    refine H0.out.mono ?_
    rintro e w1 ⟨A1, c1, A2, c2, A3, c3, A4, c4, xs, ss, hs, ks, rfl, h, hb⟩
    clear H0
    have hal := below_alloc w1 (.cells #[.slice A1 2 c1, .slice A2 2 c2, .slice A3 2 c3, .slice A4 2 c4] 26)
    have Z := Lib.hid hal
    have K := Lib.hid (blk_new w1 26 #[.slice A1 2 c1, .slice A2 2 c2, .slice A3 2 c3, .slice A4 2 c4])
    have H0 := Lib.hid h
    have BB := Lib.hid hb
    clear hal h hb
    by_cases v : VTk xs ss hs ks
    rotate_left
    · skip
      have HE := Lib.hid (show eqRR (trF xs ss hs ks) (trF xs ss hs ks) = true by simp [eqRR])
      have q0 := blk_cell K.out (i := 0) rfl
      have q1 := blk_cell K.out (i := 1) rfl
      have q2 := blk_cell K.out (i := 2) rfl
      have q3 := blk_cell K.out (i := 3) rfl
      have HC := Lib.hid (TalkRests_impl _ _ _ _ _ _ _ _ _ _ _ _ xs ss hs ks (w1.alloc (.cells #[.slice A1 2 c1, .slice A2 2 c2, .slice A3 2 c3, .slice A4 2 c4] 26)) (H0.out.keep (Keep.below Z.out)))
      go_wp2_with fail
      clear q0 q1 q2 q3
      generalize w1.alloc (.cells #[.slice A1 2 c1, .slice A2 2 c2, .slice A3 2 c3, .slice A4 2 c4] 26) = w1a at *
      refine HC.out.mono ?_
      rintro e w2 ⟨ArR_, nr, crR_, grR_, rfl, hnr, hor, hb⟩
      have Z_2 := Lib.hid (below_up Z.out hb)
      have K_2 := Lib.hid (blk_below K.out hb)
      subst hnr
      have R_ := Lib.hid hor.rows
      clear hor
      clear hb HC  Z K
      have q0 := blk_cell K_2.out (i := 0) rfl
      have q1 := blk_cell K_2.out (i := 1) rfl
      have q2 := blk_cell K_2.out (i := 2) rfl
      have q3 := blk_cell K_2.out (i := 3) rfl
      have HC := Lib.hid (TalkRests_spec _ _ _ _ _ _ _ _ _ _ _ _ xs ss hs ks w2 (H0.out.keep (Keep.below Z_2.out)))
      go_wp2_with fail
      clear q0 q1 q2 q3
      refine HC.out.mono ?_
      rintro e w3 ⟨ArS_, nr, crS_, grS_, rfl, hnr, hor, hb⟩
      have Z_3 := Lib.hid (below_up Z_2.out hb)
      have K_3 := Lib.hid (blk_below K_2.out hb)
      have R__3 := Lib.hid (R_.out.keep (Keep.below hb))
      subst hnr
      have S_ := Lib.hid hor.rows
      clear hor
      clear hb HC  Z_2 K_2 R_
      have HC := Lib.hid (HE.out ▸ equalRows_any _ _ _ _ _ _ (trF xs ss hs ks) (trF xs ss hs ks) w3 R__3.out S_.out)
      go_wp2_with fail
      refine HC.out.mono ?_
      rintro e w4 ⟨rfl, hq⟩
      have hb := hq.below (B := w3.heap.size)
      have Z_4 := Lib.hid (below_up Z_3.out hb)
      have K_4 := Lib.hid (blk_below K_3.out hb)
      have R__4 := Lib.hid (R__3.out.keep (Keep.below hb))
      have S__4 := Lib.hid (S_.out.keep (Keep.below hb))
      clear hb HC hq  Z_3 K_3 R__3 S_
      clear S__4
      have q0 := blk_cell K_4.out (i := 0) rfl
      have q1 := blk_cell K_4.out (i := 1) rfl
      have q2 := blk_cell K_4.out (i := 2) rfl
      have q3 := blk_cell K_4.out (i := 3) rfl
      have HC := Lib.hid (pb_false v ▸ ValidTalk_impl _ _ _ _ _ _ _ _ _ _ _ _ xs ss hs ks w4 (H0.out.keep (Keep.below Z_4.out)))
      go_wp2_with fail
      clear q0 q1 q2 q3
      refine HC.out.mono ?_
      rintro e w5 ⟨rfl, hb⟩
      have Z_5 := Lib.hid (below_up Z_4.out hb)
      have K_5 := Lib.hid (blk_below K_4.out hb)
      have R__5 := Lib.hid (R__4.out.keep (Keep.below hb))
      clear hb HC  Z_4 K_4 R__4
      have q0 := blk_cell K_5.out (i := 0) rfl
      have q1 := blk_cell K_5.out (i := 1) rfl
      have q2 := blk_cell K_5.out (i := 2) rfl
      have q3 := blk_cell K_5.out (i := 3) rfl
      have HC := Lib.hid (TalkRests_spec _ _ _ _ _ _ _ _ _ _ _ _ xs ss hs ks w5 (H0.out.keep (Keep.below Z_5.out)))
      go_wp2_with fail
      clear q0 q1 q2 q3
      refine HC.out.mono ?_
      rintro e w6 ⟨ArS_, nr, crS_, grS_, rfl, hnr, hor, hb⟩
      have Z_6 := Lib.hid (below_up Z_5.out hb)
      have K_6 := Lib.hid (blk_below K_5.out hb)
      have R__6 := Lib.hid (R__5.out.keep (Keep.below hb))
      subst hnr
      have S_ := Lib.hid hor.rows
      clear hor
      clear hb HC  Z_5 K_5 R__5
      have HC := Lib.hid (HE.out ▸ equalRows_any _ _ _ _ _ _ (trF xs ss hs ks) (trF xs ss hs ks) w6 R__6.out S_.out)
      go_wp2_with fail
      refine HC.out.mono ?_
      rintro e w7 ⟨rfl, hq⟩
      have hb := hq.below (B := w6.heap.size)
      have Z_7 := Lib.hid (below_up Z_6.out hb)
      have K_7 := Lib.hid (blk_below K_6.out hb)
      have R__7 := Lib.hid (R__6.out.keep (Keep.below hb))
      have S__7 := Lib.hid (S_.out.keep (Keep.below hb))
      clear hb HC hq  Z_6 K_6 R__6 S_
      go_wp2
      go_ret
      exact ⟨rfl, below_up BB.out Z_7.out⟩
    obtain ⟨p, ⟨rfl, rfl, rfl, rfl⟩, -, ⟨rfl, rfl, rfl, rfl⟩, hv⟩ := H0.out.tv v
    have HV := Lib.hid hv
    clear hv
    have HE := Lib.hid (show eqRR (trF xs ss hs ks) (trF xs ss hs ks) = true by simp [eqRR])
    have q0 := blk_cell K.out (i := 0) rfl
    have q1 := blk_cell K.out (i := 1) rfl
    have q2 := blk_cell K.out (i := 2) rfl
    have q3 := blk_cell K.out (i := 3) rfl
    have HC := Lib.hid (TalkRests_impl _ _ _ _ _ _ _ _ _ _ _ _ xs ss hs ks (w1.alloc (.cells #[.slice (some ⟨p.b1, p.o1, none⟩) 2 p.c1, .slice (some ⟨p.b2, p.o2, none⟩) 2 p.c2, .slice (some ⟨p.b3, p.o3, none⟩) 2 p.c3, .slice (some ⟨p.b4, p.o4, none⟩) 2 p.c4] 26)) (H0.out.keep (Keep.below Z.out)))
    go_wp2_with fail
    clear q0 q1 q2 q3
    generalize w1.alloc (.cells #[.slice (some ⟨p.b1, p.o1, none⟩) 2 p.c1, .slice (some ⟨p.b2, p.o2, none⟩) 2 p.c2, .slice (some ⟨p.b3, p.o3, none⟩) 2 p.c3, .slice (some ⟨p.b4, p.o4, none⟩) 2 p.c4] 26) = w1a at *
    refine HC.out.mono ?_
    rintro e w2 ⟨ArR_, nr, crR_, grR_, rfl, hnr, hor, hb⟩
    have Z_2 := Lib.hid (below_up Z.out hb)
    have K_2 := Lib.hid (blk_below K.out hb)
    subst hnr
    have R_ := Lib.hid hor.rows
    clear hor
    clear hb HC  Z K
    have q0 := blk_cell K_2.out (i := 0) rfl
    have q1 := blk_cell K_2.out (i := 1) rfl
    have q2 := blk_cell K_2.out (i := 2) rfl
    have q3 := blk_cell K_2.out (i := 3) rfl
    have HC := Lib.hid (TalkRests_spec _ _ _ _ _ _ _ _ _ _ _ _ xs ss hs ks w2 (H0.out.keep (Keep.below Z_2.out)))
    go_wp2_with fail
    clear q0 q1 q2 q3
    refine HC.out.mono ?_
    rintro e w3 ⟨ArS_, nr, crS_, grS_, rfl, hnr, hor, hb⟩
    have Z_3 := Lib.hid (below_up Z_2.out hb)
    have K_3 := Lib.hid (blk_below K_2.out hb)
    have R__3 := Lib.hid (R_.out.keep (Keep.below hb))
    subst hnr
    have S_ := Lib.hid hor.rows
    clear hor
    clear hb HC  Z_2 K_2 R_
    have HC := Lib.hid (HE.out ▸ equalRows_any _ _ _ _ _ _ (trF xs ss hs ks) (trF xs ss hs ks) w3 R__3.out S_.out)
    go_wp2_with fail
    refine HC.out.mono ?_
    rintro e w4 ⟨rfl, hq⟩
    have hb := hq.below (B := w3.heap.size)
    have Z_4 := Lib.hid (below_up Z_3.out hb)
    have K_4 := Lib.hid (blk_below K_3.out hb)
    have R__4 := Lib.hid (R__3.out.keep (Keep.below hb))
    have S__4 := Lib.hid (S_.out.keep (Keep.below hb))
    clear hb HC hq  Z_3 K_3 R__3 S_
    clear S__4
    have q0 := blk_cell K_4.out (i := 0) rfl
    have q1 := blk_cell K_4.out (i := 1) rfl
    have q2 := blk_cell K_4.out (i := 2) rfl
    have q3 := blk_cell K_4.out (i := 3) rfl
    have HC := Lib.hid (pb_true v ▸ ValidTalk_impl _ _ _ _ _ _ _ _ _ _ _ _ xs ss hs ks w4 (H0.out.keep (Keep.below Z_4.out)))
    go_wp2_with fail
    clear q0 q1 q2 q3
    refine HC.out.mono ?_
    rintro e w5 ⟨rfl, hb⟩
    have Z_5 := Lib.hid (below_up Z_4.out hb)
    have K_5 := Lib.hid (blk_below K_4.out hb)
    have R__5 := Lib.hid (R__4.out.keep (Keep.below hb))
    clear hb HC  Z_4 K_4 R__4
    have HR := Lib.hid (fun k (hk : k < (trF xs ss hs ks).length) => trF_rest v hk)
    have HL := Lib.hid (trF_len xs ss hs ks)
    have HFD := Lib.hid (fun h => free_dumb v h)
    have HLW := Lib.hid (show LW p w1 xs ss hs ks ArR_ (trF xs ss hs ks).length crR_ (trF xs ss hs ks) w5 from ⟨Z_5.out, K_5.out, R__5.out⟩)
    clear Z_5 K_5 R__5 HE
    generalize trF xs ss hs ks = F at *
    have hl16 := HL.out
    go_wp2
    go_loopw [5] (fun i wr => ∃ k : Nat, k ≤ F.length ∧ i = .int .i64 k ∧ Hid (LW p w1 xs ss hs ks ArR_ F.length crR_ F wr)) (fun i _ => F.length - (intOf i).toNat)
    case atStart => exact ⟨0, Nat.zero_le _, rfl, HLW⟩
    case round =>
      clear HLW
      obtain ⟨k, hk, rfl, HLW⟩ := hrel
      by_cases hlt : k < F.length
      · obtain ⟨s, r, hs4, hr4, hg, hT⟩ := HR.out k hlt
        have HT := Lib.hid hT
        have HG := Lib.hid hg
        clear hT hg
        have q0 := blk_cell HLW.out.K (i := 0) rfl
        have q1 := blk_cell HLW.out.K (i := 1) rfl
        have q2 := blk_cell HLW.out.K (i := 2) rfl
        have q3 := blk_cell HLW.out.K (i := 3) rfl
        obtain ⟨b, o, b2, o2, cc, rfl, r1, d0, d1⟩ := row_at HLW.out.R hlt HG.out
        have HD := Lib.hid (HLW.out.up ((Below.refl _ _).drew))
        clear HLW
        go_wp2
        have SX := Lib.hid (show wr.cell? ⟨w1.heap.size, 0, none⟩ = some (.slice (some ⟨p.b1, p.o1, none⟩) 2 p.c1) ∧ wr.cell? ⟨w1.heap.size, 1, none⟩ = some (.slice (some ⟨p.b2, p.o2, none⟩) 2 p.c2) ∧ wr.cell? ⟨w1.heap.size, 2, none⟩ = some (.slice (some ⟨p.b3, p.o3, none⟩) 2 p.c3) ∧ wr.cell? ⟨w1.heap.size, 3, none⟩ = some (.slice (some ⟨p.b4, p.o4, none⟩) 2 p.c4) ∧ wr.cell? ⟨b, o + k, none⟩ = some (.slice (some ⟨b2, o2, none⟩) 2 cc) ∧ wr.cell? ⟨b2, o2, none⟩ = some (.int .i64 (s : Int)) ∧ wr.cell? ⟨b2, o2 + 1, none⟩ = some (.int .i64 (r : Int)) from (And.intro q0 (And.intro q1 (And.intro q2 (And.intro q3 (And.intro r1 (And.intro d0 d1)))))))
        have HC := Lib.hid (TalkPays_at wr.drew (H0.out.keep (Keep.below HD.out.Z)) v hs4 hr4)
        go_region_held3 (fun W => W.cell? ⟨w1.heap.size, 0, none⟩ = some (.slice (some ⟨p.b1, p.o1, none⟩) 2 p.c1) ∧ W.cell? ⟨w1.heap.size, 1, none⟩ = some (.slice (some ⟨p.b2, p.o2, none⟩) 2 p.c2) ∧ W.cell? ⟨w1.heap.size, 2, none⟩ = some (.slice (some ⟨p.b3, p.o3, none⟩) 2 p.c3) ∧ W.cell? ⟨w1.heap.size, 3, none⟩ = some (.slice (some ⟨p.b4, p.o4, none⟩) 2 p.c4) ∧ W.cell? ⟨b, o + k, none⟩ = some (.slice (some ⟨b2, o2, none⟩) 2 cc) ∧ W.cell? ⟨b2, o2, none⟩ = some (.int .i64 (s : Int)) ∧ W.cell? ⟨b2, o2 + 1, none⟩ = some (.int .i64 (r : Int)))
          (first | exact SX.out | go_keep)
          ((go_at_call 18; (with_reducible refine HC.out.mono ?_); rintro e w20 ⟨Ap, cp, gp, rfl, hop, -, hb⟩; have SX := Lib.hid (And.intro (Keep.below hb _ _ SX.out.1) (And.intro (Keep.below hb _ _ SX.out.2.1) (And.intro (Keep.below hb _ _ SX.out.2.2.1) (And.intro (Keep.below hb _ _ SX.out.2.2.2.1) (And.intro (Keep.below hb _ _ SX.out.2.2.2.2.1) (And.intro (Keep.below hb _ _ SX.out.2.2.2.2.2.1) (Keep.below hb _ _ SX.out.2.2.2.2.2.2))))))); have HP := Lib.hid (show LP p w1 xs ss hs ks (some ⟨b, o, none⟩) F.length crR_ F Ap cp (spk ss ks s r 0) (spk ss ks s r 1) w20 from ⟨HD.out.up hb, hop.ints⟩); clear hb hop HC))
        clear SX q0 q1 q2 q3 r1 d0 d1
        clear HD
        generalize hX : spk ss ks s r 0 = X at *
        generalize hY : spk ss ks s r 1 = Y at *
        generalize hE : hea xs hs s r = E at *
        have HXY := Lib.hid (And.intro hX (And.intro hY hE))
        clear hX hY hE
        go_wp2
        go_loopw [8] (fun i wr => ∃ x : Nat, x ≤ 4 ∧ i = .int .i64 x ∧ Hid (LP p w1 xs ss hs ks (some ⟨b, o, none⟩) F.length crR_ F Ap cp X Y wr)) (fun i _ => 4 - (intOf i).toNat)
        case atStart => exact ⟨0, by omega, rfl, HP⟩
        case round =>
          clear HP
          obtain ⟨x, hx, rfl, HP⟩ := hrel
          by_cases hx4 : x < 4
          · have hxi : (x : Int) < 4 := by omega
            have q0 := blk_cell HP.out.l.K (i := 0) rfl
            have q1 := blk_cell HP.out.l.K (i := 1) rfl
            have q2 := blk_cell HP.out.l.K (i := 2) rfl
            have q3 := blk_cell HP.out.l.K (i := 3) rfl
            obtain ⟨bb, oo, b2, o2, cc, eA, r1, d0, d1⟩ := row_at HP.out.l.R hlt HG.out
            injection eA with eA
            injection eA with e1 e2 _
            subst e1
            subst e2
            have HD := Lib.hid (HP.out.up ((Below.refl _ _).drew))
            clear HP
            go_wp2
            have SX := Lib.hid (show wr.cell? ⟨w1.heap.size, 0, none⟩ = some (.slice (some ⟨p.b1, p.o1, none⟩) 2 p.c1) ∧ wr.cell? ⟨w1.heap.size, 1, none⟩ = some (.slice (some ⟨p.b2, p.o2, none⟩) 2 p.c2) ∧ wr.cell? ⟨w1.heap.size, 2, none⟩ = some (.slice (some ⟨p.b3, p.o3, none⟩) 2 p.c3) ∧ wr.cell? ⟨w1.heap.size, 3, none⟩ = some (.slice (some ⟨p.b4, p.o4, none⟩) 2 p.c4) ∧ wr.cell? ⟨b, o + k, none⟩ = some (.slice (some ⟨b2, o2, none⟩) 2 cc) ∧ wr.cell? ⟨b2, o2 + 1, none⟩ = some (.int .i64 (r : Int)) from (And.intro q0 (And.intro q1 (And.intro q2 (And.intro q3 (And.intro r1 d1))))))
            have HC := Lib.hid (TalkPays_at wr.drew (H0.out.keep (Keep.below HD.out.l.Z)) v hx4 hr4)
            go_region_held3 (fun W => W.cell? ⟨w1.heap.size, 0, none⟩ = some (.slice (some ⟨p.b1, p.o1, none⟩) 2 p.c1) ∧ W.cell? ⟨w1.heap.size, 1, none⟩ = some (.slice (some ⟨p.b2, p.o2, none⟩) 2 p.c2) ∧ W.cell? ⟨w1.heap.size, 2, none⟩ = some (.slice (some ⟨p.b3, p.o3, none⟩) 2 p.c3) ∧ W.cell? ⟨w1.heap.size, 3, none⟩ = some (.slice (some ⟨p.b4, p.o4, none⟩) 2 p.c4) ∧ W.cell? ⟨b, o + k, none⟩ = some (.slice (some ⟨b2, o2, none⟩) 2 cc) ∧ W.cell? ⟨b2, o2 + 1, none⟩ = some (.int .i64 (r : Int)))
              (first | exact SX.out | go_keep)
              ((go_at_call 18; (with_reducible refine HC.out.mono ?_); rintro e w30 ⟨Ap30, cp30, gp, rfl, hop, -, hb⟩; have SX := Lib.hid (And.intro (Keep.below hb _ _ SX.out.1) (And.intro (Keep.below hb _ _ SX.out.2.1) (And.intro (Keep.below hb _ _ SX.out.2.2.1) (And.intro (Keep.below hb _ _ SX.out.2.2.2.1) (And.intro (Keep.below hb _ _ SX.out.2.2.2.2.1) (Keep.below hb _ _ SX.out.2.2.2.2.2)))))); have HP2 := Lib.hid (HD.out.up hb); have HO := Lib.hid hop.ints; clear hb hop HC))
            clear SX q0 q1 q2 q3 r1 d1
            clear HD
            have hdv := HT.out x hx4
            unfold Dev at hdv
            rw [HXY.out.1, HXY.out.2.1, HXY.out.2.2] at hdv
            have HDV := Lib.hid hdv
            clear hdv
            generalize spk ss ks x r 0 = U at *
            generalize spk ss ks x r 1 = U2 at *
            generalize hea xs hs x r = U3 at *
            go_wp2
            have q0 := blk_cell HP2.out.l.K (i := 0) rfl
            have q1 := blk_cell HP2.out.l.K (i := 1) rfl
            have q2 := blk_cell HP2.out.l.K (i := 2) rfl
            have q3 := blk_cell HP2.out.l.K (i := 3) rfl
            obtain ⟨bb, oo, b2, o2, cc, eA, r1, d0, d1⟩ := row_at HP2.out.l.R hlt HG.out
            injection eA with eA
            injection eA with e1 e2 _
            subst e1
            subst e2
            have HD := Lib.hid (HP2.out.up ((Below.refl _ _).drew))
            clear HP2
            have SX := Lib.hid (show w30.cell? ⟨w1.heap.size, 0, none⟩ = some (.slice (some ⟨p.b1, p.o1, none⟩) 2 p.c1) ∧ w30.cell? ⟨w1.heap.size, 1, none⟩ = some (.slice (some ⟨p.b2, p.o2, none⟩) 2 p.c2) ∧ w30.cell? ⟨w1.heap.size, 2, none⟩ = some (.slice (some ⟨p.b3, p.o3, none⟩) 2 p.c3) ∧ w30.cell? ⟨w1.heap.size, 3, none⟩ = some (.slice (some ⟨p.b4, p.o4, none⟩) 2 p.c4) ∧ w30.cell? ⟨b, o + k, none⟩ = some (.slice (some ⟨b2, o2, none⟩) 2 cc) ∧ w30.cell? ⟨b2, o2, none⟩ = some (.int .i64 (s : Int)) from (And.intro q0 (And.intro q1 (And.intro q2 (And.intro q3 (And.intro r1 d0))))))
            have HC := Lib.hid (TalkPays_at w30.drew (H0.out.keep (Keep.below HD.out.l.Z)) v hs4 hx4)
            go_region_held3 (fun W => W.cell? ⟨w1.heap.size, 0, none⟩ = some (.slice (some ⟨p.b1, p.o1, none⟩) 2 p.c1) ∧ W.cell? ⟨w1.heap.size, 1, none⟩ = some (.slice (some ⟨p.b2, p.o2, none⟩) 2 p.c2) ∧ W.cell? ⟨w1.heap.size, 2, none⟩ = some (.slice (some ⟨p.b3, p.o3, none⟩) 2 p.c3) ∧ W.cell? ⟨w1.heap.size, 3, none⟩ = some (.slice (some ⟨p.b4, p.o4, none⟩) 2 p.c4) ∧ W.cell? ⟨b, o + k, none⟩ = some (.slice (some ⟨b2, o2, none⟩) 2 cc) ∧ W.cell? ⟨b2, o2, none⟩ = some (.int .i64 (s : Int)))
              (first | exact SX.out | go_keep)
              ((go_at_call 18; (with_reducible refine HC.out.mono ?_); rintro e w40 ⟨Ap40, cp40, gp, rfl, hop, -, hb⟩; have SX := Lib.hid (And.intro (Keep.below hb _ _ SX.out.1) (And.intro (Keep.below hb _ _ SX.out.2.1) (And.intro (Keep.below hb _ _ SX.out.2.2.1) (And.intro (Keep.below hb _ _ SX.out.2.2.2.1) (And.intro (Keep.below hb _ _ SX.out.2.2.2.2.1) (Keep.below hb _ _ SX.out.2.2.2.2.2)))))); have HP3 := Lib.hid (HD.out.up hb); have HO2 := Lib.hid (HO.out.keep (Keep.below (below_up ((Below.refl _ _).drew) hb))); clear hb hop HC))
            clear SX q0 q1 q2 q3 r1 d0
            clear HD HO
            generalize hea xs hs s x = M at *
            generalize [spk ss ks s x 0, spk ss ks s x 1] = L4 at *
            obtain ⟨ba, oa, rfl, a0, a1⟩ := ints2_at HO2.out
            obtain ⟨bp, op, e1, c0, c1⟩ := ints2_at HP3.out.P
            rw [e1]
            have f1 : decide (X < U) = false := by have := HDV.out; simp; omega
            have f2 : decide (Y < U2) = false := by have := HDV.out; simp; omega
            have f3 : decide (E < M) = false := by have := HDV.out; simp; omega
            go_wp2
            go_quiet (fail)
            clear a0 a1 c0 c1 f1 f2 f3
            rw [← e1]
            clear e1
            have HP4 := Lib.hid (HP3.out.up (Quiet.below ⟨nq, rfl⟩))
            go_wp2
            go_roundw
            case rel => exact ⟨x + 1, by omega, by go_num, HP4⟩
            case measure => simp [intOf]; omega
          · obtain rfl : x = 4 := by omega
            have HL2 := Lib.hid HP.out.l
            go_wp2
            go_roundw
            case rel => exact ⟨k + 1, by omega, by go_num, HL2⟩
            case measure => simp [intOf]; omega
      · obtain rfl : k = F.length := by omega
        have HT := Lib.hid (HV.out.keep (Keep.below HLW.out.Z))
        have q3 := blk_cell HLW.out.K (i := 3) rfl
        have y0 := HT.out.t4.row 0 (by omega)
        have y1 := HT.out.t4.row 1 (by omega)
        simp only [Nat.add_zero] at y0
        have v4 := v.2.2.2
        have s0 : SumOk (gr ks 0) := SumOk.of_small (B := 9) (by rw [v4.2.1.1]; omega) (fun j hj => by rw [v4.2.1.1] at hj; have := v4.bd (i := 0) (by omega) hj; exact ⟨by show -9 ≤ g2 ks 0 j; omega, this.2⟩) (by omega)
        have s1 : SumOk (gr ks 1) := SumOk.of_small (B := 9) (by rw [v4.2.2.1]; omega) (fun j hj => by rw [v4.2.2.1] at hj; have := v4.bd (i := 1) (by omega) hj; exact ⟨by show -9 ≤ g2 ks 1 j; omega, this.2⟩) (by omega)
        have QX := Lib.hid (fun W (h : Quiet wr W) => total_any _ 2 _ (gr ks 0) W ((HT.out.t4.ints 0 (by omega)).keep (Keep.quiet h)) s0)
        have QY := Lib.hid (fun W (h : Quiet wr W) => total_any _ 2 _ (gr ks 1) W ((HT.out.t4.ints 1 (by omega)).keep (Keep.quiet h)) s1)
        have b0 : 0 ≤ tot (gr ks 0) ∧ tot (gr ks 0) ≤ 18 := by rw [tot2 v4.2.1.1]; have a := v4.bd (i := 0) (j := 0) (by omega) (by omega); have b := v4.bd (i := 0) (j := 1) (by omega) (by omega); simp only [g2] at a b; omega
        have b1 : 0 ≤ tot (gr ks 1) ∧ tot (gr ks 1) ≤ 18 := by rw [tot2 v4.2.2.1]; have a := v4.bd (i := 1) (j := 0) (by omega) (by omega); have b := v4.bd (i := 1) (j := 1) (by omega) (by omega); simp only [g2] at a b; omega
        have HFD2 := Lib.hid HFD.out
        clear s0 s1 v4 HT
        generalize tot (gr ks 0) = T0 at *
        generalize tot (gr ks 1) = T1 at *
        have hwt : IntKind.i64.wrap (T0 + T1) = T0 + T1 := wrapIn (by omega)
        have HEND := Lib.hid (show ∀ b : Bool, (b = true → ∃ j, j < F.length ∧ dmB F j) → (!b || pb (∃ j, j < F.length ∧ dmB F j)) = true from fun b h => by
          cases b with
          | false => rfl
          | true => rw [pb_true (h rfl)]; rfl)
        clear b0 b1
        by_cases hf : T0 + T1 = 0
        · have hf' : ((T0 + T1) == 0) = true := by simp [hf]
          have HDM := Lib.hid (pb_true (HFD2.out hf))
          clear hf HFD2 HFD HEND
          go_wp2
          go_quiet ((go_at_call 26; (first | (with_reducible refine quiet_fit (QX.out _ ?_) (fun m => ?_)) | (with_reducible refine quiet_fit (QY.out _ ?_) (fun m => ?_))); (first | exact ⟨_, rfl⟩ | exact Quiet.two _ _ _); (first | exact drewN_to1 _ _ _ | exact drewN_to2 _ _ _ _)))
          clear q3 y0 y1 QX QY hwt hf'
          have HLX := Lib.hid (HLW.out.up (Quiet.below ⟨nq, rfl⟩))
          clear HLW
          go_wp2
          obtain ⟨wA, hwA⟩ : ∃ wA, wA = wr := ⟨_, rfl⟩
          subst hwA
          go_loopw [14, 15] (fun b i wr => ∃ k : Nat, k ≤ F.length ∧ i = .int .i64 k ∧ b = .bool (pb (∃ j : Nat, j < k ∧ dmB F j)) ∧ Hid (LW p w1 xs ss hs ks ArR_ F.length crR_ F wr)) (fun _ i _ => F.length - (intOf i).toNat)
          case atStart => exact ⟨0, Nat.zero_le _, rfl, by rw [pb_false (fun ⟨j, hj, _⟩ => absurd hj (by omega))], HLX⟩
          case round =>
            clear HLX
            obtain ⟨k, hk, rfl, rfl, HLX⟩ := hrel
            by_cases hlt : k < F.length
            · obtain ⟨s, r, hs4, hr4, hg, hT⟩ := HR.out k hlt
              clear hT
              obtain ⟨b, o, b2, o2, cc, eA, r1, d0, d1⟩ := row_at HLX.out.R hlt hg
              have hdm : dmB F k ↔ s = 0 ∨ s = 3 := by unfold dmB; rw [hg]; simp only [gi, List.getD_cons_zero]; omega
              have HST := Lib.hid (show (∃ j : Nat, j < k + 1 ∧ dmB F j) ↔ (∃ j : Nat, j < k ∧ dmB F j) ∨ s = 0 ∨ s = 3 from ⟨fun ⟨j, hj, hp⟩ => by
                  by_cases e : j < k
                  · exact .inl ⟨j, e, hp⟩
                  · obtain rfl : j = k := by omega
                    exact .inr (hdm.1 hp), fun h => by
                  rcases h with ⟨j, hj, hp⟩ | hp
                  · exact ⟨j, by omega, hp⟩
                  · exact ⟨k, by omega, hdm.2 hp⟩⟩)
              clear hdm hg
              rw [eA]
              by_cases hd : ∃ j : Nat, j < k ∧ dmB F j
              · rw [pb_true hd]
                have HN := Lib.hid (pb_true (HST.out.2 (.inl hd)))
                clear hd HST
                go_wp2
                rw [← eA]
                go_roundw
                case rel => exact ⟨k + 1, by omega, by go_num, by rw [HN.out], HLX⟩
                case measure => simp [intOf]; omega
              · rw [pb_false hd]
                have cs : s = 0 ∨ s = 1 ∨ s = 2 ∨ s = 3 := by omega
                rcases cs with rfl | rfl | rfl | rfl
                all_goals
                  first
                  | (have HN := Lib.hid (pb_true (HST.out.2 (.inr (by omega)))); clear hd HST hs4; go_wp2; rw [← eA]; go_roundw; (case rel => exact ⟨k + 1, by omega, by go_num, by rw [HN.out], HLX⟩); (case measure => simp [intOf]; omega))
                  | (have HN := Lib.hid (pb_false (fun h => (HST.out.1 h).elim hd (by omega))); clear hd HST hs4; go_wp2; rw [← eA]; go_roundw; (case rel => exact ⟨k + 1, by omega, by go_num, by rw [HN.out], HLX⟩); (case measure => simp [intOf]; omega))
                  | fail
            · obtain rfl : k = F.length := by omega
              rw [HDM.out]
              go_wp2
              go_ret
              exact ⟨rfl, below_up BB.out HLX.out.Z⟩
        · have hf' : ((T0 + T1) == 0) = false := by simp [hf]
          clear hf HFD2 HFD HEND
          go_wp2
          go_quiet ((go_at_call 26; (first | (with_reducible refine quiet_fit (QX.out _ ?_) (fun m => ?_)) | (with_reducible refine quiet_fit (QY.out _ ?_) (fun m => ?_))); (first | exact ⟨_, rfl⟩ | exact Quiet.two _ _ _); (first | exact drewN_to1 _ _ _ | exact drewN_to2 _ _ _ _)))
          clear q3 y0 y1 QX QY hwt hf'
          have HLX := Lib.hid (HLW.out.up (Quiet.below ⟨nq, rfl⟩))
          clear HLW
          go_wp2
          obtain ⟨wA, hwA⟩ : ∃ wA, wA = wr := ⟨_, rfl⟩
          subst hwA
          go_loopw [14, 15] (fun b i wr => ∃ k : Nat, k ≤ F.length ∧ i = .int .i64 k ∧ b = .bool (pb (∃ j : Nat, j < k ∧ dmB F j)) ∧ Hid (LW p w1 xs ss hs ks ArR_ F.length crR_ F wr)) (fun _ i _ => F.length - (intOf i).toNat)
          case atStart => exact ⟨0, Nat.zero_le _, rfl, by rw [pb_false (fun ⟨j, hj, _⟩ => absurd hj (by omega))], HLX⟩
          case round =>
            clear HLX
            obtain ⟨k, hk, rfl, rfl, HLX⟩ := hrel
            by_cases hlt : k < F.length
            · obtain ⟨s, r, hs4, hr4, hg, hT⟩ := HR.out k hlt
              clear hT
              obtain ⟨b, o, b2, o2, cc, eA, r1, d0, d1⟩ := row_at HLX.out.R hlt hg
              have hdm : dmB F k ↔ s = 0 ∨ s = 3 := by unfold dmB; rw [hg]; simp only [gi, List.getD_cons_zero]; omega
              have HST := Lib.hid (show (∃ j : Nat, j < k + 1 ∧ dmB F j) ↔ (∃ j : Nat, j < k ∧ dmB F j) ∨ s = 0 ∨ s = 3 from ⟨fun ⟨j, hj, hp⟩ => by
                  by_cases e : j < k
                  · exact .inl ⟨j, e, hp⟩
                  · obtain rfl : j = k := by omega
                    exact .inr (hdm.1 hp), fun h => by
                  rcases h with ⟨j, hj, hp⟩ | hp
                  · exact ⟨j, by omega, hp⟩
                  · exact ⟨k, by omega, hdm.2 hp⟩⟩)
              clear hdm hg
              rw [eA]
              by_cases hd : ∃ j : Nat, j < k ∧ dmB F j
              · rw [pb_true hd]
                have HN := Lib.hid (pb_true (HST.out.2 (.inl hd)))
                clear hd HST
                go_wp2
                rw [← eA]
                go_roundw
                case rel => exact ⟨k + 1, by omega, by go_num, by rw [HN.out], HLX⟩
                case measure => simp [intOf]; omega
              · rw [pb_false hd]
                have cs : s = 0 ∨ s = 1 ∨ s = 2 ∨ s = 3 := by omega
                rcases cs with rfl | rfl | rfl | rfl
                all_goals
                  first
                  | (have HN := Lib.hid (pb_true (HST.out.2 (.inr (by omega)))); clear hd HST hs4; go_wp2; rw [← eA]; go_roundw; (case rel => exact ⟨k + 1, by omega, by go_num, by rw [HN.out], HLX⟩); (case measure => simp [intOf]; omega))
                  | (have HN := Lib.hid (pb_false (fun h => (HST.out.1 h).elim hd (by omega))); clear hd HST hs4; go_wp2; rw [← eA]; go_roundw; (case rel => exact ⟨k + 1, by omega, by go_num, by rw [HN.out], HLX⟩); (case measure => simp [intOf]; omega))
                  | fail
            · obtain rfl : k = F.length := by omega
              go_wp2
              go_ret
              exact ⟨rfl, below_up BB.out HLX.out.Z⟩

set_option maxRecDepth 100000 in
theorem hFnTalkRests_lifted (os : Os) (started : os.Started) (H : Type) (enc : TypeId × Value → H) :
    ReturnsInHanded {} Try.checked os 5 .any (Rows.fnTalkRestsSpec.pre6 enc Try.prog Try.f5 Rows.fnTalkRestsRow.domain false) (Rows.fnTalkRestsSpec.post enc Try.prog Try.f5 false true false false) := by
  refine returnsInHanded_of_change_sized (C := Try.checked) Try.own started (by kernel_rfl) Try.func5
    (ChangeSpec.witness6 (enc := enc) (C := Try.checked) false ⟨#[], #[.slice none 0 0], []⟩ 8 (by kernel_rfl) (by kernel_rfl) (by kernel_rfl) (by kernel_rfl)) ?_
  intro W base args ds gs before hval0 hW _ hwt _
  have hval : ∀ (j : Nat) t v, Try.f5.params[j]? = some t → args[j]? = some v → Value.okWide Try.prog W .any base t v := hval0
  have hA : ∃ p, DataW.TrodAll enc Try.prog W 0 (fun _ => true) true Try.f5.params.toList args.toList ds p := by obtain ⟨p, q, hA0, _⟩ := hW; exact ⟨p, hA0⟩
  obtain ⟨p, hA⟩ := hA
  have hwt' := weights_arg hwt (j := 0) (t := 22) (by rw [Try.params5]; rfl) (d := ds.getD 0 .nil)
  rw [Try.params5] at hA hval
  obtain ⟨v0, d0, rfl, rfl, h0⟩ := trodAll_one hA
  obtain ⟨A, n, c, rfl, hx⟩ := open_bytes (hval 0 22 v0 rfl rfl) h0 (hwt' rfl)
  refine (fnTalkRests_calls A n c W hx).mono fun e W' ⟨he, hb⟩ => ?_
  subst he
  exact ⟨_, rfl, law_post (F := Try.f5) rfl rfl (by rw [Try.params5]; simp only [List.mem_cons, List.not_mem_nil, or_false, forall_eq]; exact ⟨by kernel_rfl, of_decide_eq_true (by kernel_rfl)⟩) hW (fun h => by subst h; rfl) hb⟩

theorem hFnTalkRests_holds : Rows.FnTalkRestsSaid :=
  OpenClaim.holds_of_wide 5 Try.f5 rfl rfl rfl rfl rfl rfl rfl ⟨rfl, rfl, rfl, rfl, rfl⟩ rfl rfl rfl rfl rfl (by kernel_rfl) Try.func5
    (by unfold joinedFacts; simp only [Bool.and_eq_true]; (repeat' apply And.intro) <;> (first | (with_reducible exact prog_enters) | ((with_reducible refine prog_lifts ?_); rfl) | ((with_reducible refine prog_make ?_); rfl) | kernel_rfl))
    (of_decide_eq_true (by kernel_rfl)) (by unfold Func.isWrapper; first | (rw [if_pos (by decide +kernel)]; kernel_rfl) | (rw [if_neg (by decide +kernel)]; exact ⟨rfl, rfl⟩))
    (fun os started H enc _ => hFnTalkRests_lifted os started H enc)

end Go.Proofs.Ytcjanlbhgfadpaa
