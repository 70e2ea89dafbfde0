/- The law FnOneLessIsTheSame holds: for every code, of what it draws, the chance of sizes of kinds is that of all sizes of one thing more, when one of these things, each one as likely, is taken away. No condition. -/
import Derived.Test.YtpchnoalamdhkaaQ13
namespace Go.Proofs.Ytpchnoalamdhkaa
open Go.ChangeShapes Go.WideShapes Go.ChangeAt Go.RowKit Go.Deep

set_option maxRecDepth 100000 in
set_option maxHeartbeats 3200000 in
theorem fnOneLessIsTheSame_calls (A : Option Addr) (n c : Nat) (w : World) (hx : Bytes w A n c) :
    Calls Try.prog 10 #[.slice A n c] w fun e w' => e = .returned (.bool true) ∧ Below w.heap.size w w' := by
  have hmx := hx.max
  have H0 := Lib.hid (DrawKindsByProduct_any A n c w hx)
  clear hx
  by_cases hs : 1048576 < n
  · go_enter Try.func10, Try.ntmps10
    go_wp2
    go_ret
    exact ⟨rfl, Below.refl _ _⟩
  · go_enter Try.func10, Try.ntmps10
    go_wp2_with fail
    refine H0.out.mono ?_
    rintro e w1 ⟨Av, cv, gg, xs, f, rfl, ⟨f0, f7⟩, hd, hl8, hown, hb⟩
    have X := Lib.hid hown.ints
    have B1 := Lib.hid hb
    have HCI := Lib.hid (fun W h => KindsByProduct_impl Av xs.length cv xs f W h (by unfold Fit; omega))
    have HCS := Lib.hid (fun W h => KindsByProduct_spec Av xs.length cv xs f W h (by unfold Fit; omega))
    clear hown hb H0 hd hl8
    by_cases hq : KQ xs f
    · obtain ⟨m, hF⟩ := ku_facts hq
      have hm1 := hF.m1
      have hm7 := hF.m7
      have HT := Lib.hid (fun W h => hF.tot ▸ total_any Av xs.length cv xs W h hq.1.so)
      have hK := kp_ku hq
      rw [kp_yes hq, pb_true hq, ← hK.1, ← hK.2] at HCI HCS
      unfold kuU kuD at HCI HCS
      rw [hF.tot, Int.toNat_natCast] at HCI HCS
      have hf := hq.2
      have hxl := hq.1.2.1
      unfold InR at hf
      obtain ⟨hf1, hf6⟩ := hf
      have HMB := Lib.hid hF.mem
      have HVX := Lib.hid hq.1
      have HFP := Lib.hid hF.pos
      have HCP := Lib.hid (fun W => PartsOf_impl ((m : Int) + 1) W (by unfold Fit; omega))
      have HZ : Hid (frV 0 1 = .agg #[.int .i64 0, .int .i64 1]) := Lib.hid (by rw [frV, (fr_one 0).1, (fr_one 0).2])
      have HC0 := Lib.hid (fun W => HZ.out ▸ fracOfH_any 0 1 W (by unfold Hug; omega) (by unfold Hug; omega) (by omega))
      have HUD := Lib.hid (And.intro (Eq.refl (frU (uw m xs f) (mkD f m))) (Eq.refl (frD (uw m xs f) (mkD f m))))
      clear hq hF hK HZ
      by_cases h7 : m = 7
      · obtain rfl := h7
        have HPE : Hid (ptV (((7 : Nat) : Int) + 1) = []) := Lib.hid (pt_no (by unfold InR; omega))
        rw [HPE.out] at HCP
        clear HPE HUD
        generalize frU (uw 7 xs f) (mkD f 7) = U at *
        generalize frD (uw 7 xs f) (mkD f 7) = D at *
        generalize hN : xs.length = N at *
        clear hN
        have HC := Lib.hid (HCI.out w1 X.out)
        go_wp2_with fail
        refine HC.out.mono ?_
        rintro e w2 ⟨rfl, hb⟩
        have X_2 := Lib.hid (X.out.keep (Keep.below hb))
        have B_2 := Lib.hid (below_up B1.out hb)
        clear hb HC X B1
        have hal := below_alloc w2 (.cells #[.int .i64 U, .int .i64 D] 39)
        have X_2b := Lib.hid (X_2.out.keep (Keep.below hal))
        have B_2b := Lib.hid (below_up B_2.out hal)
        have P0 := Lib.hid (blk_cell (blk_new w2 39 #[.int .i64 U, .int .i64 D]) (i := 0) (v := .int .i64 U) rfl)
        have P1 := Lib.hid (blk_cell (blk_new w2 39 #[.int .i64 U, .int .i64 D]) (i := 1) (v := .int .i64 D) rfl)
        clear hal X_2 B_2
        have HC := Lib.hid (HCS.out (w2.alloc (.cells #[.int .i64 U, .int .i64 D] 39)) X_2b.out)
        go_wp2_with fail
        generalize w2.alloc (.cells #[.int .i64 U, .int .i64 D] 39) = w2a at *
        generalize w2.heap.size = h2a at *
        refine HC.out.mono ?_
        rintro e w3 ⟨rfl, hb⟩
        have X_3 := Lib.hid (X_2b.out.keep (Keep.below hb))
        have P0_3 := Lib.hid (Keep.below hb _ _ P0.out)
        have P1_3 := Lib.hid (Keep.below hb _ _ P1.out)
        have B_3 := Lib.hid (below_up B_2b.out hb)
        clear hb HC X_2b P0 P1 B_2b
        have hal := below_alloc w3 (.cells #[.int .i64 U, .int .i64 D] 39)
        have X_3b := Lib.hid (X_3.out.keep (Keep.below hal))
        have P0_3b := Lib.hid (Keep.below hal _ _ P0_3.out)
        have P1_3b := Lib.hid (Keep.below hal _ _ P1_3.out)
        have B_3b := Lib.hid (below_up B_3.out hal)
        have E0 := Lib.hid (blk_cell (blk_new w3 39 #[.int .i64 U, .int .i64 D]) (i := 0) (v := .int .i64 U) rfl)
        have E1 := Lib.hid (blk_cell (blk_new w3 39 #[.int .i64 U, .int .i64 D]) (i := 1) (v := .int .i64 D) rfl)
        clear hal X_3 P0_3 P1_3 B_3
        have HC := Lib.hid (HCI.out (w3.alloc (.cells #[.int .i64 U, .int .i64 D] 39)) X_3b.out)
        have q_P0 := P0_3b.out
        have q_P1 := P1_3b.out
        have q_E0 := E0.out
        have q_E1 := E1.out
        go_wp2_with fail
        generalize w3.alloc (.cells #[.int .i64 U, .int .i64 D] 39) = w3a at *
        generalize w3.heap.size = h3a at *
        refine HC.out.mono ?_
        rintro e w4 ⟨rfl, hb⟩
        have X_4 := Lib.hid (X_3b.out.keep (Keep.below hb))
        have P0_4 := Lib.hid (Keep.below hb _ _ P0_3b.out)
        have P1_4 := Lib.hid (Keep.below hb _ _ P1_3b.out)
        have E0_4 := Lib.hid (Keep.below hb _ _ E0.out)
        have E1_4 := Lib.hid (Keep.below hb _ _ E1.out)
        have B_4 := Lib.hid (below_up B_3b.out hb)
        clear hb HC X_3b P0_3b P1_3b E0 E1 B_3b q_P0 q_P1 q_E0 q_E1
        have hal := below_alloc w4 (.cells #[.int .i64 U, .int .i64 D] 39)
        have X_4b := Lib.hid (X_4.out.keep (Keep.below hal))
        have P0_4b := Lib.hid (Keep.below hal _ _ P0_4.out)
        have P1_4b := Lib.hid (Keep.below hal _ _ P1_4.out)
        have E0_4b := Lib.hid (Keep.below hal _ _ E0_4.out)
        have E1_4b := Lib.hid (Keep.below hal _ _ E1_4.out)
        have B_4b := Lib.hid (below_up B_4.out hal)
        have L0 := Lib.hid (blk_cell (blk_new w4 39 #[.int .i64 U, .int .i64 D]) (i := 0) (v := .int .i64 U) rfl)
        have L1 := Lib.hid (blk_cell (blk_new w4 39 #[.int .i64 U, .int .i64 D]) (i := 1) (v := .int .i64 D) rfl)
        clear hal X_4 P0_4 P1_4 E0_4 E1_4 B_4
        have HC := Lib.hid (HT.out (w4.alloc (.cells #[.int .i64 U, .int .i64 D] 39)) X_4b.out)
        go_wp2_with fail
        generalize w4.alloc (.cells #[.int .i64 U, .int .i64 D] 39) = w4a at *
        generalize w4.heap.size = h4a at *
        refine HC.out.mono ?_
        rintro e w5 ⟨rfl, hq⟩
        have hb := hq.below (B := w4a.heap.size)
        have X_5 := Lib.hid (X_4b.out.keep (Keep.below hb))
        have P0_5 := Lib.hid (Keep.below hb _ _ P0_4b.out)
        have P1_5 := Lib.hid (Keep.below hb _ _ P1_4b.out)
        have E0_5 := Lib.hid (Keep.below hb _ _ E0_4b.out)
        have E1_5 := Lib.hid (Keep.below hb _ _ E1_4b.out)
        have L0_5 := Lib.hid (Keep.below hb _ _ L0.out)
        have L1_5 := Lib.hid (Keep.below hb _ _ L1.out)
        have B_5 := Lib.hid (below_up B_4b.out hb)
        clear hb HC hq X_4b P0_4b P1_4b E0_4b E1_4b L0 L1 B_4b
        have HC := Lib.hid (HCP.out w5)
        go_wp2_with fail
        refine HC.out.mono ?_
        rintro e w6 ⟨Al, nl, cl, gl, rfl, hnl, ho, hb⟩
        have X_6 := Lib.hid (X_5.out.keep (Keep.below hb))
        have P0_6 := Lib.hid (Keep.below hb _ _ P0_5.out)
        have P1_6 := Lib.hid (Keep.below hb _ _ P1_5.out)
        have E0_6 := Lib.hid (Keep.below hb _ _ E0_5.out)
        have E1_6 := Lib.hid (Keep.below hb _ _ E1_5.out)
        have L0_6 := Lib.hid (Keep.below hb _ _ L0_5.out)
        have L1_6 := Lib.hid (Keep.below hb _ _ L1_5.out)
        have B_6 := Lib.hid (below_up B_5.out hb)
        subst hnl
        have T := Lib.hid ho
        have HLO := Lib.hid (And.intro hb.size hb.size)
        clear ho
        clear hb HC X_5 P0_5 P1_5 E0_5 E1_5 L0_5 L1_5 B_5
        have HC := Lib.hid (HC0.out w6)
        go_wp2_with fail
        refine HC.out.mono ?_
        rintro e w7 ⟨rfl, hb⟩
        have X_7 := Lib.hid (X_6.out.keep (Keep.below hb))
        have P0_7 := Lib.hid (Keep.below hb _ _ P0_6.out)
        have P1_7 := Lib.hid (Keep.below hb _ _ P1_6.out)
        have E0_7 := Lib.hid (Keep.below hb _ _ E0_6.out)
        have E1_7 := Lib.hid (Keep.below hb _ _ E1_6.out)
        have L0_7 := Lib.hid (Keep.below hb _ _ L0_6.out)
        have L1_7 := Lib.hid (Keep.below hb _ _ L1_6.out)
        have B_7 := Lib.hid (below_up B_6.out hb)
        have T2 := Lib.hid (T.out.below hb)
        clear hb HC X_6 P0_6 P1_6 E0_6 E1_6 L0_6 L1_6 B_6
        have hal := below_alloc w7 (.cells #[.int .i64 0, .int .i64 1] 39)
        have X_7b := Lib.hid (X_7.out.keep (Keep.below hal))
        have P0_7b := Lib.hid (Keep.below hal _ _ P0_7.out)
        have P1_7b := Lib.hid (Keep.below hal _ _ P1_7.out)
        have E0_7b := Lib.hid (Keep.below hal _ _ E0_7.out)
        have E1_7b := Lib.hid (Keep.below hal _ _ E1_7.out)
        have L0_7b := Lib.hid (Keep.below hal _ _ L0_7.out)
        have L1_7b := Lib.hid (Keep.below hal _ _ L1_7.out)
        have B_7b := Lib.hid (below_up B_7.out hal)
        have S0 := Lib.hid (blk_cell (blk_new w7 39 #[.int .i64 0, .int .i64 1]) (i := 0) (v := .int .i64 0) rfl)
        have S1 := Lib.hid (blk_cell (blk_new w7 39 #[.int .i64 0, .int .i64 1]) (i := 1) (v := .int .i64 1) rfl)
        clear hal X_7 P0_7 P1_7 E0_7 E1_7 L0_7 L1_7 B_7
        clear T HLO
        go_wp2
        generalize w7.alloc (.cells #[.int .i64 0, .int .i64 1] 39) = w7a at *
        generalize w7.heap.size = h7a at *
        go_loopw [14] (fun k_ wr => k_ = .int .i64 0 ∧ Hid (Below w.heap.size w wr)) (fun _ _ => 0)
        case atStart => exact ⟨rfl, B_7b⟩
        case round =>
          obtain ⟨rfl, HB⟩ := hrel
          go_wp2
          go_ret
          exact ⟨rfl, HB.out⟩
      · have h6 : m ≤ 6 := by omega
        have HFP1 := Lib.hid (pts_facts (n := m + 1) (by omega) (by omega))
        have HPE : Hid (ptV ((m : Int) + 1) = pts 7 (m + 1) (m + 1)) := Lib.hid (pt_yes (n := m + 1) (by unfold InR; omega))
        rw [HPE.out] at HCP
        have HON := Lib.hid (on_facts hm1 h6 HMB.out hf1 hf6)
        obtain ⟨d1, d2, _, _⟩ := mk_bd hf1 hf6 (k := m + 1) (by omega)
        have hl0 := HFP1.out.pos
        have HLE := Lib.hid HFP1.out.le
        clear HPE h7
        generalize hls : pts 7 (m + 1) (m + 1) = list at *
        have HLS := Lib.hid hls
        clear hls
        obtain ⟨U, D, HUE, HCI, HCS⟩ : ∃ U D : Int, Hid (U = frU (uw m xs f) (mkD f m) ∧ D = frD (uw m xs f) (mkD f m)) ∧ Hid (∀ (W : World), Ints W Av xs.length cv xs → Calls Try.prog 30 #[.slice Av xs.length cv, .int .i64 f] W (fun e w' => e = .returned (.tuple #[.agg #[.int .i64 U, .int .i64 D], .bool true]) ∧ Below W.heap.size W w')) ∧ Hid (∀ (W : World), Ints W Av xs.length cv xs → Calls Try.prog 31 #[.slice Av xs.length cv, .int .i64 f] W (fun e w' => e = .returned (.tuple #[.agg #[.int .i64 U, .int .i64 D], .bool true]) ∧ Below W.heap.size W w')) := ⟨_, _, HUD, HCI, HCS⟩
        have HC := Lib.hid (HCI.out w1 X.out)
        go_wp2_with fail
        refine HC.out.mono ?_
        rintro e w2 ⟨rfl, hb⟩
        have X_2 := Lib.hid (X.out.keep (Keep.below hb))
        have B_2 := Lib.hid (below_up B1.out hb)
        clear hb HC X B1
        have hal := below_alloc w2 (.cells #[.int .i64 U, .int .i64 D] 39)
        have X_2b := Lib.hid (X_2.out.keep (Keep.below hal))
        have B_2b := Lib.hid (below_up B_2.out hal)
        have P0 := Lib.hid (blk_cell (blk_new w2 39 #[.int .i64 U, .int .i64 D]) (i := 0) (v := .int .i64 U) rfl)
        have P1 := Lib.hid (blk_cell (blk_new w2 39 #[.int .i64 U, .int .i64 D]) (i := 1) (v := .int .i64 D) rfl)
        clear hal X_2 B_2
        have HC := Lib.hid (HCS.out (w2.alloc (.cells #[.int .i64 U, .int .i64 D] 39)) X_2b.out)
        go_wp2_with fail
        generalize w2.alloc (.cells #[.int .i64 U, .int .i64 D] 39) = w2a at *
        generalize w2.heap.size = h2a at *
        refine HC.out.mono ?_
        rintro e w3 ⟨rfl, hb⟩
        have X_3 := Lib.hid (X_2b.out.keep (Keep.below hb))
        have P0_3 := Lib.hid (Keep.below hb _ _ P0.out)
        have P1_3 := Lib.hid (Keep.below hb _ _ P1.out)
        have B_3 := Lib.hid (below_up B_2b.out hb)
        clear hb HC X_2b P0 P1 B_2b
        have hal := below_alloc w3 (.cells #[.int .i64 U, .int .i64 D] 39)
        have X_3b := Lib.hid (X_3.out.keep (Keep.below hal))
        have P0_3b := Lib.hid (Keep.below hal _ _ P0_3.out)
        have P1_3b := Lib.hid (Keep.below hal _ _ P1_3.out)
        have B_3b := Lib.hid (below_up B_3.out hal)
        have E0 := Lib.hid (blk_cell (blk_new w3 39 #[.int .i64 U, .int .i64 D]) (i := 0) (v := .int .i64 U) rfl)
        have E1 := Lib.hid (blk_cell (blk_new w3 39 #[.int .i64 U, .int .i64 D]) (i := 1) (v := .int .i64 D) rfl)
        clear hal X_3 P0_3 P1_3 B_3
        have HC := Lib.hid (HCI.out (w3.alloc (.cells #[.int .i64 U, .int .i64 D] 39)) X_3b.out)
        have q_P0 := P0_3b.out
        have q_P1 := P1_3b.out
        have q_E0 := E0.out
        have q_E1 := E1.out
        go_wp2_with fail
        generalize w3.alloc (.cells #[.int .i64 U, .int .i64 D] 39) = w3a at *
        generalize w3.heap.size = h3a at *
        refine HC.out.mono ?_
        rintro e w4 ⟨rfl, hb⟩
        have X_4 := Lib.hid (X_3b.out.keep (Keep.below hb))
        have P0_4 := Lib.hid (Keep.below hb _ _ P0_3b.out)
        have P1_4 := Lib.hid (Keep.below hb _ _ P1_3b.out)
        have E0_4 := Lib.hid (Keep.below hb _ _ E0.out)
        have E1_4 := Lib.hid (Keep.below hb _ _ E1.out)
        have B_4 := Lib.hid (below_up B_3b.out hb)
        clear hb HC X_3b P0_3b P1_3b E0 E1 B_3b q_P0 q_P1 q_E0 q_E1
        have hal := below_alloc w4 (.cells #[.int .i64 U, .int .i64 D] 39)
        have X_4b := Lib.hid (X_4.out.keep (Keep.below hal))
        have P0_4b := Lib.hid (Keep.below hal _ _ P0_4.out)
        have P1_4b := Lib.hid (Keep.below hal _ _ P1_4.out)
        have E0_4b := Lib.hid (Keep.below hal _ _ E0_4.out)
        have E1_4b := Lib.hid (Keep.below hal _ _ E1_4.out)
        have B_4b := Lib.hid (below_up B_4.out hal)
        have L0 := Lib.hid (blk_cell (blk_new w4 39 #[.int .i64 U, .int .i64 D]) (i := 0) (v := .int .i64 U) rfl)
        have L1 := Lib.hid (blk_cell (blk_new w4 39 #[.int .i64 U, .int .i64 D]) (i := 1) (v := .int .i64 D) rfl)
        clear hal X_4 P0_4 P1_4 E0_4 E1_4 B_4
        have HC := Lib.hid (HT.out (w4.alloc (.cells #[.int .i64 U, .int .i64 D] 39)) X_4b.out)
        go_wp2_with fail
        generalize w4.alloc (.cells #[.int .i64 U, .int .i64 D] 39) = w4a at *
        generalize w4.heap.size = h4a at *
        refine HC.out.mono ?_
        rintro e w5 ⟨rfl, hq⟩
        have hb := hq.below (B := w4a.heap.size)
        have X_5 := Lib.hid (X_4b.out.keep (Keep.below hb))
        have P0_5 := Lib.hid (Keep.below hb _ _ P0_4b.out)
        have P1_5 := Lib.hid (Keep.below hb _ _ P1_4b.out)
        have E0_5 := Lib.hid (Keep.below hb _ _ E0_4b.out)
        have E1_5 := Lib.hid (Keep.below hb _ _ E1_4b.out)
        have L0_5 := Lib.hid (Keep.below hb _ _ L0.out)
        have L1_5 := Lib.hid (Keep.below hb _ _ L1.out)
        have B_5 := Lib.hid (below_up B_4b.out hb)
        clear hb HC hq X_4b P0_4b P1_4b E0_4b E1_4b L0 L1 B_4b
        have HC := Lib.hid (HCP.out w5)
        go_wp2_with fail
        refine HC.out.mono ?_
        rintro e w6 ⟨Al, nl, cl, gl, rfl, hnl, ho, hb⟩
        have X_6 := Lib.hid (X_5.out.keep (Keep.below hb))
        have P0_6 := Lib.hid (Keep.below hb _ _ P0_5.out)
        have P1_6 := Lib.hid (Keep.below hb _ _ P1_5.out)
        have E0_6 := Lib.hid (Keep.below hb _ _ E0_5.out)
        have E1_6 := Lib.hid (Keep.below hb _ _ E1_5.out)
        have L0_6 := Lib.hid (Keep.below hb _ _ L0_5.out)
        have L1_6 := Lib.hid (Keep.below hb _ _ L1_5.out)
        have B_6 := Lib.hid (below_up B_5.out hb)
        subst hnl
        have T := Lib.hid ho
        have HLO := Lib.hid (And.intro hb.size hb.size)
        clear ho
        clear hb HC X_5 P0_5 P1_5 E0_5 E1_5 L0_5 L1_5 B_5
        have HC := Lib.hid (HC0.out w6)
        go_wp2_with fail
        refine HC.out.mono ?_
        rintro e w7 ⟨rfl, hb⟩
        have X_7 := Lib.hid (X_6.out.keep (Keep.below hb))
        have P0_7 := Lib.hid (Keep.below hb _ _ P0_6.out)
        have P1_7 := Lib.hid (Keep.below hb _ _ P1_6.out)
        have E0_7 := Lib.hid (Keep.below hb _ _ E0_6.out)
        have E1_7 := Lib.hid (Keep.below hb _ _ E1_6.out)
        have L0_7 := Lib.hid (Keep.below hb _ _ L0_6.out)
        have L1_7 := Lib.hid (Keep.below hb _ _ L1_6.out)
        have B_7 := Lib.hid (below_up B_6.out hb)
        have T2 := Lib.hid (T.out.below hb)
        have HZZ := Lib.hid hb.size
        clear hb HC X_6 P0_6 P1_6 E0_6 E1_6 L0_6 L1_6 B_6
        have b4 := blk_new w7 39 #[.int .i64 0, .int .i64 1]
        have hDE : Hid (0 < (mkD f (m + 1) * ((m : Int) + 1))) := Lib.hid (Int.mul_pos (by omega) (by omega))
        have HTZ := Lib.hid (show TZ w _ _ h4a w7.heap.size U D (frU (oS m xs f 0) (mkD f (m + 1) * ((m : Int) + 1))) (frD (oS m xs f 0) (mkD f (m + 1) * ((m : Int) + 1))) Av cv xs gl Al list.length cl list (w7.alloc (.cells #[.int .i64 0, .int .i64 1] 39)) from
          ⟨T2.out.below (below_alloc _ _), by show Blk _ _ _ #[.int .i64 (frU 0 _), .int .i64 (frD 0 _)]; rw [(fr_nil hDE.out).1, (fr_nil hDE.out).2]; exact b4,
            Keep.below (below_alloc _ _) _ _ L0_7.out, Keep.below (below_alloc _ _) _ _ L1_7.out, X_7.out.keep (Keep.below (below_alloc _ _)), HZZ.out, by have := World.block_lt_of_cell? _ _ L0_7.out; simp at this; omega,
            fun g o h0 e => by
              obtain ⟨g', o', e', hc⟩ := X_7.out.at_ h0
              have hlt := World.block_lt_of_cell? _ _ (hc 0 h0)
              rw [e] at e'; injection e' with e'; injection e' with e1 e2; subst e1; simp at hlt; omega,
            B_7.out.size, below_up B_7.out (below_alloc _ _)⟩)
        clear T T2 b4 HZZ HLO HCI HCS HCP HC0 HT B_7 X_7 L0_7 L1_7
        obtain ⟨b, o, rfl, _⟩ := HTZ.out.li.rows.at_ hl0
        go_wp2
        generalize w7.alloc (.cells #[.int .i64 0, .int .i64 1] 39) = W0 at *
        generalize w7.heap.size = r at *
        obtain ⟨lo, hi, HTZ⟩ : ∃ lo hi, Hid (TZ w lo hi h4a r U D (frU (oS m xs f 0) (mkD f (m + 1) * ((m : Int) + 1))) (frD (oS m xs f 0) (mkD f (m + 1) * ((m : Int) + 1))) Av cv xs gl (some ⟨b, o, none⟩) list.length cl list W0) := ⟨_, _, HTZ⟩
        go_loopw [14] (fun k_ wr => ∃ k : Nat, k ≤ list.length ∧ k_ = .int .i64 k ∧ Hid (TZ w lo hi h4a r U D (frU (oS m xs f k) (mkD f (m + 1) * ((m : Int) + 1))) (frD (oS m xs f k) (mkD f (m + 1) * ((m : Int) + 1))) Av cv xs gl (some ⟨b, o, none⟩) list.length cl list wr)) (fun k_ _ => list.length - (intOf k_).toNat)
        case atStart => exact ⟨0, Nat.zero_le _, rfl, HTZ⟩
        case round =>
          clear HTZ
          obtain ⟨k, hk, rfl, HTZ⟩ := hrel
          by_cases hlt : k < list.length
          · obtain ⟨R, cc, c1, hR⟩ := HTZ.out.li.rows.cell hlt
            have HV := Lib.hid (HFP1.out.ok k hlt)
            have HWY := Lib.hid (show ∀ i, i ≤ (gr list k).length → 0 ≤ wyI xs (gr list k) i ∧ wyI xs (gr list k) i ≤ 7 from by
              have h := HON.out.wy k (by rw [HLS.out]; exact hlt)
              rw [HLS.out] at h; exact h)
            have HOB := Lib.hid (HON.out.bd k (by rw [HLS.out]; omega))
            have HOS : Hid (oS m xs f (k + 1) = oS m xs f k + uw (m + 1) (gr list k) f * wyI xs (gr list k) (gr list k).length) := Lib.hid (by rw [oS, HLS.out]; rfl)
            have hkq : KQ (gr list k) f := ⟨HV.out, by unfold InR; omega⟩
            have HKP := Lib.hid (fun W h => KindsByProduct_impl R (gr list k).length cc (gr list k) f W h (by unfold Fit; omega))
            rw [kp_yes hkq, pb_true hkq, ← (kp_ku hkq).1, ← (kp_ku hkq).2] at HKP
            unfold kuU kuD at HKP
            rw [HFP1.out.sum k hlt, Int.toNat_natCast] at HKP
            have HUW := Lib.hid (uw_bd (m := m + 1) (xs := gr list k) (f := f) (by omega) (by rw [HLS.out]; exact gr_mem hlt) hf1 hf6)
            have HRI := Lib.hid hR
            have SX := Lib.hid c1
            have hrl := HV.out.2.1
            have HRB : Hid (∀ j, j < (gr list k).length → 1 ≤ gi (gr list k) j ∧ gi (gr list k) j ≤ 7) := Lib.hid (fun j hj => by obtain ⟨a, b, _⟩ := HV.out.1 j hj; exact ⟨a, b⟩)
            clear hkq hR
            generalize gr list k = row at *
            go_wp2
            generalize wr = W1 at *
            go_loopw [15, 16] (fun p i wi => ∃ j : Nat, j ≤ row.length ∧ i = .int .i64 j ∧ p = .int .i64 (wyI xs row j) ∧ Hid (Below W1.heap.size W1 wi)) (fun _ i _ => row.length - (intOf i).toNat)
            case atStart => exact ⟨0, Nat.zero_le _, rfl, rfl, Lib.hid (Below.refl _ _)⟩
            case round =>
              obtain ⟨i, hi9, rfl, rfl, HB⟩ := hrel
              have c2 := Keep.below HB.out _ _ SX.out
              by_cases hil : i < row.length
              · have HRW := Lib.hid (HRI.out.keep (Keep.below HB.out))
                have HPW := Lib.hid (HTZ.out.ps_.keep (Keep.below HB.out))
                have HO := Lib.hid (OX.new (Below.refl wr.heap.size wr))
                have HWS : Hid (wyI xs row (i + 1) = if srt (lfO row i) = xs then wyI xs row i + gi row i else wyI xs row i) := Lib.hid rfl
                go_wp2
                generalize wr = Wi at *
                go_loopw [17, 18] (fun v jv wj => ∃ j : Nat, j ≤ row.length ∧ jv = .int .i64 j ∧ Hid (OX Wi wj v (lfJ row i j))) (fun _ jv _ => row.length - (intOf jv).toNat)
                case atStart => exact ⟨0, Nat.zero_le _, rfl, HO⟩
                case round =>
                  clear HO
                  obtain ⟨j, hj, rfl, HO⟩ := hrel
                  obtain ⟨Al2, cl2, rfl⟩ := HO.out.form
                  have HJB := Lib.hid (lfI_bd HRB.out i j hj)
                  have c3 := Keep.below HO.out.bl _ _ c2
                  by_cases hjl : j < row.length
                  · obtain ⟨b2, o2, rfl, hc2⟩ := (HRW.out.keep (Keep.below HO.out.bl)).at_ (by omega)
                    have c4 := hc2 j hjl
                    obtain ⟨x1, x7⟩ := HRB.out j hjl
                    clear hc2
                    have HLJ : Hid (lfJ row i (j + 1) = if 0 < szO row i j then lfJ row i j ++ [szO row i j] else lfJ row i j) := Lib.hid rfl
                    generalize lfJ row i j = acc at *
                    by_cases hji : j = i
                    · obtain rfl := hji
                      have HSZ : Hid (szO row j j = gi row j - 1) := Lib.hid (by unfold szO; rw [if_pos rfl])
                      by_cases hz : 0 < gi row j - 1
                      · have hz1 : decide (0 < gi row j - 1) = true := decide_eq_true hz
                        rw [HSZ.out, if_pos hz] at HLJ
                        generalize gi row j = x at *
                        obtain ⟨A5, cp5, w5, hrun, hown5, hg5, _⟩ := run_app_ints (wr.alloc (.cells #[.int .i64 (x - 1)] 3)) Wi.heap.size _ acc (HO.out.alloc _).own (HO.out.alloc _).lo (some ⟨wr.heap.size, 0, none⟩) 1 1 [(x - 1)] (NwX.ints (NwX.new HO.out (x - 1)) (by omega)) (by have := HJB.out.1; omega)
                        have HRUN := Lib.hid hrun
                        have HO5 := Lib.hid ((HO.out.alloc _).app hown5 hg5)
                        have HLN := Lib.hid (show (acc ++ [(x - 1)]).length = acc.length + 1 by simp)
                        clear hrun hown5 hg5
                        rw [HLN.out] at HO5 HRUN
                        go_wp2_with (at_builtin; refine Lib.wpList_append_run _ rfl _ _ _ _ rfl _ _ rfl rfl _ _ HRUN.out ?_)
                        go_roundw
                        case rel => exact ⟨j + 1, by omega, by go_num, by rw [HLJ.out]; exact HO5⟩
                        case measure => simp [intOf]; omega
                      · have hz1 : decide (0 < gi row j - 1) = false := decide_eq_false hz
                        rw [HSZ.out, if_neg hz] at HLJ
                        generalize gi row j = x at *
                        go_wp2
                        go_roundw
                        case rel => exact ⟨j + 1, by omega, by go_num, by rw [HLJ.out]; exact HO⟩
                        case measure => simp [intOf]; omega
                    · have hji1 : ((j : Int) == (i : Int)) = false := beq_eq_false_iff_ne.2 (by omega)
                      have HSZ : Hid (szO row i j = gi row j) := Lib.hid (by unfold szO; rw [if_neg hji])
                      rw [HSZ.out, if_pos (by omega)] at HLJ
                      generalize gi row j = x at *
                      have hz1 : decide (0 < x) = true := decide_eq_true (by omega)
                      have hz2 : 0 < x := by omega
                      obtain ⟨A5, cp5, w5, hrun, hown5, hg5, _⟩ := run_app_ints (wr.alloc (.cells #[.int .i64 x] 3)) Wi.heap.size _ acc (HO.out.alloc _).own (HO.out.alloc _).lo (some ⟨wr.heap.size, 0, none⟩) 1 1 [x] (NwX.ints (NwX.new HO.out x) (by omega)) (by have := HJB.out.1; omega)
                      have HRUN := Lib.hid hrun
                      have HO5 := Lib.hid ((HO.out.alloc _).app hown5 hg5)
                      have HLN := Lib.hid (show (acc ++ [x]).length = acc.length + 1 by simp)
                      clear hrun hown5 hg5
                      rw [HLN.out] at HO5 HRUN
                      go_wp2_with (at_builtin; refine Lib.wpList_append_run _ rfl _ _ _ _ rfl _ _ rfl rfl _ _ HRUN.out ?_)
                      go_roundw
                      case rel => exact ⟨j + 1, by omega, by go_num, by rw [HLJ.out]; exact HO5⟩
                      case measure => simp [intOf]; omega
                  · obtain rfl : j = row.length := by omega
                    have hll := HJB.out.1
                    have HLI := Lib.hid (HO.out.ints (by omega) HJB.out.2)
                    have HSR := Lib.hid (sorted_any Al2 _ cl2 _ wr HLI.out (by omega) HJB.out.2)
                    have HLO : Hid (lfJ row i row.length = lfO row i) := Lib.hid rfl
                    rw [HLO.out] at HSR HO HLI hll ⊢
                    clear HJB HLO
                    go_wp2_with fail
                    refine HSR.out.mono ?_
                    rintro e w6 ⟨A6, n6, cp6, g6, rfl, hn6, ho6, hb6⟩
                    subst hn6
                    have HB6 := Lib.hid (below_up HO.out.bl hb6)
                    have HEQ := Lib.hid (equalInts_any A6 Av _ cp6 xs.length cv (srt (lfO row i)) xs w6 ho6.ints (HPW.out.keep (Keep.below HB6.out)))
                    clear ho6 hb6 HSR HLI HO c3
                    go_wp2_with fail
                    refine HEQ.out.mono ?_
                    rintro e wq ⟨rfl, hq⟩
                    have HBQ := Lib.hid (below_up HB.out (below_quiet HB6.out hq))
                    have c5 := Keep.below HBQ.out _ _ SX.out
                    obtain ⟨b2, o2, rfl, hc2⟩ := (HRI.out.keep (Keep.below HBQ.out)).at_ (by omega)
                    have c6 := hc2 i hil
                    clear hc2 HEQ HB6
                    have hw0 := HWY.out i hi9
                    have hx0 := HRB.out i hil
                    obtain ⟨hw1, hw2⟩ := hw0
                    obtain ⟨hx1, hx2⟩ := hx0
                    by_cases hs : srt (lfO row i) = xs
                    · rw [if_pos hs] at HWS
                      rw [eqI_of_eq hs]
                      clear hs
                      generalize wyI xs row i = ww at *
                      generalize gi row i = x at *
                      go_wp2
                      go_roundw
                      case rel => exact ⟨i + 1, by omega, by go_num, by rw [HWS.out], HBQ⟩
                      case measure => simp [intOf]; omega
                    · rw [if_neg hs] at HWS
                      rw [eqI_of_ne hs]
                      clear hs
                      generalize wyI xs row i = ww at *
                      go_wp2
                      go_roundw
                      case rel => exact ⟨i + 1, by omega, by go_num, by rw [HWS.out], HBQ⟩
                      case measure => simp [intOf]; omega
              · obtain rfl : i = row.length := by omega
                have HTQ := Lib.hid (HTZ.out.next HB.out)
                have HRQ := Lib.hid (HRI.out.keep (Keep.below HB.out))
                obtain ⟨q0, q1⟩ := HWY.out row.length (Nat.le_refl _)
                have e1 : 2 ≤ ((m : Int) + 1) := by omega
                have e2 : ((m : Int) + 1) ≤ 42 := by omega
                obtain ⟨u0, u1⟩ := HUW.out
                obtain ⟨s0, s1⟩ := HOB.out
                have HDB := Lib.hid (mulbd (x := mkD f (m + 1)) (y := ((m : Int) + 1)) (A := 20000000) (B := 42) (by omega) (by omega))
                obtain ⟨db1, db2⟩ := HDB.out
                have hDE' := hDE.out
                have HFR := Lib.hid (fun W => fracOfH_any (wyI xs row row.length) ((m : Int) + 1) W (by unfold Hug; omega) (by unfold Hug; omega) (by omega))
                have HVV : Hid (∀ u d : Int, frV u d = .agg #[.int .i64 (frU u d), .int .i64 (frD u d)]) := Lib.hid (fun _ _ => rfl)
                have t3 : 0 ≤ uw (m + 1) row f * wyI xs row row.length := Int.mul_nonneg (by omega) (by omega)
                have t5 := mulbd (x := uw (m + 1) row f) (y := wyI xs row row.length) (A := 20000000) (B := 42) (by omega) (by omega)
                have HTI := Lib.hid (fun W => timesOfH_any (frU (uw (m + 1) row f) (mkD f (m + 1))) (frD (uw (m + 1) row f) (mkD f (m + 1))) (frU (wyI xs row row.length) ((m : Int) + 1)) (frD (wyI xs row row.length) ((m : Int) + 1)) W (frU_bd (by omega) (by omega)) (frU_bd (by omega) (by omega)) (frD_bd (by omega) (by omega)) (frD_bd (by omega) (by omega)))
                have HTE := Lib.hid (fr_tim (u := uw (m + 1) row f) (d := mkD f (m + 1)) (v := wyI xs row row.length) (e := ((m : Int) + 1)) (by omega) (by omega))
                have HPL := Lib.hid (fun W => plusOfH_any (frU (oS m xs f k) (mkD f (m + 1) * ((m : Int) + 1))) (frD (oS m xs f k) (mkD f (m + 1) * ((m : Int) + 1))) (frU (uw (m + 1) row f * wyI xs row row.length) (mkD f (m + 1) * ((m : Int) + 1))) (frD (uw (m + 1) row f * wyI xs row row.length) (mkD f (m + 1) * ((m : Int) + 1))) W (frU_bd (by omega) (by omega)) (frU_bd (by omega) (by omega)) (frD_bd (by omega) (by omega)) (frD_bd (by omega) (by omega)))
                have HPE := Lib.hid (same_den (S := oS m xs f k) (a := uw (m + 1) row f) (u := wyI xs row row.length) (D := mkD f (m + 1)) (E := ((m : Int) + 1)) (by omega) (by omega))
                rw [HVV.out, HTE.out.1, HTE.out.2] at HTI
                rw [HVV.out, HPE.out.1, HPE.out.2] at HPL
                rw [HVV.out] at HFR
                have HNE := Lib.hid (show frU (oS m xs f (k + 1)) (mkD f (m + 1) * ((m : Int) + 1)) = frU (oS m xs f k + uw (m + 1) row f * wyI xs row row.length) (mkD f (m + 1) * ((m : Int) + 1)) ∧ frD (oS m xs f (k + 1)) (mkD f (m + 1) * ((m : Int) + 1)) = frD (oS m xs f k + uw (m + 1) row f * wyI xs row row.length) (mkD f (m + 1) * ((m : Int) + 1)) by rw [HOS.out]; exact ⟨rfl, rfl⟩)
                clear HTE HPE HVV HOS t3 t5 HDB db1 db2 hDE' HTZ HRI HWY HUW HOB u0 u1 s0 s1
                have HN0 := Lib.hid (show (wyI xs row row.length = 0 → frU (oS m xs f k) (mkD f (m + 1) * ((m : Int) + 1)) = frU (oS m xs f k + uw (m + 1) row f * wyI xs row row.length) (mkD f (m + 1) * ((m : Int) + 1))) ∧ (wyI xs row row.length = 0 → frD (oS m xs f k) (mkD f (m + 1) * ((m : Int) + 1)) = frD (oS m xs f k + uw (m + 1) row f * wyI xs row row.length) (mkD f (m + 1) * ((m : Int) + 1))) from ⟨fun h => by rw [h, Int.mul_zero, Int.add_zero], fun h => by rw [h, Int.mul_zero, Int.add_zero]⟩)
                generalize frU (oS m xs f k + uw (m + 1) row f * wyI xs row row.length) (mkD f (m + 1) * ((m : Int) + 1)) = NU at *
                generalize frD (oS m xs f k + uw (m + 1) row f * wyI xs row row.length) (mkD f (m + 1) * ((m : Int) + 1)) = ND at *
                generalize frU (uw (m + 1) row f * wyI xs row row.length) (mkD f (m + 1) * ((m : Int) + 1)) = TU at *
                generalize frD (uw (m + 1) row f * wyI xs row row.length) (mkD f (m + 1) * ((m : Int) + 1)) = TD at *
                generalize frU (oS m xs f k) (mkD f (m + 1) * ((m : Int) + 1)) = OU at *
                generalize frD (oS m xs f k) (mkD f (m + 1) * ((m : Int) + 1)) = OD at *
                generalize frU (uw (m + 1) row f) (mkD f (m + 1)) = AU at *
                generalize frD (uw (m + 1) row f) (mkD f (m + 1)) = AD at *
                generalize frU (wyI xs row row.length) ((m : Int) + 1) = GU at *
                generalize frD (wyI xs row row.length) ((m : Int) + 1) = GD at *
                have hw2 : IntKind.i64.wrap ((m : Int) + 1) = (m : Int) + 1 := wrapIn (by omega)
                generalize wyI xs row row.length = pv at *
                have HC := Lib.hid (HKP.out wr HRQ.out)
                generalize row.length = m at *
                go_wp2_with fail
                refine HC.out.mono ?_
                rintro e w9 ⟨rfl, hb⟩
                have DX := Lib.hid ((HTQ.out.next hb).next (below_alloc w9 (.cells #[.int .i64 AU, .int .i64 AD] 39)))
                have ZX := Lib.hid (blk_new w9 39 #[.int .i64 AU, .int .i64 AD])
                clear hb HC HTQ HKP HRQ c2
                by_cases hp : 0 < pv
                · have hp1 : decide (0 < pv) = true := decide_eq_true hp
                  go_wp2
                  generalize w9.alloc (.cells #[.int .i64 AU, .int .i64 AD] 39) = W9 at *
                  generalize w9.heap.size = yb at *
                  have y0 := blk_cell DX.out.b (i := 0) rfl
                  have y1 := blk_cell DX.out.b (i := 1) rfl
                  have z0 := blk_cell ZX.out (i := 0) rfl
                  have z1 := blk_cell ZX.out (i := 1) rfl
                  apply region_once (F := fun v => Hid (TZ w lo hi h4a r U D NU ND Av cv xs gl (some ⟨b, o, none⟩) list.length cl list v))
                  · go_region_law ((first
                      | (go_simp; go_at_call 28; (with_reducible refine (HFR.out _).mono ?_); rintro e v1 ⟨rfl, hb⟩; have ZX := Lib.hid (show Blk v1 yb 39 #[.int .i64 AU, .int .i64 AD] from by first | exact blk_below ZX.out hb | exact blk_below (blk_quiet ZX.out ⟨1, rfl⟩) hb); have DX := Lib.hid (show TZ w lo hi h4a r U D OU OD Av cv xs gl (some ⟨b, o, none⟩) list.length cl list v1 from by first | exact DX.out.next hb | exact DX.out.drew.next hb); have y0 := blk_cell DX.out.b (i := 0) rfl; have y1 := blk_cell DX.out.b (i := 1) rfl; have z0 := blk_cell ZX.out (i := 0) rfl; have z1 := blk_cell ZX.out (i := 1) rfl; clear hb)
                      | (go_simp; go_at_call 25; (with_reducible refine (HTI.out _).mono ?_); rintro e v3 ⟨rfl, hb⟩; have DX := Lib.hid (show TZ w lo hi h4a r U D OU OD Av cv xs gl (some ⟨b, o, none⟩) list.length cl list v3 from DX.out.next hb); have y0 := blk_cell DX.out.b (i := 0) rfl; have y1 := blk_cell DX.out.b (i := 1) rfl; clear hb)
                      | (go_simp; go_at_call 38; (with_reducible refine (HPL.out _).mono ?_); rintro e v4 ⟨rfl, hb⟩; have DX := Lib.hid (show TZ w lo hi h4a r U D OU OD Av cv xs gl (some ⟨b, o, none⟩) list.length cl list v4 from DX.out.next hb); have y0 := blk_cell DX.out.b (i := 0) rfl; have y1 := blk_cell DX.out.b (i := 1) rfl; have f0 := blk_frozen DX.out.b 0; have f1 := blk_frozen DX.out.b 1; clear hb)
                      | fail))
                    all_goals exact OnceQ.mk rfl (Lib.hid (DX.out.set NU ND))
                  · rintro w7 HX7
                    clear y0 y1 z0 z1 HFR HTI HPL DX ZX
                    have hll := HLE.out
                    have hkb : (k : Int) ≤ 100 := by omega
                    go_wp2
                    go_roundw
                    case rel => exact ⟨k + 1, by omega, by go_num, Lib.hid (by rw [HNE.out.1, HNE.out.2]; exact HX7.out)⟩
                    case measure => simp [intOf]; omega
                · have hp1 : decide (0 < pv) = false := decide_eq_false hp
                  have HPZ : Hid (pv = 0) := Lib.hid (by omega)
                  have hll := HLE.out
                  have hkb : (k : Int) ≤ 100 := by omega
                  have DX2 := Lib.hid (DX.out)
                  go_wp2
                  go_roundw
                  case rel => exact ⟨k + 1, by omega, by go_num, Lib.hid (by rw [HNE.out.1, HNE.out.2, ← HN0.out.1 HPZ.out, ← HN0.out.2 HPZ.out]; exact DX2.out)⟩
                  case measure => simp [intOf]; omega
          · obtain rfl : k = list.length := by omega
            have HE := Lib.hid (show frU (oS m xs f list.length) (mkD f (m + 1) * ((m : Int) + 1)) = U ∧ frD (oS m xs f list.length) (mkD f (m + 1) * ((m : Int) + 1)) = D from by
              have h := HON.out.all
              rw [HLS.out] at h
              have e := fr_eq hDE.out (show (0 : Int) < mkD f m by have := mk_bd hf1 hf6 (k := m) (by omega); omega) h
              exact ⟨e.1.trans HUE.out.1.symm, e.2.trans HUE.out.2.symm⟩)
            rw [HE.out.1, HE.out.2] at HTZ
            have s0 := blk_cell HTZ.out.b (i := 0) rfl
            have s1 := blk_cell HTZ.out.b (i := 1) rfl
            have x0 := HTZ.out.x0
            have x1 := HTZ.out.x1
            have hl2 : ((list.length : Int) == 0) = false := beq_eq_false_iff_ne.2 (by omega)
            have HUP := Lib.hid HTZ.out.up
            go_wp2
            go_ret
            exact ⟨rfl, HUP.out⟩
    · rw [kp_no hq, pb_false hq] at HCI HCS
      clear hq
      generalize hN : xs.length = N at *
      clear hN
      have HC := Lib.hid (HCI.out w1 X.out)
      go_wp2_with fail
      refine HC.out.mono ?_
      rintro e w2 ⟨rfl, hb⟩
      have X_2 := Lib.hid (X.out.keep (Keep.below hb))
      have B_2 := Lib.hid (below_up B1.out hb)
      clear hb HC X B1
      have hal := below_alloc w2 (.cells #[.int .i64 0, .int .i64 0] 39)
      have X_2b := Lib.hid (X_2.out.keep (Keep.below hal))
      have B_2b := Lib.hid (below_up B_2.out hal)
      have P0 := Lib.hid (blk_cell (blk_new w2 39 #[.int .i64 0, .int .i64 0]) (i := 0) (v := .int .i64 0) rfl)
      have P1 := Lib.hid (blk_cell (blk_new w2 39 #[.int .i64 0, .int .i64 0]) (i := 1) (v := .int .i64 0) rfl)
      clear hal X_2 B_2
      have HC := Lib.hid (HCS.out (w2.alloc (.cells #[.int .i64 0, .int .i64 0] 39)) X_2b.out)
      go_wp2_with fail
      generalize w2.alloc (.cells #[.int .i64 0, .int .i64 0] 39) = w2a at *
      generalize w2.heap.size = h2a at *
      refine HC.out.mono ?_
      rintro e w3 ⟨rfl, hb⟩
      have X_3 := Lib.hid (X_2b.out.keep (Keep.below hb))
      have P0_3 := Lib.hid (Keep.below hb _ _ P0.out)
      have P1_3 := Lib.hid (Keep.below hb _ _ P1.out)
      have B_3 := Lib.hid (below_up B_2b.out hb)
      clear hb HC X_2b P0 P1 B_2b
      have hal := below_alloc w3 (.cells #[.int .i64 0, .int .i64 0] 39)
      have X_3b := Lib.hid (X_3.out.keep (Keep.below hal))
      have P0_3b := Lib.hid (Keep.below hal _ _ P0_3.out)
      have P1_3b := Lib.hid (Keep.below hal _ _ P1_3.out)
      have B_3b := Lib.hid (below_up B_3.out hal)
      have E0 := Lib.hid (blk_cell (blk_new w3 39 #[.int .i64 0, .int .i64 0]) (i := 0) (v := .int .i64 0) rfl)
      have E1 := Lib.hid (blk_cell (blk_new w3 39 #[.int .i64 0, .int .i64 0]) (i := 1) (v := .int .i64 0) rfl)
      clear hal X_3 P0_3 P1_3 B_3
      have HC := Lib.hid (HCI.out (w3.alloc (.cells #[.int .i64 0, .int .i64 0] 39)) X_3b.out)
      have q_P0 := P0_3b.out
      have q_P1 := P1_3b.out
      have q_E0 := E0.out
      have q_E1 := E1.out
      go_wp2_with fail
      generalize w3.alloc (.cells #[.int .i64 0, .int .i64 0] 39) = w3a at *
      generalize w3.heap.size = h3a at *
      refine HC.out.mono ?_
      rintro e w4 ⟨rfl, hb⟩
      have X_4 := Lib.hid (X_3b.out.keep (Keep.below hb))
      have P0_4 := Lib.hid (Keep.below hb _ _ P0_3b.out)
      have P1_4 := Lib.hid (Keep.below hb _ _ P1_3b.out)
      have E0_4 := Lib.hid (Keep.below hb _ _ E0.out)
      have E1_4 := Lib.hid (Keep.below hb _ _ E1.out)
      have B_4 := Lib.hid (below_up B_3b.out hb)
      clear hb HC X_3b P0_3b P1_3b E0 E1 B_3b q_P0 q_P1 q_E0 q_E1
      have hal := below_alloc w4 (.cells #[.int .i64 0, .int .i64 0] 39)
      have X_4b := Lib.hid (X_4.out.keep (Keep.below hal))
      have P0_4b := Lib.hid (Keep.below hal _ _ P0_4.out)
      have P1_4b := Lib.hid (Keep.below hal _ _ P1_4.out)
      have E0_4b := Lib.hid (Keep.below hal _ _ E0_4.out)
      have E1_4b := Lib.hid (Keep.below hal _ _ E1_4.out)
      have B_4b := Lib.hid (below_up B_4.out hal)
      have L0 := Lib.hid (blk_cell (blk_new w4 39 #[.int .i64 0, .int .i64 0]) (i := 0) (v := .int .i64 0) rfl)
      have L1 := Lib.hid (blk_cell (blk_new w4 39 #[.int .i64 0, .int .i64 0]) (i := 1) (v := .int .i64 0) rfl)
      clear hal X_4 P0_4 P1_4 E0_4 E1_4 B_4
      have q_L0 := L0.out
      have q_L1 := L1.out
      go_wp2
      go_ret
      exact ⟨rfl, B_4b.out⟩

set_option maxRecDepth 100000 in
theorem hFnOneLessIsTheSame_lifted (os : Os) (started : os.Started) (H : Type) (enc : TypeId × Value → H) :
    ReturnsInHanded {} Try.checked os 10 .any (Rows.fnOneLessIsTheSameSpec.pre6 enc Try.prog Try.f10 Rows.fnOneLessIsTheSameRow.domain false) (Rows.fnOneLessIsTheSameSpec.post enc Try.prog Try.f10 false true false false) := by
  refine returnsInHanded_of_change_sized (C := Try.checked) Try.own started (by kernel_rfl) Try.func10
    (ChangeSpec.witness6 (enc := enc) (C := Try.checked) false ⟨#[], #[.slice none 0 0], []⟩ 8 (by kernel_rfl) (by kernel_rfl) (by kernel_rfl) (by kernel_rfl)) ?_
  intro W base args ds gs before hval0 hW _ hwt _
  have hval : ∀ (j : Nat) t v, Try.f10.params[j]? = some t → args[j]? = some v → Value.okWide Try.prog W .any base t v := hval0
  have hA : ∃ p, DataW.TrodAll enc Try.prog W 0 (fun _ => true) true Try.f10.params.toList args.toList ds p := by obtain ⟨p, q, hA0, _⟩ := hW; exact ⟨p, hA0⟩
  obtain ⟨p, hA⟩ := hA
  have hwt' := weights_arg hwt (j := 0) (t := 22) (by rw [Try.params10]; rfl) (d := ds.getD 0 .nil)
  rw [Try.params10] at hA hval
  obtain ⟨v0, d0, rfl, rfl, h0⟩ := trodAll_one hA
  obtain ⟨A, n, c, rfl, hx⟩ := open_bytes (hval 0 22 v0 rfl rfl) h0 (hwt' rfl)
  refine (fnOneLessIsTheSame_calls A n c W hx).mono fun e W' ⟨he, hb⟩ => ?_
  subst he
  exact ⟨_, rfl, law_post (F := Try.f10) rfl rfl (by rw [Try.params10]; simp only [List.mem_cons, List.not_mem_nil, or_false, forall_eq]; exact ⟨by kernel_rfl, of_decide_eq_true (by kernel_rfl)⟩) hW (fun h => by subst h; rfl) hb⟩

theorem hFnOneLessIsTheSame_holds : Rows.FnOneLessIsTheSameSaid :=
  OpenClaim.holds_of_wide 10 Try.f10 rfl rfl rfl rfl rfl rfl rfl ⟨rfl, rfl, rfl, rfl, rfl⟩ rfl rfl rfl rfl rfl (by kernel_rfl) Try.func10
    (by unfold joinedFacts; simp only [Bool.and_eq_true]; (repeat' apply And.intro) <;> (first | (with_reducible exact prog_enters) | ((with_reducible refine prog_lifts ?_); rfl) | ((with_reducible refine prog_make ?_); rfl) | kernel_rfl))
    (of_decide_eq_true (by kernel_rfl)) (by unfold Func.isWrapper; first | (rw [if_pos (by decide +kernel)]; kernel_rfl) | (rw [if_neg (by decide +kernel)]; exact ⟨rfl, rfl⟩))
    (fun os started H enc _ => hFnOneLessIsTheSame_lifted os started H enc)

end Go.Proofs.Ytpchnoalamdhkaa
