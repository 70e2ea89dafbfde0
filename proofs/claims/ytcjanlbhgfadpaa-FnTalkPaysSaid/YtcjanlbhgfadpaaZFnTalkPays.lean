/- The law FnTalkPays holds: for all bytes TalkPays with both signals exchanged, and their costs, is the same, and the program's TalkPays answers as the model's. No condition. -/
import Derived.Test.YtcjanlbhgfadpaaQ12
namespace Go.Proofs.Ytcjanlbhgfadpaa
open Go.ChangeShapes Go.WideShapes Go.ChangeAt Go.RowKit Go.Deep

set_option maxRecDepth 100000 in
set_option maxHeartbeats 3200000 in
theorem fnTalkPays_calls (A : Option Addr) (n c : Nat) (w : World) (hx : Bytes w A n c) :
    Calls Try.prog 4 #[.slice A n c] w fun e w' => e = .returned (.bool true) ∧ Below w.heap.size w w' := by
  have hmx := hx.max
  have H0 := Lib.hid (DrawTalkPays_any A n c w hx)
  clear hx
  by_cases hs : 1048576 < n
  · go_enter Try.func4, Try.ntmps4
    go_wp2
    go_ret
    exact ⟨rfl, Below.refl _ _⟩
  · go_enter Try.func4, Try.ntmps4
    go_wp2_with fail
    refine H0.out.mono ?_
    rintro e w1 ⟨A1, c1, A2, c2, A3, c3, A4, c4, xs, ss, hs, ks, s, r, rfl, h, hb, hsb, hrb⟩
    clear H0
    have hal := below_alloc w1 (.cells #[.slice A1 2 c1, .slice A2 2 c2, .slice A3 2 c3, .slice A4 2 c4] 26)
    have Z := Lib.hid hal
    have K := Lib.hid (blk_new w1 26 #[.slice A1 2 c1, .slice A2 2 c2, .slice A3 2 c3, .slice A4 2 c4])
    have H0 := Lib.hid h
    have BB := Lib.hid hb
    clear hal h hb
    have HBX0 := Lib.hid (show w1.heap.size < (w1.alloc (.cells #[.slice A1 2 c1, .slice A2 2 c2, .slice A3 2 c3, .slice A4 2 c4] 26)).heap.size by simp)
    have hs_ : Fit s := ⟨by omega, by omega⟩
    have hr_ : Fit r := ⟨by omega, by omega⟩
    by_cases hok : Okt xs ss hs ks s r
    rotate_left
    · have hno := tp_no hok
      have q0 := blk_cell K.out (i := 0) rfl
      have q1 := blk_cell K.out (i := 1) rfl
      have q2 := blk_cell K.out (i := 2) rfl
      have q3 := blk_cell K.out (i := 3) rfl
      have HC := Lib.hid ((show Calls Try.prog _ _ _ (NewIH (w1.alloc (.cells #[.slice A1 2 c1, .slice A2 2 c2, .slice A3 2 c3, .slice A4 2 c4] 26)) [] 0) from by have c := TalkPays_impl _ _ _ _ _ _ _ _ _ _ _ _ xs ss hs ks s r (w1.alloc (.cells #[.slice A1 2 c1, .slice A2 2 c2, .slice A3 2 c3, .slice A4 2 c4] 26)) (H0.out.keep (Keep.below Z.out)) hs_ hr_; rw [hno.1, hno.2] at c; exact c))
      go_wp2_with fail
      clear q0 q1 q2 q3
      generalize w1.alloc (.cells #[.slice A1 2 c1, .slice A2 2 c2, .slice A3 2 c3, .slice A4 2 c4] 26) = w1a at *
      refine HC.out.mono ?_
      rintro e w2 ⟨AP_, cP_, gP_, rfl, hoP_, hgP_, hb⟩
      have Z_2 := Lib.hid (below_up Z.out hb)
      have K_2 := Lib.hid (blk_below K.out hb)
      have P_ := Lib.hid hoP_.ints
      clear hoP_ hgP_
      clear hb HC  Z K
      have q0 := blk_cell K_2.out (i := 0) rfl
      have q1 := blk_cell K_2.out (i := 1) rfl
      have q2 := blk_cell K_2.out (i := 2) rfl
      have q3 := blk_cell K_2.out (i := 3) rfl
      have HC := Lib.hid ((show Calls Try.prog _ _ _ (NewIH w2 [] 0) from by have c := TalkPays_spec _ _ _ _ _ _ _ _ _ _ _ _ xs ss hs ks s r w2 (H0.out.keep (Keep.below Z_2.out)) hs_ hr_; rw [hno.1, hno.2] at c; exact c))
      go_wp2_with fail
      clear q0 q1 q2 q3
      refine HC.out.mono ?_
      rintro e w3 ⟨AS_, cS_, gS_, rfl, hoS_, hgS_, hb⟩
      have Z_3 := Lib.hid (below_up Z_2.out hb)
      have K_3 := Lib.hid (blk_below K_2.out hb)
      have P__3 := Lib.hid (P_.out.keep (Keep.below hb))
      have S_ := Lib.hid hoS_.ints
      clear hoS_ hgS_
      clear hb HC  Z_2 K_2 P_
      have HC := Lib.hid ((show eqI [] [] = true by simp [eqI]) ▸ equalInts_any _ _ _ _ _ _ [] [] w3 P__3.out S_.out)
      go_wp2_with fail
      refine HC.out.mono ?_
      rintro e w4 ⟨rfl, hq⟩
      have hb := hq.below (B := w3.heap.size)
      have Z_4 := Lib.hid (below_up Z_3.out hb)
      have K_4 := Lib.hid (blk_below K_3.out hb)
      have P__4 := Lib.hid (P__3.out.keep (Keep.below hb))
      have S__4 := Lib.hid (S_.out.keep (Keep.below hb))
      clear hb HC hq  Z_3 K_3 P__3 S_
      have HC := Lib.hid ((show eqI [] [] = true by simp [eqI]) ▸ equalInts_any _ _ _ _ _ _ [] [] w4 P__4.out S__4.out)
      go_wp2_with fail
      refine HC.out.mono ?_
      rintro e w5 ⟨rfl, hq⟩
      have hb := hq.below (B := w4.heap.size)
      have Z_5 := Lib.hid (below_up Z_4.out hb)
      have K_5 := Lib.hid (blk_below K_4.out hb)
      have P__5 := Lib.hid (P__4.out.keep (Keep.below hb))
      have S__5 := Lib.hid (S__4.out.keep (Keep.below hb))
      clear hb HC hq  Z_4 K_4 P__4 S__4
      go_wp2
      go_ret
      exact ⟨rfl, below_up BB.out Z_5.out⟩
    obtain ⟨v, hb4, hb5⟩ := hok
    obtain ⟨a, ha, rfl⟩ : ∃ a : Nat, a < 4 ∧ s = a := ⟨s.toNat, by have := hb4.1; have := hb4.2; omega, by have := hb4.1; omega⟩
    obtain ⟨b, hb6, rfl⟩ : ∃ b : Nat, b < 4 ∧ r = b := ⟨r.toNat, by have := hb5.1; have := hb5.2; omega, by have := hb5.1; omega⟩
    have hy := tp_yes (xs := xs) (ss := ss) (hs := hs) (ks := ks) v ha hb6
    clear hb4 hb5
    obtain ⟨p, ⟨rfl, rfl, rfl, rfl⟩, -, ⟨rfl, rfl, rfl, rfl⟩, hv⟩ := H0.out.tv v
    have HV := Lib.hid hv
    clear hv
    have HSP := Lib.hid (And.intro (spk_swap ss ks (k := 0) ha hb6 (by omega)) (And.intro (spk_swap ss ks (k := 1) ha hb6 (by omega)) (hea_swap xs hs ha hb6)))
    have q0 := blk_cell K.out (i := 0) rfl
    have q1 := blk_cell K.out (i := 1) rfl
    have q2 := blk_cell K.out (i := 2) rfl
    have q3 := blk_cell K.out (i := 3) rfl
    have HC := Lib.hid ((show Calls Try.prog _ _ _ (NewIH (w1.alloc (.cells #[.slice (some ⟨p.b1, p.o1, none⟩) 2 p.c1, .slice (some ⟨p.b2, p.o2, none⟩) 2 p.c2, .slice (some ⟨p.b3, p.o3, none⟩) 2 p.c3, .slice (some ⟨p.b4, p.o4, none⟩) 2 p.c4] 26)) [spk ss ks a b 0, spk ss ks a b 1] (hea xs hs a b)) from by have c := TalkPays_impl _ _ _ _ _ _ _ _ _ _ _ _ xs ss hs ks (a : Int) (b : Int) (w1.alloc (.cells #[.slice (some ⟨p.b1, p.o1, none⟩) 2 p.c1, .slice (some ⟨p.b2, p.o2, none⟩) 2 p.c2, .slice (some ⟨p.b3, p.o3, none⟩) 2 p.c3, .slice (some ⟨p.b4, p.o4, none⟩) 2 p.c4] 26)) (H0.out.keep (Keep.below Z.out)) hs_ hr_; rw [hy.1, hy.2] at c; exact c))
    go_wp2_with fail
    clear q0 q1 q2 q3
    generalize w1.alloc (.cells #[.slice (some ⟨p.b1, p.o1, none⟩) 2 p.c1, .slice (some ⟨p.b2, p.o2, none⟩) 2 p.c2, .slice (some ⟨p.b3, p.o3, none⟩) 2 p.c3, .slice (some ⟨p.b4, p.o4, none⟩) 2 p.c4] 26) = w1a at *
    refine HC.out.mono ?_
    rintro e w2 ⟨AP_, cP_, gP_, rfl, hoP_, hgP_, hb⟩
    have Z_2 := Lib.hid (below_up Z.out hb)
    have K_2 := Lib.hid (blk_below K.out hb)
    have P_ := Lib.hid hoP_
    clear hoP_ hgP_
    clear hb HC  Z K
    have q0 := blk_cell K_2.out (i := 0) rfl
    have q1 := blk_cell K_2.out (i := 1) rfl
    have q2 := blk_cell K_2.out (i := 2) rfl
    have q3 := blk_cell K_2.out (i := 3) rfl
    have HC := Lib.hid ((show Calls Try.prog _ _ _ (NewIH w2 [spk ss ks a b 0, spk ss ks a b 1] (hea xs hs a b)) from by have c := TalkPays_spec _ _ _ _ _ _ _ _ _ _ _ _ xs ss hs ks (a : Int) (b : Int) w2 (H0.out.keep (Keep.below Z_2.out)) hs_ hr_; rw [hy.1, hy.2] at c; exact c))
    go_wp2_with fail
    clear q0 q1 q2 q3
    refine HC.out.mono ?_
    rintro e w3 ⟨AS_, cS_, gS_, rfl, hoS_, hgS_, hb⟩
    have Z_3 := Lib.hid (below_up Z_2.out hb)
    have K_3 := Lib.hid (blk_below K_2.out hb)
    have P__3 := Lib.hid (P_.out.below hb)
    have S_ := Lib.hid hoS_.ints
    clear hoS_ hgS_
    clear hb HC  Z_2 K_2 P_
    have HEI := Lib.hid (show eqI [spk ss ks a b 0, spk ss ks a b 1] [spk ss ks a b 0, spk ss ks a b 1] = true by simp [eqI])
    have HC := Lib.hid (HEI.out ▸ equalInts_any _ _ _ _ _ _ [spk ss ks a b 0, spk ss ks a b 1] [spk ss ks a b 0, spk ss ks a b 1] w3 P__3.out.ints S_.out)
    go_wp2_with fail
    refine HC.out.mono ?_
    rintro e w4 ⟨rfl, hq⟩
    have hb := hq.below (B := w3.heap.size)
    have Z_4 := Lib.hid (below_up Z_3.out hb)
    have K_4 := Lib.hid (blk_below K_3.out hb)
    have P__4 := Lib.hid (P__3.out.below hb)
    have S__4 := Lib.hid (S_.out.keep (Keep.below hb))
    clear hb HC hq  Z_3 K_3 P__3 S_
    clear S__4
    have HEE := Lib.hid True.intro
    generalize hea xs hs a b = E at *
    have hEE : (E != E) = false := by simp
    have HR0_ := Lib.hid (HV.out.t4.row 0 (by omega))
    have HR1_ := Lib.hid (HV.out.t4.row 1 (by omega))
    simp only [Nat.add_zero] at HR0_
    have HC00_ := Lib.hid (HV.out.t4.cell 0 0 (by omega) (by omega))
    have HC01_ := Lib.hid (HV.out.t4.cell 0 1 (by omega) (by omega))
    have HC10_ := Lib.hid (HV.out.t4.cell 1 0 (by omega) (by omega))
    have HC11_ := Lib.hid (HV.out.t4.cell 1 1 (by omega) (by omega))
    simp only [Nat.add_zero] at HC00_ HC10_
    have HBX := HBX0
    have HVV := Lib.hid v
    have hvc := v.2.2.2
    have y00 := hvc.bd (i := 0) (j := 0) (by omega) (by omega)
    have y01 := hvc.bd (i := 0) (j := 1) (by omega) (by omega)
    have y10 := hvc.bd (i := 1) (j := 0) (by omega) (by omega)
    have y11 := hvc.bd (i := 1) (j := 1) (by omega) (by omega)
    have HYY := Lib.hid (And.intro y00 (And.intro y01 (And.intro y10 y11)))
    clear hvc y00 y01 y10 y11
    generalize hk00 : g2 ks 0 0 = k00 at *
    generalize hk01 : g2 ks 0 1 = k01 at *
    generalize hk10 : g2 ks 1 0 = k10 at *
    generalize hk11 : g2 ks 1 1 = k11 at *
    have HKS := Lib.hid (show cX ks = [[k01, k00], [k11, k10]] by unfold cX; rw [hk00, hk01, hk10, hk11])
    clear hk00 hk01 hk10 hk11
    have HZ8 := Lib.hid Z_4.out
    have HK8 := Lib.hid K_4.out
    have HP8 := Lib.hid P__4.out
    clear Z_4 K_4 P__4
    generalize hls : [spk ss ks a b 0, spk ss ks a b 1] = ls at *
    have HLS := Lib.hid hls
    clear hls
    have hl2 : ls.length = 2 := by rw [← HLS.out]; rfl
    rw [hl2] at HP8
    try rw [hl2]
    clear hl2
    go_wp2
    refine wp_region_invF (rs := [0, 1, 2, 3, 4, 5, 6, 7, 8, 9, 10, 11, 12, 13, 14, 15, 16, 17, 18, 19, 20, 21, 22, 23, 24, 25, 26, 27, 28]) [57, 58, 59, 60, 61, 62, 63, 64, 65, 66, 67, 68, 69, 70, 71, 72, 73, 74, 75, 76, 77, 78, 79, 80, 81, 82, 83, 84] (fun L us W => ∃ u57 u58 u59 u60 u61 u62 u63 u64 u65 u66 u67 u68 u69 u70 u71 u72 u73 u74 u75 u76 u77 u78 u79 u80 u81 u82 u83 u84 G1 G2 G3, us = [u57, u58, u59, u60, u61, u62, u63, u64, u65, u66, u67, u68, u69, u70, u71, u72, u73, u74, u75, u76, u77, u78, u79, u80, u81, u82, u83, u84] ∧ RXc p w1 w1a.heap.size w2.heap.size gP_ AP_ cP_ ls k00 k01 k10 k11 L u57 u58 u59 u60 u61 u62 u63 u64 u65 u66 u67 u68 u69 u70 u71 u72 u73 u74 u75 u76 u77 u78 u79 u80 u81 u82 u83 u84 G1 G2 G3 W) (by kernel_rfl) ?_ (by kernel_rfl) (by kernel_rfl) ?_ ?_
    · refine ⟨[undef, undef, undef, undef, undef, undef, undef, undef, undef, undef, undef, undef, undef, undef, undef, undef, undef, undef, undef, undef, undef, undef, undef, undef, undef, undef, undef, undef], ?_, undef, undef, undef, undef, undef, undef, undef, undef, undef, undef, undef, undef, undef, undef, undef, undef, undef, undef, undef, undef, undef, undef, undef, undef, undef, undef, undef, undef, 0, 0, 0, rfl, ?_⟩
      · simp only [frmL, Act.put, List.setIfInBounds_toArray, List.set_cons_zero, List.set_cons_succ]
      exact ⟨below_up HZ8.out ((Below.refl w4.heap.size w4).drew), .inr (blk_below HK8.out ((Below.refl w4.heap.size w4).drew)), HP8.out.below ((Below.refl w4.heap.size w4).drew), blk_lt HK8.out, fun o => o.not_start.elim, fun o => o.not_start.elim, fun o => o.not_start.elim, fun o => o.not_start.elim, fun o => o.not_start.elim, fun o => o.not_start.elim, fun o => o.not_start.elim, fun o => o.not_start.elim, fun o => o.not_start.elim, fun o => o.not_start.elim, fun o => o.not_start.elim, fun o => o.not_start.elim, fun o => o.not_start.elim, fun o => o.not_start.elim, fun o => o.not_start.elim, fun o => o.not_start.elim, fun o => o.not_start.elim, fun o => o.not_start.elim, fun o => o.not_start.elim, fun o => o.not_start.elim, fun o => o.not_start.elim, fun o => o.not_start.elim, fun o => o.not_start.elim, fun o => o.not_start.elim, fun o => o.not_start.elim, fun o => o.not_start.elim, fun o => o.not_start.elim, fun o => o.not_start.elim, fun o => o.not_start.elim, fun o => o.not_start.elim, fun o => o.not_start.elim, fun o => o.not_start.elim, fun o => o.not_start.elim, fun o => o.not_start.elim, fun o => o.not_start.elim, fun o => o.not_start.elim, fun o => o.not_start.elim, fun o => o.not_start.elim⟩
    · refine StepsI.cons (i := 0) (ws := []) rfl (by kernel_rfl) (fun L a W hI hno hon hw K hK => ?_) ?_
      · obtain ⟨_, rfl, u57, u58, u59, u60, u61, u62, u63, u64, u65, u66, u67, u68, u69, u70, u71, u72, u73, u74, u75, u76, u77, u78, u79, u80, u81, u82, u83, u84, G1, G2, G3, rfl, H⟩ := hI
        simp only [List.getElem_toArray, List.getElem_cons_zero]
        simp only [frmL, Act.put, List.setIfInBounds_toArray, List.set_cons_zero, List.set_cons_succ]
        go_simp
        have HN := H
        refine hK.out _ _ ⟨[.pointer (some ⟨w1.heap.size, 3, none⟩), u58, u59, u60, u61, u62, u63, u64, u65, u66, u67, u68, u69, u70, u71, u72, u73, u74, u75, u76, u77, u78, u79, u80, u81, u82, u83, u84], ?_, .pointer (some ⟨w1.heap.size, 3, none⟩), u58, u59, u60, u61, u62, u63, u64, u65, u66, u67, u68, u69, u70, u71, u72, u73, u74, u75, u76, u77, u78, u79, u80, u81, u82, u83, u84, G1, G2, G3, rfl, ?_⟩
        · simp only [frmL, Act.put, List.setIfInBounds_toArray, List.set_cons_zero, List.set_cons_succ]
        · exact ⟨HN.Z, HN.K.imp On.old id, HN.po, HN.zz, fun _ => rfl, fun o => HN.e58 (o.of_set (by decide)), fun o => HN.e59 (o.of_set (by decide)), fun o => HN.e60 (o.of_set (by decide)), fun o => HN.e61 (o.of_set (by decide)), fun o => HN.e62 (o.of_set (by decide)), fun o => (HN.n1 (o.of_set (by decide))).imp On.old id, fun o => HN.e63 (o.of_set (by decide)), fun o => HN.e64 (o.of_set (by decide)), fun o => HN.e65 (o.of_set (by decide)), fun o => HN.e66 (o.of_set (by decide)), fun o => HN.e67 (o.of_set (by decide)), fun o => HN.e68 (o.of_set (by decide)), fun o => (HN.n7 (o.of_set (by decide))).imp On.old id, fun o => HN.e70 (o.of_set (by decide)), fun o => HN.e71 (o.of_set (by decide)), fun o => HN.e72 (o.of_set (by decide)), fun o => HN.e73 (o.of_set (by decide)), fun o => HN.e74 (o.of_set (by decide)), fun o => HN.e75 (o.of_set (by decide)), fun o => (HN.n14 (o.of_set (by decide))).imp On.old id, fun o => HN.e76 (o.of_set (by decide)), fun o => HN.e77 (o.of_set (by decide)), fun o => HN.e78 (o.of_set (by decide)), fun o => HN.e79 (o.of_set (by decide)), fun o => HN.e80 (o.of_set (by decide)), fun o => HN.e81 (o.of_set (by decide)), fun o => (HN.n20 (o.of_set (by decide))).imp On.old id, fun o => HN.e69 (o.of_set (by decide)), fun o => HN.b69 (o.of_set (by decide)), fun o => HN.e82 (o.of_set (by decide)), fun o => HN.b82 (o.of_set (by decide)), fun o => HN.e83 (o.of_set (by decide)), fun o => HN.b83 (o.of_set (by decide)), fun o => (HN.m12 (o.of_set (by decide))).imp On.old On.old, fun o => (HN.m28 (o.of_set (by decide))).imp On.old id, fun o => HN.e84 (o.of_set (by decide)), fun o => HN.y (o.of_set (by decide))⟩
      refine StepsI.cons (i := 1) (ws := [0]) rfl (by kernel_rfl) (fun L a W hI hno hon hw K hK => ?_) ?_
      · obtain ⟨_, rfl, u57, u58, u59, u60, u61, u62, u63, u64, u65, u66, u67, u68, u69, u70, u71, u72, u73, u74, u75, u76, u77, u78, u79, u80, u81, u82, u83, u84, G1, G2, G3, rfl, H⟩ := hI
        simp only [List.getElem_toArray, List.getElem_cons_zero, List.getElem_cons_succ]
        obtain rfl := H.e57 (hw 0 (by simp))
        have hKx := H.K.resolve_left (fun o => hno (H.n1 o).1)
        simp only [frmL, Act.put, List.setIfInBounds_toArray, List.set_cons_zero, List.set_cons_succ]
        have c0 := blk_cell hKx (i := 3) rfl
        go_simp
        have HN := H
        refine hK.out _ _ ⟨[.pointer (some ⟨w1.heap.size, 3, none⟩), .slice (some ⟨p.b4, p.o4, none⟩) 2 p.c4, u59, u60, u61, u62, u63, u64, u65, u66, u67, u68, u69, u70, u71, u72, u73, u74, u75, u76, u77, u78, u79, u80, u81, u82, u83, u84], ?_, .pointer (some ⟨w1.heap.size, 3, none⟩), .slice (some ⟨p.b4, p.o4, none⟩) 2 p.c4, u59, u60, u61, u62, u63, u64, u65, u66, u67, u68, u69, u70, u71, u72, u73, u74, u75, u76, u77, u78, u79, u80, u81, u82, u83, u84, G1, G2, G3, rfl, ?_⟩
        · simp only [frmL, Act.put, List.setIfInBounds_toArray, List.set_cons_zero, List.set_cons_succ]
        · exact ⟨HN.Z, HN.K.imp On.old id, HN.po, HN.zz, fun o => HN.e57 (o.of_set (by decide)), fun _ => rfl, fun o => HN.e59 (o.of_set (by decide)), fun o => HN.e60 (o.of_set (by decide)), fun o => HN.e61 (o.of_set (by decide)), fun o => HN.e62 (o.of_set (by decide)), fun o => (HN.n1 (o.of_set (by decide))).imp On.old id, fun o => HN.e63 (o.of_set (by decide)), fun o => HN.e64 (o.of_set (by decide)), fun o => HN.e65 (o.of_set (by decide)), fun o => HN.e66 (o.of_set (by decide)), fun o => HN.e67 (o.of_set (by decide)), fun o => HN.e68 (o.of_set (by decide)), fun o => (HN.n7 (o.of_set (by decide))).imp On.old id, fun o => HN.e70 (o.of_set (by decide)), fun o => HN.e71 (o.of_set (by decide)), fun o => HN.e72 (o.of_set (by decide)), fun o => HN.e73 (o.of_set (by decide)), fun o => HN.e74 (o.of_set (by decide)), fun o => HN.e75 (o.of_set (by decide)), fun o => (HN.n14 (o.of_set (by decide))).imp On.old id, fun o => HN.e76 (o.of_set (by decide)), fun o => HN.e77 (o.of_set (by decide)), fun o => HN.e78 (o.of_set (by decide)), fun o => HN.e79 (o.of_set (by decide)), fun o => HN.e80 (o.of_set (by decide)), fun o => HN.e81 (o.of_set (by decide)), fun o => (HN.n20 (o.of_set (by decide))).imp On.old id, fun o => HN.e69 (o.of_set (by decide)), fun o => HN.b69 (o.of_set (by decide)), fun o => HN.e82 (o.of_set (by decide)), fun o => HN.b82 (o.of_set (by decide)), fun o => HN.e83 (o.of_set (by decide)), fun o => HN.b83 (o.of_set (by decide)), fun o => (HN.m12 (o.of_set (by decide))).imp On.old On.old, fun o => (HN.m28 (o.of_set (by decide))).imp On.old id, fun o => HN.e84 (o.of_set (by decide)), fun o => HN.y (o.of_set (by decide))⟩
      refine StepsI.cons (i := 2) (ws := [1]) rfl (by kernel_rfl) (fun L a W hI hno hon hw K hK => ?_) ?_
      · obtain ⟨_, rfl, u57, u58, u59, u60, u61, u62, u63, u64, u65, u66, u67, u68, u69, u70, u71, u72, u73, u74, u75, u76, u77, u78, u79, u80, u81, u82, u83, u84, G1, G2, G3, rfl, H⟩ := hI
        simp only [List.getElem_toArray, List.getElem_cons_zero, List.getElem_cons_succ]
        obtain rfl := H.e58 (hw 1 (by simp))
        simp only [frmL, Act.put, List.setIfInBounds_toArray, List.set_cons_zero, List.set_cons_succ]
        go_simp
        have HN := H
        refine hK.out _ _ ⟨[u57, .slice (some ⟨p.b4, p.o4, none⟩) 2 p.c4, .pointer (some ⟨p.b4, p.o4, none⟩), u60, u61, u62, u63, u64, u65, u66, u67, u68, u69, u70, u71, u72, u73, u74, u75, u76, u77, u78, u79, u80, u81, u82, u83, u84], ?_, u57, .slice (some ⟨p.b4, p.o4, none⟩) 2 p.c4, .pointer (some ⟨p.b4, p.o4, none⟩), u60, u61, u62, u63, u64, u65, u66, u67, u68, u69, u70, u71, u72, u73, u74, u75, u76, u77, u78, u79, u80, u81, u82, u83, u84, G1, G2, G3, rfl, ?_⟩
        · simp only [frmL, Act.put, List.setIfInBounds_toArray, List.set_cons_zero, List.set_cons_succ]
        · exact ⟨HN.Z, HN.K.imp On.old id, HN.po, HN.zz, fun o => HN.e57 (o.of_set (by decide)), fun o => HN.e58 (o.of_set (by decide)), fun _ => rfl, fun o => HN.e60 (o.of_set (by decide)), fun o => HN.e61 (o.of_set (by decide)), fun o => HN.e62 (o.of_set (by decide)), fun o => (HN.n1 (o.of_set (by decide))).imp On.old id, fun o => HN.e63 (o.of_set (by decide)), fun o => HN.e64 (o.of_set (by decide)), fun o => HN.e65 (o.of_set (by decide)), fun o => HN.e66 (o.of_set (by decide)), fun o => HN.e67 (o.of_set (by decide)), fun o => HN.e68 (o.of_set (by decide)), fun o => (HN.n7 (o.of_set (by decide))).imp On.old id, fun o => HN.e70 (o.of_set (by decide)), fun o => HN.e71 (o.of_set (by decide)), fun o => HN.e72 (o.of_set (by decide)), fun o => HN.e73 (o.of_set (by decide)), fun o => HN.e74 (o.of_set (by decide)), fun o => HN.e75 (o.of_set (by decide)), fun o => (HN.n14 (o.of_set (by decide))).imp On.old id, fun o => HN.e76 (o.of_set (by decide)), fun o => HN.e77 (o.of_set (by decide)), fun o => HN.e78 (o.of_set (by decide)), fun o => HN.e79 (o.of_set (by decide)), fun o => HN.e80 (o.of_set (by decide)), fun o => HN.e81 (o.of_set (by decide)), fun o => (HN.n20 (o.of_set (by decide))).imp On.old id, fun o => HN.e69 (o.of_set (by decide)), fun o => HN.b69 (o.of_set (by decide)), fun o => HN.e82 (o.of_set (by decide)), fun o => HN.b82 (o.of_set (by decide)), fun o => HN.e83 (o.of_set (by decide)), fun o => HN.b83 (o.of_set (by decide)), fun o => (HN.m12 (o.of_set (by decide))).imp On.old On.old, fun o => (HN.m28 (o.of_set (by decide))).imp On.old id, fun o => HN.e84 (o.of_set (by decide)), fun o => HN.y (o.of_set (by decide))⟩
      refine StepsI.cons (i := 3) (ws := [2]) rfl (by kernel_rfl) (fun L a W hI hno hon hw K hK => ?_) ?_
      · obtain ⟨_, rfl, u57, u58, u59, u60, u61, u62, u63, u64, u65, u66, u67, u68, u69, u70, u71, u72, u73, u74, u75, u76, u77, u78, u79, u80, u81, u82, u83, u84, G1, G2, G3, rfl, H⟩ := hI
        simp only [List.getElem_toArray, List.getElem_cons_zero, List.getElem_cons_succ]
        obtain rfl := H.e59 (hw 2 (by simp))
        simp only [frmL, Act.put, List.setIfInBounds_toArray, List.set_cons_zero, List.set_cons_succ]
        have c0 := Keep.below H.Z _ _ HR0_.out
        go_simp
        have HN := H
        refine hK.out _ _ ⟨[u57, u58, .pointer (some ⟨p.b4, p.o4, none⟩), .slice (some ⟨p.r4 0, p.q4 0, none⟩) 2 (p.d4 0), u61, u62, u63, u64, u65, u66, u67, u68, u69, u70, u71, u72, u73, u74, u75, u76, u77, u78, u79, u80, u81, u82, u83, u84], ?_, u57, u58, .pointer (some ⟨p.b4, p.o4, none⟩), .slice (some ⟨p.r4 0, p.q4 0, none⟩) 2 (p.d4 0), u61, u62, u63, u64, u65, u66, u67, u68, u69, u70, u71, u72, u73, u74, u75, u76, u77, u78, u79, u80, u81, u82, u83, u84, G1, G2, G3, rfl, ?_⟩
        · simp only [frmL, Act.put, List.setIfInBounds_toArray, List.set_cons_zero, List.set_cons_succ]
        · exact ⟨HN.Z, HN.K.imp On.old id, HN.po, HN.zz, fun o => HN.e57 (o.of_set (by decide)), fun o => HN.e58 (o.of_set (by decide)), fun o => HN.e59 (o.of_set (by decide)), fun _ => rfl, fun o => HN.e61 (o.of_set (by decide)), fun o => HN.e62 (o.of_set (by decide)), fun o => (HN.n1 (o.of_set (by decide))).imp On.old id, fun o => HN.e63 (o.of_set (by decide)), fun o => HN.e64 (o.of_set (by decide)), fun o => HN.e65 (o.of_set (by decide)), fun o => HN.e66 (o.of_set (by decide)), fun o => HN.e67 (o.of_set (by decide)), fun o => HN.e68 (o.of_set (by decide)), fun o => (HN.n7 (o.of_set (by decide))).imp On.old id, fun o => HN.e70 (o.of_set (by decide)), fun o => HN.e71 (o.of_set (by decide)), fun o => HN.e72 (o.of_set (by decide)), fun o => HN.e73 (o.of_set (by decide)), fun o => HN.e74 (o.of_set (by decide)), fun o => HN.e75 (o.of_set (by decide)), fun o => (HN.n14 (o.of_set (by decide))).imp On.old id, fun o => HN.e76 (o.of_set (by decide)), fun o => HN.e77 (o.of_set (by decide)), fun o => HN.e78 (o.of_set (by decide)), fun o => HN.e79 (o.of_set (by decide)), fun o => HN.e80 (o.of_set (by decide)), fun o => HN.e81 (o.of_set (by decide)), fun o => (HN.n20 (o.of_set (by decide))).imp On.old id, fun o => HN.e69 (o.of_set (by decide)), fun o => HN.b69 (o.of_set (by decide)), fun o => HN.e82 (o.of_set (by decide)), fun o => HN.b82 (o.of_set (by decide)), fun o => HN.e83 (o.of_set (by decide)), fun o => HN.b83 (o.of_set (by decide)), fun o => (HN.m12 (o.of_set (by decide))).imp On.old On.old, fun o => (HN.m28 (o.of_set (by decide))).imp On.old id, fun o => HN.e84 (o.of_set (by decide)), fun o => HN.y (o.of_set (by decide))⟩
      refine StepsI.cons (i := 4) (ws := [3]) rfl (by kernel_rfl) (fun L a W hI hno hon hw K hK => ?_) ?_
      · obtain ⟨_, rfl, u57, u58, u59, u60, u61, u62, u63, u64, u65, u66, u67, u68, u69, u70, u71, u72, u73, u74, u75, u76, u77, u78, u79, u80, u81, u82, u83, u84, G1, G2, G3, rfl, H⟩ := hI
        simp only [List.getElem_toArray, List.getElem_cons_zero, List.getElem_cons_succ]
        obtain rfl := H.e60 (hw 3 (by simp))
        simp only [frmL, Act.put, List.setIfInBounds_toArray, List.set_cons_zero, List.set_cons_succ]
        go_simp
        have HN := H
        refine hK.out _ _ ⟨[u57, u58, u59, .slice (some ⟨p.r4 0, p.q4 0, none⟩) 2 (p.d4 0), .pointer (some ⟨p.r4 0, p.q4 0 + 1, none⟩), u62, u63, u64, u65, u66, u67, u68, u69, u70, u71, u72, u73, u74, u75, u76, u77, u78, u79, u80, u81, u82, u83, u84], ?_, u57, u58, u59, .slice (some ⟨p.r4 0, p.q4 0, none⟩) 2 (p.d4 0), .pointer (some ⟨p.r4 0, p.q4 0 + 1, none⟩), u62, u63, u64, u65, u66, u67, u68, u69, u70, u71, u72, u73, u74, u75, u76, u77, u78, u79, u80, u81, u82, u83, u84, G1, G2, G3, rfl, ?_⟩
        · simp only [frmL, Act.put, List.setIfInBounds_toArray, List.set_cons_zero, List.set_cons_succ]
        · exact ⟨HN.Z, HN.K.imp On.old id, HN.po, HN.zz, fun o => HN.e57 (o.of_set (by decide)), fun o => HN.e58 (o.of_set (by decide)), fun o => HN.e59 (o.of_set (by decide)), fun o => HN.e60 (o.of_set (by decide)), fun _ => rfl, fun o => HN.e62 (o.of_set (by decide)), fun o => (HN.n1 (o.of_set (by decide))).imp On.old id, fun o => HN.e63 (o.of_set (by decide)), fun o => HN.e64 (o.of_set (by decide)), fun o => HN.e65 (o.of_set (by decide)), fun o => HN.e66 (o.of_set (by decide)), fun o => HN.e67 (o.of_set (by decide)), fun o => HN.e68 (o.of_set (by decide)), fun o => (HN.n7 (o.of_set (by decide))).imp On.old id, fun o => HN.e70 (o.of_set (by decide)), fun o => HN.e71 (o.of_set (by decide)), fun o => HN.e72 (o.of_set (by decide)), fun o => HN.e73 (o.of_set (by decide)), fun o => HN.e74 (o.of_set (by decide)), fun o => HN.e75 (o.of_set (by decide)), fun o => (HN.n14 (o.of_set (by decide))).imp On.old id, fun o => HN.e76 (o.of_set (by decide)), fun o => HN.e77 (o.of_set (by decide)), fun o => HN.e78 (o.of_set (by decide)), fun o => HN.e79 (o.of_set (by decide)), fun o => HN.e80 (o.of_set (by decide)), fun o => HN.e81 (o.of_set (by decide)), fun o => (HN.n20 (o.of_set (by decide))).imp On.old id, fun o => HN.e69 (o.of_set (by decide)), fun o => HN.b69 (o.of_set (by decide)), fun o => HN.e82 (o.of_set (by decide)), fun o => HN.b82 (o.of_set (by decide)), fun o => HN.e83 (o.of_set (by decide)), fun o => HN.b83 (o.of_set (by decide)), fun o => (HN.m12 (o.of_set (by decide))).imp On.old On.old, fun o => (HN.m28 (o.of_set (by decide))).imp On.old id, fun o => HN.e84 (o.of_set (by decide)), fun o => HN.y (o.of_set (by decide))⟩
      refine StepsI.cons (i := 5) (ws := [4]) rfl (by kernel_rfl) (fun L a W hI hno hon hw K hK => ?_) ?_
      · obtain ⟨_, rfl, u57, u58, u59, u60, u61, u62, u63, u64, u65, u66, u67, u68, u69, u70, u71, u72, u73, u74, u75, u76, u77, u78, u79, u80, u81, u82, u83, u84, G1, G2, G3, rfl, H⟩ := hI
        simp only [List.getElem_toArray, List.getElem_cons_zero, List.getElem_cons_succ]
        obtain rfl := H.e61 (hw 4 (by simp))
        simp only [frmL, Act.put, List.setIfInBounds_toArray, List.set_cons_zero, List.set_cons_succ]
        have c0 := Keep.below H.Z _ _ HC01_.out
        go_simp
        have HN := H
        refine hK.out _ _ ⟨[u57, u58, u59, u60, .pointer (some ⟨p.r4 0, p.q4 0 + 1, none⟩), .int .i64 k01, u63, u64, u65, u66, u67, u68, u69, u70, u71, u72, u73, u74, u75, u76, u77, u78, u79, u80, u81, u82, u83, u84], ?_, u57, u58, u59, u60, .pointer (some ⟨p.r4 0, p.q4 0 + 1, none⟩), .int .i64 k01, u63, u64, u65, u66, u67, u68, u69, u70, u71, u72, u73, u74, u75, u76, u77, u78, u79, u80, u81, u82, u83, u84, G1, G2, G3, rfl, ?_⟩
        · simp only [frmL, Act.put, List.setIfInBounds_toArray, List.set_cons_zero, List.set_cons_succ]
        · exact ⟨HN.Z, HN.K.imp On.old id, HN.po, HN.zz, fun o => HN.e57 (o.of_set (by decide)), fun o => HN.e58 (o.of_set (by decide)), fun o => HN.e59 (o.of_set (by decide)), fun o => HN.e60 (o.of_set (by decide)), fun o => HN.e61 (o.of_set (by decide)), fun _ => rfl, fun o => (HN.n1 (o.of_set (by decide))).imp On.old id, fun o => HN.e63 (o.of_set (by decide)), fun o => HN.e64 (o.of_set (by decide)), fun o => HN.e65 (o.of_set (by decide)), fun o => HN.e66 (o.of_set (by decide)), fun o => HN.e67 (o.of_set (by decide)), fun o => HN.e68 (o.of_set (by decide)), fun o => (HN.n7 (o.of_set (by decide))).imp On.old id, fun o => HN.e70 (o.of_set (by decide)), fun o => HN.e71 (o.of_set (by decide)), fun o => HN.e72 (o.of_set (by decide)), fun o => HN.e73 (o.of_set (by decide)), fun o => HN.e74 (o.of_set (by decide)), fun o => HN.e75 (o.of_set (by decide)), fun o => (HN.n14 (o.of_set (by decide))).imp On.old id, fun o => HN.e76 (o.of_set (by decide)), fun o => HN.e77 (o.of_set (by decide)), fun o => HN.e78 (o.of_set (by decide)), fun o => HN.e79 (o.of_set (by decide)), fun o => HN.e80 (o.of_set (by decide)), fun o => HN.e81 (o.of_set (by decide)), fun o => (HN.n20 (o.of_set (by decide))).imp On.old id, fun o => HN.e69 (o.of_set (by decide)), fun o => HN.b69 (o.of_set (by decide)), fun o => HN.e82 (o.of_set (by decide)), fun o => HN.b82 (o.of_set (by decide)), fun o => HN.e83 (o.of_set (by decide)), fun o => HN.b83 (o.of_set (by decide)), fun o => (HN.m12 (o.of_set (by decide))).imp On.old On.old, fun o => (HN.m28 (o.of_set (by decide))).imp On.old id, fun o => HN.e84 (o.of_set (by decide)), fun o => HN.y (o.of_set (by decide))⟩
      refine StepsI.cons (i := 6) (ws := []) rfl (by kernel_rfl) (fun L a W hI hno hon hw K hK => ?_) ?_
      · obtain ⟨_, rfl, u57, u58, u59, u60, u61, u62, u63, u64, u65, u66, u67, u68, u69, u70, u71, u72, u73, u74, u75, u76, u77, u78, u79, u80, u81, u82, u83, u84, G1, G2, G3, rfl, H⟩ := hI
        simp only [List.getElem_toArray, List.getElem_cons_zero, List.getElem_cons_succ]
        simp only [frmL, Act.put, List.setIfInBounds_toArray, List.set_cons_zero, List.set_cons_succ]
        go_simp
        have HN := H
        refine hK.out _ _ ⟨[u57, u58, u59, u60, u61, u62, .pointer (some ⟨w1.heap.size, 3, none⟩), u64, u65, u66, u67, u68, u69, u70, u71, u72, u73, u74, u75, u76, u77, u78, u79, u80, u81, u82, u83, u84], ?_, u57, u58, u59, u60, u61, u62, .pointer (some ⟨w1.heap.size, 3, none⟩), u64, u65, u66, u67, u68, u69, u70, u71, u72, u73, u74, u75, u76, u77, u78, u79, u80, u81, u82, u83, u84, G1, G2, G3, rfl, ?_⟩
        · simp only [frmL, Act.put, List.setIfInBounds_toArray, List.set_cons_zero, List.set_cons_succ]
        · exact ⟨HN.Z, HN.K.imp On.old id, HN.po, HN.zz, fun o => HN.e57 (o.of_set (by decide)), fun o => HN.e58 (o.of_set (by decide)), fun o => HN.e59 (o.of_set (by decide)), fun o => HN.e60 (o.of_set (by decide)), fun o => HN.e61 (o.of_set (by decide)), fun o => HN.e62 (o.of_set (by decide)), fun o => (HN.n1 (o.of_set (by decide))).imp On.old id, fun _ => rfl, fun o => HN.e64 (o.of_set (by decide)), fun o => HN.e65 (o.of_set (by decide)), fun o => HN.e66 (o.of_set (by decide)), fun o => HN.e67 (o.of_set (by decide)), fun o => HN.e68 (o.of_set (by decide)), fun o => (HN.n7 (o.of_set (by decide))).imp On.old id, fun o => HN.e70 (o.of_set (by decide)), fun o => HN.e71 (o.of_set (by decide)), fun o => HN.e72 (o.of_set (by decide)), fun o => HN.e73 (o.of_set (by decide)), fun o => HN.e74 (o.of_set (by decide)), fun o => HN.e75 (o.of_set (by decide)), fun o => (HN.n14 (o.of_set (by decide))).imp On.old id, fun o => HN.e76 (o.of_set (by decide)), fun o => HN.e77 (o.of_set (by decide)), fun o => HN.e78 (o.of_set (by decide)), fun o => HN.e79 (o.of_set (by decide)), fun o => HN.e80 (o.of_set (by decide)), fun o => HN.e81 (o.of_set (by decide)), fun o => (HN.n20 (o.of_set (by decide))).imp On.old id, fun o => HN.e69 (o.of_set (by decide)), fun o => HN.b69 (o.of_set (by decide)), fun o => HN.e82 (o.of_set (by decide)), fun o => HN.b82 (o.of_set (by decide)), fun o => HN.e83 (o.of_set (by decide)), fun o => HN.b83 (o.of_set (by decide)), fun o => (HN.m12 (o.of_set (by decide))).imp On.old On.old, fun o => (HN.m28 (o.of_set (by decide))).imp On.old id, fun o => HN.e84 (o.of_set (by decide)), fun o => HN.y (o.of_set (by decide))⟩
      refine StepsI.cons (i := 7) (ws := [6]) rfl (by kernel_rfl) (fun L a W hI hno hon hw K hK => ?_) ?_
      · obtain ⟨_, rfl, u57, u58, u59, u60, u61, u62, u63, u64, u65, u66, u67, u68, u69, u70, u71, u72, u73, u74, u75, u76, u77, u78, u79, u80, u81, u82, u83, u84, G1, G2, G3, rfl, H⟩ := hI
        simp only [List.getElem_toArray, List.getElem_cons_zero, List.getElem_cons_succ]
        obtain rfl := H.e63 (hw 6 (by simp))
        have hKx := H.K.resolve_left (fun o => hno (H.n7 o).1)
        simp only [frmL, Act.put, List.setIfInBounds_toArray, List.set_cons_zero, List.set_cons_succ]
        have c0 := blk_cell hKx (i := 3) rfl
        go_simp
        have HN := H
        refine hK.out _ _ ⟨[u57, u58, u59, u60, u61, u62, .pointer (some ⟨w1.heap.size, 3, none⟩), .slice (some ⟨p.b4, p.o4, none⟩) 2 p.c4, u65, u66, u67, u68, u69, u70, u71, u72, u73, u74, u75, u76, u77, u78, u79, u80, u81, u82, u83, u84], ?_, u57, u58, u59, u60, u61, u62, .pointer (some ⟨w1.heap.size, 3, none⟩), .slice (some ⟨p.b4, p.o4, none⟩) 2 p.c4, u65, u66, u67, u68, u69, u70, u71, u72, u73, u74, u75, u76, u77, u78, u79, u80, u81, u82, u83, u84, G1, G2, G3, rfl, ?_⟩
        · simp only [frmL, Act.put, List.setIfInBounds_toArray, List.set_cons_zero, List.set_cons_succ]
        · exact ⟨HN.Z, HN.K.imp On.old id, HN.po, HN.zz, fun o => HN.e57 (o.of_set (by decide)), fun o => HN.e58 (o.of_set (by decide)), fun o => HN.e59 (o.of_set (by decide)), fun o => HN.e60 (o.of_set (by decide)), fun o => HN.e61 (o.of_set (by decide)), fun o => HN.e62 (o.of_set (by decide)), fun o => (HN.n1 (o.of_set (by decide))).imp On.old id, fun o => HN.e63 (o.of_set (by decide)), fun _ => rfl, fun o => HN.e65 (o.of_set (by decide)), fun o => HN.e66 (o.of_set (by decide)), fun o => HN.e67 (o.of_set (by decide)), fun o => HN.e68 (o.of_set (by decide)), fun o => (HN.n7 (o.of_set (by decide))).imp On.old id, fun o => HN.e70 (o.of_set (by decide)), fun o => HN.e71 (o.of_set (by decide)), fun o => HN.e72 (o.of_set (by decide)), fun o => HN.e73 (o.of_set (by decide)), fun o => HN.e74 (o.of_set (by decide)), fun o => HN.e75 (o.of_set (by decide)), fun o => (HN.n14 (o.of_set (by decide))).imp On.old id, fun o => HN.e76 (o.of_set (by decide)), fun o => HN.e77 (o.of_set (by decide)), fun o => HN.e78 (o.of_set (by decide)), fun o => HN.e79 (o.of_set (by decide)), fun o => HN.e80 (o.of_set (by decide)), fun o => HN.e81 (o.of_set (by decide)), fun o => (HN.n20 (o.of_set (by decide))).imp On.old id, fun o => HN.e69 (o.of_set (by decide)), fun o => HN.b69 (o.of_set (by decide)), fun o => HN.e82 (o.of_set (by decide)), fun o => HN.b82 (o.of_set (by decide)), fun o => HN.e83 (o.of_set (by decide)), fun o => HN.b83 (o.of_set (by decide)), fun o => (HN.m12 (o.of_set (by decide))).imp On.old On.old, fun o => (HN.m28 (o.of_set (by decide))).imp On.old id, fun o => HN.e84 (o.of_set (by decide)), fun o => HN.y (o.of_set (by decide))⟩
      refine StepsI.cons (i := 8) (ws := [7]) rfl (by kernel_rfl) (fun L a W hI hno hon hw K hK => ?_) ?_
      · obtain ⟨_, rfl, u57, u58, u59, u60, u61, u62, u63, u64, u65, u66, u67, u68, u69, u70, u71, u72, u73, u74, u75, u76, u77, u78, u79, u80, u81, u82, u83, u84, G1, G2, G3, rfl, H⟩ := hI
        simp only [List.getElem_toArray, List.getElem_cons_zero, List.getElem_cons_succ]
        obtain rfl := H.e64 (hw 7 (by simp))
        simp only [frmL, Act.put, List.setIfInBounds_toArray, List.set_cons_zero, List.set_cons_succ]
        go_simp
        have HN := H
        refine hK.out _ _ ⟨[u57, u58, u59, u60, u61, u62, u63, .slice (some ⟨p.b4, p.o4, none⟩) 2 p.c4, .pointer (some ⟨p.b4, p.o4, none⟩), u66, u67, u68, u69, u70, u71, u72, u73, u74, u75, u76, u77, u78, u79, u80, u81, u82, u83, u84], ?_, u57, u58, u59, u60, u61, u62, u63, .slice (some ⟨p.b4, p.o4, none⟩) 2 p.c4, .pointer (some ⟨p.b4, p.o4, none⟩), u66, u67, u68, u69, u70, u71, u72, u73, u74, u75, u76, u77, u78, u79, u80, u81, u82, u83, u84, G1, G2, G3, rfl, ?_⟩
        · simp only [frmL, Act.put, List.setIfInBounds_toArray, List.set_cons_zero, List.set_cons_succ]
        · exact ⟨HN.Z, HN.K.imp On.old id, HN.po, HN.zz, fun o => HN.e57 (o.of_set (by decide)), fun o => HN.e58 (o.of_set (by decide)), fun o => HN.e59 (o.of_set (by decide)), fun o => HN.e60 (o.of_set (by decide)), fun o => HN.e61 (o.of_set (by decide)), fun o => HN.e62 (o.of_set (by decide)), fun o => (HN.n1 (o.of_set (by decide))).imp On.old id, fun o => HN.e63 (o.of_set (by decide)), fun o => HN.e64 (o.of_set (by decide)), fun _ => rfl, fun o => HN.e66 (o.of_set (by decide)), fun o => HN.e67 (o.of_set (by decide)), fun o => HN.e68 (o.of_set (by decide)), fun o => (HN.n7 (o.of_set (by decide))).imp On.old id, fun o => HN.e70 (o.of_set (by decide)), fun o => HN.e71 (o.of_set (by decide)), fun o => HN.e72 (o.of_set (by decide)), fun o => HN.e73 (o.of_set (by decide)), fun o => HN.e74 (o.of_set (by decide)), fun o => HN.e75 (o.of_set (by decide)), fun o => (HN.n14 (o.of_set (by decide))).imp On.old id, fun o => HN.e76 (o.of_set (by decide)), fun o => HN.e77 (o.of_set (by decide)), fun o => HN.e78 (o.of_set (by decide)), fun o => HN.e79 (o.of_set (by decide)), fun o => HN.e80 (o.of_set (by decide)), fun o => HN.e81 (o.of_set (by decide)), fun o => (HN.n20 (o.of_set (by decide))).imp On.old id, fun o => HN.e69 (o.of_set (by decide)), fun o => HN.b69 (o.of_set (by decide)), fun o => HN.e82 (o.of_set (by decide)), fun o => HN.b82 (o.of_set (by decide)), fun o => HN.e83 (o.of_set (by decide)), fun o => HN.b83 (o.of_set (by decide)), fun o => (HN.m12 (o.of_set (by decide))).imp On.old On.old, fun o => (HN.m28 (o.of_set (by decide))).imp On.old id, fun o => HN.e84 (o.of_set (by decide)), fun o => HN.y (o.of_set (by decide))⟩
      refine StepsI.cons (i := 9) (ws := [8]) rfl (by kernel_rfl) (fun L a W hI hno hon hw K hK => ?_) ?_
      · obtain ⟨_, rfl, u57, u58, u59, u60, u61, u62, u63, u64, u65, u66, u67, u68, u69, u70, u71, u72, u73, u74, u75, u76, u77, u78, u79, u80, u81, u82, u83, u84, G1, G2, G3, rfl, H⟩ := hI
        simp only [List.getElem_toArray, List.getElem_cons_zero, List.getElem_cons_succ]
        obtain rfl := H.e65 (hw 8 (by simp))
        simp only [frmL, Act.put, List.setIfInBounds_toArray, List.set_cons_zero, List.set_cons_succ]
        have c0 := Keep.below H.Z _ _ HR0_.out
        go_simp
        have HN := H
        refine hK.out _ _ ⟨[u57, u58, u59, u60, u61, u62, u63, u64, .pointer (some ⟨p.b4, p.o4, none⟩), .slice (some ⟨p.r4 0, p.q4 0, none⟩) 2 (p.d4 0), u67, u68, u69, u70, u71, u72, u73, u74, u75, u76, u77, u78, u79, u80, u81, u82, u83, u84], ?_, u57, u58, u59, u60, u61, u62, u63, u64, .pointer (some ⟨p.b4, p.o4, none⟩), .slice (some ⟨p.r4 0, p.q4 0, none⟩) 2 (p.d4 0), u67, u68, u69, u70, u71, u72, u73, u74, u75, u76, u77, u78, u79, u80, u81, u82, u83, u84, G1, G2, G3, rfl, ?_⟩
        · simp only [frmL, Act.put, List.setIfInBounds_toArray, List.set_cons_zero, List.set_cons_succ]
        · exact ⟨HN.Z, HN.K.imp On.old id, HN.po, HN.zz, fun o => HN.e57 (o.of_set (by decide)), fun o => HN.e58 (o.of_set (by decide)), fun o => HN.e59 (o.of_set (by decide)), fun o => HN.e60 (o.of_set (by decide)), fun o => HN.e61 (o.of_set (by decide)), fun o => HN.e62 (o.of_set (by decide)), fun o => (HN.n1 (o.of_set (by decide))).imp On.old id, fun o => HN.e63 (o.of_set (by decide)), fun o => HN.e64 (o.of_set (by decide)), fun o => HN.e65 (o.of_set (by decide)), fun _ => rfl, fun o => HN.e67 (o.of_set (by decide)), fun o => HN.e68 (o.of_set (by decide)), fun o => (HN.n7 (o.of_set (by decide))).imp On.old id, fun o => HN.e70 (o.of_set (by decide)), fun o => HN.e71 (o.of_set (by decide)), fun o => HN.e72 (o.of_set (by decide)), fun o => HN.e73 (o.of_set (by decide)), fun o => HN.e74 (o.of_set (by decide)), fun o => HN.e75 (o.of_set (by decide)), fun o => (HN.n14 (o.of_set (by decide))).imp On.old id, fun o => HN.e76 (o.of_set (by decide)), fun o => HN.e77 (o.of_set (by decide)), fun o => HN.e78 (o.of_set (by decide)), fun o => HN.e79 (o.of_set (by decide)), fun o => HN.e80 (o.of_set (by decide)), fun o => HN.e81 (o.of_set (by decide)), fun o => (HN.n20 (o.of_set (by decide))).imp On.old id, fun o => HN.e69 (o.of_set (by decide)), fun o => HN.b69 (o.of_set (by decide)), fun o => HN.e82 (o.of_set (by decide)), fun o => HN.b82 (o.of_set (by decide)), fun o => HN.e83 (o.of_set (by decide)), fun o => HN.b83 (o.of_set (by decide)), fun o => (HN.m12 (o.of_set (by decide))).imp On.old On.old, fun o => (HN.m28 (o.of_set (by decide))).imp On.old id, fun o => HN.e84 (o.of_set (by decide)), fun o => HN.y (o.of_set (by decide))⟩
      refine StepsI.cons (i := 10) (ws := [9]) rfl (by kernel_rfl) (fun L a W hI hno hon hw K hK => ?_) ?_
      · obtain ⟨_, rfl, u57, u58, u59, u60, u61, u62, u63, u64, u65, u66, u67, u68, u69, u70, u71, u72, u73, u74, u75, u76, u77, u78, u79, u80, u81, u82, u83, u84, G1, G2, G3, rfl, H⟩ := hI
        simp only [List.getElem_toArray, List.getElem_cons_zero, List.getElem_cons_succ]
        obtain rfl := H.e66 (hw 9 (by simp))
        simp only [frmL, Act.put, List.setIfInBounds_toArray, List.set_cons_zero, List.set_cons_succ]
        go_simp
        have HN := H
        refine hK.out _ _ ⟨[u57, u58, u59, u60, u61, u62, u63, u64, u65, .slice (some ⟨p.r4 0, p.q4 0, none⟩) 2 (p.d4 0), .pointer (some ⟨p.r4 0, p.q4 0, none⟩), u68, u69, u70, u71, u72, u73, u74, u75, u76, u77, u78, u79, u80, u81, u82, u83, u84], ?_, u57, u58, u59, u60, u61, u62, u63, u64, u65, .slice (some ⟨p.r4 0, p.q4 0, none⟩) 2 (p.d4 0), .pointer (some ⟨p.r4 0, p.q4 0, none⟩), u68, u69, u70, u71, u72, u73, u74, u75, u76, u77, u78, u79, u80, u81, u82, u83, u84, G1, G2, G3, rfl, ?_⟩
        · simp only [frmL, Act.put, List.setIfInBounds_toArray, List.set_cons_zero, List.set_cons_succ]
        · exact ⟨HN.Z, HN.K.imp On.old id, HN.po, HN.zz, fun o => HN.e57 (o.of_set (by decide)), fun o => HN.e58 (o.of_set (by decide)), fun o => HN.e59 (o.of_set (by decide)), fun o => HN.e60 (o.of_set (by decide)), fun o => HN.e61 (o.of_set (by decide)), fun o => HN.e62 (o.of_set (by decide)), fun o => (HN.n1 (o.of_set (by decide))).imp On.old id, fun o => HN.e63 (o.of_set (by decide)), fun o => HN.e64 (o.of_set (by decide)), fun o => HN.e65 (o.of_set (by decide)), fun o => HN.e66 (o.of_set (by decide)), fun _ => rfl, fun o => HN.e68 (o.of_set (by decide)), fun o => (HN.n7 (o.of_set (by decide))).imp On.old id, fun o => HN.e70 (o.of_set (by decide)), fun o => HN.e71 (o.of_set (by decide)), fun o => HN.e72 (o.of_set (by decide)), fun o => HN.e73 (o.of_set (by decide)), fun o => HN.e74 (o.of_set (by decide)), fun o => HN.e75 (o.of_set (by decide)), fun o => (HN.n14 (o.of_set (by decide))).imp On.old id, fun o => HN.e76 (o.of_set (by decide)), fun o => HN.e77 (o.of_set (by decide)), fun o => HN.e78 (o.of_set (by decide)), fun o => HN.e79 (o.of_set (by decide)), fun o => HN.e80 (o.of_set (by decide)), fun o => HN.e81 (o.of_set (by decide)), fun o => (HN.n20 (o.of_set (by decide))).imp On.old id, fun o => HN.e69 (o.of_set (by decide)), fun o => HN.b69 (o.of_set (by decide)), fun o => HN.e82 (o.of_set (by decide)), fun o => HN.b82 (o.of_set (by decide)), fun o => HN.e83 (o.of_set (by decide)), fun o => HN.b83 (o.of_set (by decide)), fun o => (HN.m12 (o.of_set (by decide))).imp On.old On.old, fun o => (HN.m28 (o.of_set (by decide))).imp On.old id, fun o => HN.e84 (o.of_set (by decide)), fun o => HN.y (o.of_set (by decide))⟩
      refine StepsI.cons (i := 11) (ws := [10]) rfl (by kernel_rfl) (fun L a W hI hno hon hw K hK => ?_) ?_
      · obtain ⟨_, rfl, u57, u58, u59, u60, u61, u62, u63, u64, u65, u66, u67, u68, u69, u70, u71, u72, u73, u74, u75, u76, u77, u78, u79, u80, u81, u82, u83, u84, G1, G2, G3, rfl, H⟩ := hI
        simp only [List.getElem_toArray, List.getElem_cons_zero, List.getElem_cons_succ]
        obtain rfl := H.e67 (hw 10 (by simp))
        simp only [frmL, Act.put, List.setIfInBounds_toArray, List.set_cons_zero, List.set_cons_succ]
        have c0 := Keep.below H.Z _ _ HC00_.out
        go_simp
        have HN := H
        refine hK.out _ _ ⟨[u57, u58, u59, u60, u61, u62, u63, u64, u65, u66, .pointer (some ⟨p.r4 0, p.q4 0, none⟩), .int .i64 k00, u69, u70, u71, u72, u73, u74, u75, u76, u77, u78, u79, u80, u81, u82, u83, u84], ?_, u57, u58, u59, u60, u61, u62, u63, u64, u65, u66, .pointer (some ⟨p.r4 0, p.q4 0, none⟩), .int .i64 k00, u69, u70, u71, u72, u73, u74, u75, u76, u77, u78, u79, u80, u81, u82, u83, u84, G1, G2, G3, rfl, ?_⟩
        · simp only [frmL, Act.put, List.setIfInBounds_toArray, List.set_cons_zero, List.set_cons_succ]
        · exact ⟨HN.Z, HN.K.imp On.old id, HN.po, HN.zz, fun o => HN.e57 (o.of_set (by decide)), fun o => HN.e58 (o.of_set (by decide)), fun o => HN.e59 (o.of_set (by decide)), fun o => HN.e60 (o.of_set (by decide)), fun o => HN.e61 (o.of_set (by decide)), fun o => HN.e62 (o.of_set (by decide)), fun o => (HN.n1 (o.of_set (by decide))).imp On.old id, fun o => HN.e63 (o.of_set (by decide)), fun o => HN.e64 (o.of_set (by decide)), fun o => HN.e65 (o.of_set (by decide)), fun o => HN.e66 (o.of_set (by decide)), fun o => HN.e67 (o.of_set (by decide)), fun _ => rfl, fun o => (HN.n7 (o.of_set (by decide))).imp On.old id, fun o => HN.e70 (o.of_set (by decide)), fun o => HN.e71 (o.of_set (by decide)), fun o => HN.e72 (o.of_set (by decide)), fun o => HN.e73 (o.of_set (by decide)), fun o => HN.e74 (o.of_set (by decide)), fun o => HN.e75 (o.of_set (by decide)), fun o => (HN.n14 (o.of_set (by decide))).imp On.old id, fun o => HN.e76 (o.of_set (by decide)), fun o => HN.e77 (o.of_set (by decide)), fun o => HN.e78 (o.of_set (by decide)), fun o => HN.e79 (o.of_set (by decide)), fun o => HN.e80 (o.of_set (by decide)), fun o => HN.e81 (o.of_set (by decide)), fun o => (HN.n20 (o.of_set (by decide))).imp On.old id, fun o => HN.e69 (o.of_set (by decide)), fun o => HN.b69 (o.of_set (by decide)), fun o => HN.e82 (o.of_set (by decide)), fun o => HN.b82 (o.of_set (by decide)), fun o => HN.e83 (o.of_set (by decide)), fun o => HN.b83 (o.of_set (by decide)), fun o => (HN.m12 (o.of_set (by decide))).imp On.old On.old, fun o => (HN.m28 (o.of_set (by decide))).imp On.old id, fun o => HN.e84 (o.of_set (by decide)), fun o => HN.y (o.of_set (by decide))⟩
      refine StepsI.cons (i := 12) (ws := [5, 11]) rfl (by kernel_rfl) (fun L a W hI hno hon hw K hK => ?_) ?_
      · obtain ⟨_, rfl, u57, u58, u59, u60, u61, u62, u63, u64, u65, u66, u67, u68, u69, u70, u71, u72, u73, u74, u75, u76, u77, u78, u79, u80, u81, u82, u83, u84, G1, G2, G3, rfl, H⟩ := hI
        simp only [List.getElem_toArray, List.getElem_cons_zero, List.getElem_cons_succ]
        obtain rfl := H.e62 (hw 5 (by simp))
        obtain rfl := H.e68 (hw 11 (by simp))
        simp only [frmL, Act.put, List.setIfInBounds_toArray, List.set_cons_zero, List.set_cons_succ]
        go_simp
        have HN := H.up (below_alloc W (.cells #[.int .i64 k01, .int .i64 k00] 3))
        refine hK.out _ _ ⟨[u57, u58, u59, u60, u61, .int .i64 k01, u63, u64, u65, u66, u67, .int .i64 k00, .slice (some ⟨W.heap.size, 0, none⟩) 2 2, u70, u71, u72, u73, u74, u75, u76, u77, u78, u79, u80, u81, u82, u83, u84], ?_, u57, u58, u59, u60, u61, .int .i64 k01, u63, u64, u65, u66, u67, .int .i64 k00, .slice (some ⟨W.heap.size, 0, none⟩) 2 2, u70, u71, u72, u73, u74, u75, u76, u77, u78, u79, u80, u81, u82, u83, u84, W.heap.size, G2, G3, rfl, ?_⟩
        · simp only [frmL, Act.put, List.setIfInBounds_toArray, List.set_cons_zero, List.set_cons_succ]
        · exact ⟨HN.Z, HN.K.imp On.old id, HN.po, HN.zz, fun o => HN.e57 (o.of_set (by decide)), fun o => HN.e58 (o.of_set (by decide)), fun o => HN.e59 (o.of_set (by decide)), fun o => HN.e60 (o.of_set (by decide)), fun o => HN.e61 (o.of_set (by decide)), fun o => HN.e62 (o.of_set (by decide)), fun o => (HN.n1 (o.of_set (by decide))).imp On.old id, fun o => HN.e63 (o.of_set (by decide)), fun o => HN.e64 (o.of_set (by decide)), fun o => HN.e65 (o.of_set (by decide)), fun o => HN.e66 (o.of_set (by decide)), fun o => HN.e67 (o.of_set (by decide)), fun o => HN.e68 (o.of_set (by decide)), fun o => (HN.n7 (o.of_set (by decide))).imp On.old id, fun o => HN.e70 (o.of_set (by decide)), fun o => HN.e71 (o.of_set (by decide)), fun o => HN.e72 (o.of_set (by decide)), fun o => HN.e73 (o.of_set (by decide)), fun o => HN.e74 (o.of_set (by decide)), fun o => HN.e75 (o.of_set (by decide)), fun o => (HN.n14 (o.of_set (by decide))).imp On.old id, fun o => HN.e76 (o.of_set (by decide)), fun o => HN.e77 (o.of_set (by decide)), fun o => HN.e78 (o.of_set (by decide)), fun o => HN.e79 (o.of_set (by decide)), fun o => HN.e80 (o.of_set (by decide)), fun o => HN.e81 (o.of_set (by decide)), fun o => (HN.n20 (o.of_set (by decide))).imp On.old id, fun _ => rfl, fun _ => ⟨blk_new _ _ _, H.zz⟩, fun o => HN.e82 (o.of_set (by decide)), fun o => HN.b82 (o.of_set (by decide)), fun o => HN.e83 (o.of_set (by decide)), fun o => absurd (H.m12 (o.of_set (by decide))).1 hno, fun o => (HN.m12 (o.of_set (by decide))).imp On.old On.old, fun o => (HN.m28 (o.of_set (by decide))).imp On.old id, fun o => HN.e84 (o.of_set (by decide)), fun o => HN.y (o.of_set (by decide))⟩
      refine StepsI.cons (i := 13) (ws := []) rfl (by kernel_rfl) (fun L a W hI hno hon hw K hK => ?_) ?_
      · obtain ⟨_, rfl, u57, u58, u59, u60, u61, u62, u63, u64, u65, u66, u67, u68, u69, u70, u71, u72, u73, u74, u75, u76, u77, u78, u79, u80, u81, u82, u83, u84, G1, G2, G3, rfl, H⟩ := hI
        simp only [List.getElem_toArray, List.getElem_cons_zero, List.getElem_cons_succ]
        simp only [frmL, Act.put, List.setIfInBounds_toArray, List.set_cons_zero, List.set_cons_succ]
        go_simp
        have HN := H
        refine hK.out _ _ ⟨[u57, u58, u59, u60, u61, u62, u63, u64, u65, u66, u67, u68, u69, .pointer (some ⟨w1.heap.size, 3, none⟩), u71, u72, u73, u74, u75, u76, u77, u78, u79, u80, u81, u82, u83, u84], ?_, u57, u58, u59, u60, u61, u62, u63, u64, u65, u66, u67, u68, u69, .pointer (some ⟨w1.heap.size, 3, none⟩), u71, u72, u73, u74, u75, u76, u77, u78, u79, u80, u81, u82, u83, u84, G1, G2, G3, rfl, ?_⟩
        · simp only [frmL, Act.put, List.setIfInBounds_toArray, List.set_cons_zero, List.set_cons_succ]
        · exact ⟨HN.Z, HN.K.imp On.old id, HN.po, HN.zz, fun o => HN.e57 (o.of_set (by decide)), fun o => HN.e58 (o.of_set (by decide)), fun o => HN.e59 (o.of_set (by decide)), fun o => HN.e60 (o.of_set (by decide)), fun o => HN.e61 (o.of_set (by decide)), fun o => HN.e62 (o.of_set (by decide)), fun o => (HN.n1 (o.of_set (by decide))).imp On.old id, fun o => HN.e63 (o.of_set (by decide)), fun o => HN.e64 (o.of_set (by decide)), fun o => HN.e65 (o.of_set (by decide)), fun o => HN.e66 (o.of_set (by decide)), fun o => HN.e67 (o.of_set (by decide)), fun o => HN.e68 (o.of_set (by decide)), fun o => (HN.n7 (o.of_set (by decide))).imp On.old id, fun _ => rfl, fun o => HN.e71 (o.of_set (by decide)), fun o => HN.e72 (o.of_set (by decide)), fun o => HN.e73 (o.of_set (by decide)), fun o => HN.e74 (o.of_set (by decide)), fun o => HN.e75 (o.of_set (by decide)), fun o => (HN.n14 (o.of_set (by decide))).imp On.old id, fun o => HN.e76 (o.of_set (by decide)), fun o => HN.e77 (o.of_set (by decide)), fun o => HN.e78 (o.of_set (by decide)), fun o => HN.e79 (o.of_set (by decide)), fun o => HN.e80 (o.of_set (by decide)), fun o => HN.e81 (o.of_set (by decide)), fun o => (HN.n20 (o.of_set (by decide))).imp On.old id, fun o => HN.e69 (o.of_set (by decide)), fun o => HN.b69 (o.of_set (by decide)), fun o => HN.e82 (o.of_set (by decide)), fun o => HN.b82 (o.of_set (by decide)), fun o => HN.e83 (o.of_set (by decide)), fun o => HN.b83 (o.of_set (by decide)), fun o => (HN.m12 (o.of_set (by decide))).imp On.old On.old, fun o => (HN.m28 (o.of_set (by decide))).imp On.old id, fun o => HN.e84 (o.of_set (by decide)), fun o => HN.y (o.of_set (by decide))⟩
      refine StepsI.cons (i := 14) (ws := [13]) rfl (by kernel_rfl) (fun L a W hI hno hon hw K hK => ?_) ?_
      · obtain ⟨_, rfl, u57, u58, u59, u60, u61, u62, u63, u64, u65, u66, u67, u68, u69, u70, u71, u72, u73, u74, u75, u76, u77, u78, u79, u80, u81, u82, u83, u84, G1, G2, G3, rfl, H⟩ := hI
        simp only [List.getElem_toArray, List.getElem_cons_zero, List.getElem_cons_succ]
        obtain rfl := H.e70 (hw 13 (by simp))
        have hKx := H.K.resolve_left (fun o => hno (H.n14 o).1)
        simp only [frmL, Act.put, List.setIfInBounds_toArray, List.set_cons_zero, List.set_cons_succ]
        have c0 := blk_cell hKx (i := 3) rfl
        go_simp
        have HN := H
        refine hK.out _ _ ⟨[u57, u58, u59, u60, u61, u62, u63, u64, u65, u66, u67, u68, u69, .pointer (some ⟨w1.heap.size, 3, none⟩), .slice (some ⟨p.b4, p.o4, none⟩) 2 p.c4, u72, u73, u74, u75, u76, u77, u78, u79, u80, u81, u82, u83, u84], ?_, u57, u58, u59, u60, u61, u62, u63, u64, u65, u66, u67, u68, u69, .pointer (some ⟨w1.heap.size, 3, none⟩), .slice (some ⟨p.b4, p.o4, none⟩) 2 p.c4, u72, u73, u74, u75, u76, u77, u78, u79, u80, u81, u82, u83, u84, G1, G2, G3, rfl, ?_⟩
        · simp only [frmL, Act.put, List.setIfInBounds_toArray, List.set_cons_zero, List.set_cons_succ]
        · exact ⟨HN.Z, HN.K.imp On.old id, HN.po, HN.zz, fun o => HN.e57 (o.of_set (by decide)), fun o => HN.e58 (o.of_set (by decide)), fun o => HN.e59 (o.of_set (by decide)), fun o => HN.e60 (o.of_set (by decide)), fun o => HN.e61 (o.of_set (by decide)), fun o => HN.e62 (o.of_set (by decide)), fun o => (HN.n1 (o.of_set (by decide))).imp On.old id, fun o => HN.e63 (o.of_set (by decide)), fun o => HN.e64 (o.of_set (by decide)), fun o => HN.e65 (o.of_set (by decide)), fun o => HN.e66 (o.of_set (by decide)), fun o => HN.e67 (o.of_set (by decide)), fun o => HN.e68 (o.of_set (by decide)), fun o => (HN.n7 (o.of_set (by decide))).imp On.old id, fun o => HN.e70 (o.of_set (by decide)), fun _ => rfl, fun o => HN.e72 (o.of_set (by decide)), fun o => HN.e73 (o.of_set (by decide)), fun o => HN.e74 (o.of_set (by decide)), fun o => HN.e75 (o.of_set (by decide)), fun o => (HN.n14 (o.of_set (by decide))).imp On.old id, fun o => HN.e76 (o.of_set (by decide)), fun o => HN.e77 (o.of_set (by decide)), fun o => HN.e78 (o.of_set (by decide)), fun o => HN.e79 (o.of_set (by decide)), fun o => HN.e80 (o.of_set (by decide)), fun o => HN.e81 (o.of_set (by decide)), fun o => (HN.n20 (o.of_set (by decide))).imp On.old id, fun o => HN.e69 (o.of_set (by decide)), fun o => HN.b69 (o.of_set (by decide)), fun o => HN.e82 (o.of_set (by decide)), fun o => HN.b82 (o.of_set (by decide)), fun o => HN.e83 (o.of_set (by decide)), fun o => HN.b83 (o.of_set (by decide)), fun o => (HN.m12 (o.of_set (by decide))).imp On.old On.old, fun o => (HN.m28 (o.of_set (by decide))).imp On.old id, fun o => HN.e84 (o.of_set (by decide)), fun o => HN.y (o.of_set (by decide))⟩
      refine StepsI.cons (i := 15) (ws := [14]) rfl (by kernel_rfl) (fun L a W hI hno hon hw K hK => ?_) ?_
      · obtain ⟨_, rfl, u57, u58, u59, u60, u61, u62, u63, u64, u65, u66, u67, u68, u69, u70, u71, u72, u73, u74, u75, u76, u77, u78, u79, u80, u81, u82, u83, u84, G1, G2, G3, rfl, H⟩ := hI
        simp only [List.getElem_toArray, List.getElem_cons_zero, List.getElem_cons_succ]
        obtain rfl := H.e71 (hw 14 (by simp))
        simp only [frmL, Act.put, List.setIfInBounds_toArray, List.set_cons_zero, List.set_cons_succ]
        go_simp
        have HN := H
        refine hK.out _ _ ⟨[u57, u58, u59, u60, u61, u62, u63, u64, u65, u66, u67, u68, u69, u70, .slice (some ⟨p.b4, p.o4, none⟩) 2 p.c4, .pointer (some ⟨p.b4, p.o4 + 1, none⟩), u73, u74, u75, u76, u77, u78, u79, u80, u81, u82, u83, u84], ?_, u57, u58, u59, u60, u61, u62, u63, u64, u65, u66, u67, u68, u69, u70, .slice (some ⟨p.b4, p.o4, none⟩) 2 p.c4, .pointer (some ⟨p.b4, p.o4 + 1, none⟩), u73, u74, u75, u76, u77, u78, u79, u80, u81, u82, u83, u84, G1, G2, G3, rfl, ?_⟩
        · simp only [frmL, Act.put, List.setIfInBounds_toArray, List.set_cons_zero, List.set_cons_succ]
        · exact ⟨HN.Z, HN.K.imp On.old id, HN.po, HN.zz, fun o => HN.e57 (o.of_set (by decide)), fun o => HN.e58 (o.of_set (by decide)), fun o => HN.e59 (o.of_set (by decide)), fun o => HN.e60 (o.of_set (by decide)), fun o => HN.e61 (o.of_set (by decide)), fun o => HN.e62 (o.of_set (by decide)), fun o => (HN.n1 (o.of_set (by decide))).imp On.old id, fun o => HN.e63 (o.of_set (by decide)), fun o => HN.e64 (o.of_set (by decide)), fun o => HN.e65 (o.of_set (by decide)), fun o => HN.e66 (o.of_set (by decide)), fun o => HN.e67 (o.of_set (by decide)), fun o => HN.e68 (o.of_set (by decide)), fun o => (HN.n7 (o.of_set (by decide))).imp On.old id, fun o => HN.e70 (o.of_set (by decide)), fun o => HN.e71 (o.of_set (by decide)), fun _ => rfl, fun o => HN.e73 (o.of_set (by decide)), fun o => HN.e74 (o.of_set (by decide)), fun o => HN.e75 (o.of_set (by decide)), fun o => (HN.n14 (o.of_set (by decide))).imp On.old id, fun o => HN.e76 (o.of_set (by decide)), fun o => HN.e77 (o.of_set (by decide)), fun o => HN.e78 (o.of_set (by decide)), fun o => HN.e79 (o.of_set (by decide)), fun o => HN.e80 (o.of_set (by decide)), fun o => HN.e81 (o.of_set (by decide)), fun o => (HN.n20 (o.of_set (by decide))).imp On.old id, fun o => HN.e69 (o.of_set (by decide)), fun o => HN.b69 (o.of_set (by decide)), fun o => HN.e82 (o.of_set (by decide)), fun o => HN.b82 (o.of_set (by decide)), fun o => HN.e83 (o.of_set (by decide)), fun o => HN.b83 (o.of_set (by decide)), fun o => (HN.m12 (o.of_set (by decide))).imp On.old On.old, fun o => (HN.m28 (o.of_set (by decide))).imp On.old id, fun o => HN.e84 (o.of_set (by decide)), fun o => HN.y (o.of_set (by decide))⟩
      refine StepsI.cons (i := 16) (ws := [15]) rfl (by kernel_rfl) (fun L a W hI hno hon hw K hK => ?_) ?_
      · obtain ⟨_, rfl, u57, u58, u59, u60, u61, u62, u63, u64, u65, u66, u67, u68, u69, u70, u71, u72, u73, u74, u75, u76, u77, u78, u79, u80, u81, u82, u83, u84, G1, G2, G3, rfl, H⟩ := hI
        simp only [List.getElem_toArray, List.getElem_cons_zero, List.getElem_cons_succ]
        obtain rfl := H.e72 (hw 15 (by simp))
        simp only [frmL, Act.put, List.setIfInBounds_toArray, List.set_cons_zero, List.set_cons_succ]
        have c0 := Keep.below H.Z _ _ HR1_.out
        go_simp
        have HN := H
        refine hK.out _ _ ⟨[u57, u58, u59, u60, u61, u62, u63, u64, u65, u66, u67, u68, u69, u70, u71, .pointer (some ⟨p.b4, p.o4 + 1, none⟩), .slice (some ⟨p.r4 1, p.q4 1, none⟩) 2 (p.d4 1), u74, u75, u76, u77, u78, u79, u80, u81, u82, u83, u84], ?_, u57, u58, u59, u60, u61, u62, u63, u64, u65, u66, u67, u68, u69, u70, u71, .pointer (some ⟨p.b4, p.o4 + 1, none⟩), .slice (some ⟨p.r4 1, p.q4 1, none⟩) 2 (p.d4 1), u74, u75, u76, u77, u78, u79, u80, u81, u82, u83, u84, G1, G2, G3, rfl, ?_⟩
        · simp only [frmL, Act.put, List.setIfInBounds_toArray, List.set_cons_zero, List.set_cons_succ]
        · exact ⟨HN.Z, HN.K.imp On.old id, HN.po, HN.zz, fun o => HN.e57 (o.of_set (by decide)), fun o => HN.e58 (o.of_set (by decide)), fun o => HN.e59 (o.of_set (by decide)), fun o => HN.e60 (o.of_set (by decide)), fun o => HN.e61 (o.of_set (by decide)), fun o => HN.e62 (o.of_set (by decide)), fun o => (HN.n1 (o.of_set (by decide))).imp On.old id, fun o => HN.e63 (o.of_set (by decide)), fun o => HN.e64 (o.of_set (by decide)), fun o => HN.e65 (o.of_set (by decide)), fun o => HN.e66 (o.of_set (by decide)), fun o => HN.e67 (o.of_set (by decide)), fun o => HN.e68 (o.of_set (by decide)), fun o => (HN.n7 (o.of_set (by decide))).imp On.old id, fun o => HN.e70 (o.of_set (by decide)), fun o => HN.e71 (o.of_set (by decide)), fun o => HN.e72 (o.of_set (by decide)), fun _ => rfl, fun o => HN.e74 (o.of_set (by decide)), fun o => HN.e75 (o.of_set (by decide)), fun o => (HN.n14 (o.of_set (by decide))).imp On.old id, fun o => HN.e76 (o.of_set (by decide)), fun o => HN.e77 (o.of_set (by decide)), fun o => HN.e78 (o.of_set (by decide)), fun o => HN.e79 (o.of_set (by decide)), fun o => HN.e80 (o.of_set (by decide)), fun o => HN.e81 (o.of_set (by decide)), fun o => (HN.n20 (o.of_set (by decide))).imp On.old id, fun o => HN.e69 (o.of_set (by decide)), fun o => HN.b69 (o.of_set (by decide)), fun o => HN.e82 (o.of_set (by decide)), fun o => HN.b82 (o.of_set (by decide)), fun o => HN.e83 (o.of_set (by decide)), fun o => HN.b83 (o.of_set (by decide)), fun o => (HN.m12 (o.of_set (by decide))).imp On.old On.old, fun o => (HN.m28 (o.of_set (by decide))).imp On.old id, fun o => HN.e84 (o.of_set (by decide)), fun o => HN.y (o.of_set (by decide))⟩
      refine StepsI.cons (i := 17) (ws := [16]) rfl (by kernel_rfl) (fun L a W hI hno hon hw K hK => ?_) ?_
      · obtain ⟨_, rfl, u57, u58, u59, u60, u61, u62, u63, u64, u65, u66, u67, u68, u69, u70, u71, u72, u73, u74, u75, u76, u77, u78, u79, u80, u81, u82, u83, u84, G1, G2, G3, rfl, H⟩ := hI
        simp only [List.getElem_toArray, List.getElem_cons_zero, List.getElem_cons_succ]
        obtain rfl := H.e73 (hw 16 (by simp))
        simp only [frmL, Act.put, List.setIfInBounds_toArray, List.set_cons_zero, List.set_cons_succ]
        go_simp
        have HN := H
        refine hK.out _ _ ⟨[u57, u58, u59, u60, u61, u62, u63, u64, u65, u66, u67, u68, u69, u70, u71, u72, .slice (some ⟨p.r4 1, p.q4 1, none⟩) 2 (p.d4 1), .pointer (some ⟨p.r4 1, p.q4 1 + 1, none⟩), u75, u76, u77, u78, u79, u80, u81, u82, u83, u84], ?_, u57, u58, u59, u60, u61, u62, u63, u64, u65, u66, u67, u68, u69, u70, u71, u72, .slice (some ⟨p.r4 1, p.q4 1, none⟩) 2 (p.d4 1), .pointer (some ⟨p.r4 1, p.q4 1 + 1, none⟩), u75, u76, u77, u78, u79, u80, u81, u82, u83, u84, G1, G2, G3, rfl, ?_⟩
        · simp only [frmL, Act.put, List.setIfInBounds_toArray, List.set_cons_zero, List.set_cons_succ]
        · exact ⟨HN.Z, HN.K.imp On.old id, HN.po, HN.zz, fun o => HN.e57 (o.of_set (by decide)), fun o => HN.e58 (o.of_set (by decide)), fun o => HN.e59 (o.of_set (by decide)), fun o => HN.e60 (o.of_set (by decide)), fun o => HN.e61 (o.of_set (by decide)), fun o => HN.e62 (o.of_set (by decide)), fun o => (HN.n1 (o.of_set (by decide))).imp On.old id, fun o => HN.e63 (o.of_set (by decide)), fun o => HN.e64 (o.of_set (by decide)), fun o => HN.e65 (o.of_set (by decide)), fun o => HN.e66 (o.of_set (by decide)), fun o => HN.e67 (o.of_set (by decide)), fun o => HN.e68 (o.of_set (by decide)), fun o => (HN.n7 (o.of_set (by decide))).imp On.old id, fun o => HN.e70 (o.of_set (by decide)), fun o => HN.e71 (o.of_set (by decide)), fun o => HN.e72 (o.of_set (by decide)), fun o => HN.e73 (o.of_set (by decide)), fun _ => rfl, fun o => HN.e75 (o.of_set (by decide)), fun o => (HN.n14 (o.of_set (by decide))).imp On.old id, fun o => HN.e76 (o.of_set (by decide)), fun o => HN.e77 (o.of_set (by decide)), fun o => HN.e78 (o.of_set (by decide)), fun o => HN.e79 (o.of_set (by decide)), fun o => HN.e80 (o.of_set (by decide)), fun o => HN.e81 (o.of_set (by decide)), fun o => (HN.n20 (o.of_set (by decide))).imp On.old id, fun o => HN.e69 (o.of_set (by decide)), fun o => HN.b69 (o.of_set (by decide)), fun o => HN.e82 (o.of_set (by decide)), fun o => HN.b82 (o.of_set (by decide)), fun o => HN.e83 (o.of_set (by decide)), fun o => HN.b83 (o.of_set (by decide)), fun o => (HN.m12 (o.of_set (by decide))).imp On.old On.old, fun o => (HN.m28 (o.of_set (by decide))).imp On.old id, fun o => HN.e84 (o.of_set (by decide)), fun o => HN.y (o.of_set (by decide))⟩
      refine StepsI.cons (i := 18) (ws := [17]) rfl (by kernel_rfl) (fun L a W hI hno hon hw K hK => ?_) ?_
      · obtain ⟨_, rfl, u57, u58, u59, u60, u61, u62, u63, u64, u65, u66, u67, u68, u69, u70, u71, u72, u73, u74, u75, u76, u77, u78, u79, u80, u81, u82, u83, u84, G1, G2, G3, rfl, H⟩ := hI
        simp only [List.getElem_toArray, List.getElem_cons_zero, List.getElem_cons_succ]
        obtain rfl := H.e74 (hw 17 (by simp))
        simp only [frmL, Act.put, List.setIfInBounds_toArray, List.set_cons_zero, List.set_cons_succ]
        have c0 := Keep.below H.Z _ _ HC11_.out
        go_simp
        have HN := H
        refine hK.out _ _ ⟨[u57, u58, u59, u60, u61, u62, u63, u64, u65, u66, u67, u68, u69, u70, u71, u72, u73, .pointer (some ⟨p.r4 1, p.q4 1 + 1, none⟩), .int .i64 k11, u76, u77, u78, u79, u80, u81, u82, u83, u84], ?_, u57, u58, u59, u60, u61, u62, u63, u64, u65, u66, u67, u68, u69, u70, u71, u72, u73, .pointer (some ⟨p.r4 1, p.q4 1 + 1, none⟩), .int .i64 k11, u76, u77, u78, u79, u80, u81, u82, u83, u84, G1, G2, G3, rfl, ?_⟩
        · simp only [frmL, Act.put, List.setIfInBounds_toArray, List.set_cons_zero, List.set_cons_succ]
        · exact ⟨HN.Z, HN.K.imp On.old id, HN.po, HN.zz, fun o => HN.e57 (o.of_set (by decide)), fun o => HN.e58 (o.of_set (by decide)), fun o => HN.e59 (o.of_set (by decide)), fun o => HN.e60 (o.of_set (by decide)), fun o => HN.e61 (o.of_set (by decide)), fun o => HN.e62 (o.of_set (by decide)), fun o => (HN.n1 (o.of_set (by decide))).imp On.old id, fun o => HN.e63 (o.of_set (by decide)), fun o => HN.e64 (o.of_set (by decide)), fun o => HN.e65 (o.of_set (by decide)), fun o => HN.e66 (o.of_set (by decide)), fun o => HN.e67 (o.of_set (by decide)), fun o => HN.e68 (o.of_set (by decide)), fun o => (HN.n7 (o.of_set (by decide))).imp On.old id, fun o => HN.e70 (o.of_set (by decide)), fun o => HN.e71 (o.of_set (by decide)), fun o => HN.e72 (o.of_set (by decide)), fun o => HN.e73 (o.of_set (by decide)), fun o => HN.e74 (o.of_set (by decide)), fun _ => rfl, fun o => (HN.n14 (o.of_set (by decide))).imp On.old id, fun o => HN.e76 (o.of_set (by decide)), fun o => HN.e77 (o.of_set (by decide)), fun o => HN.e78 (o.of_set (by decide)), fun o => HN.e79 (o.of_set (by decide)), fun o => HN.e80 (o.of_set (by decide)), fun o => HN.e81 (o.of_set (by decide)), fun o => (HN.n20 (o.of_set (by decide))).imp On.old id, fun o => HN.e69 (o.of_set (by decide)), fun o => HN.b69 (o.of_set (by decide)), fun o => HN.e82 (o.of_set (by decide)), fun o => HN.b82 (o.of_set (by decide)), fun o => HN.e83 (o.of_set (by decide)), fun o => HN.b83 (o.of_set (by decide)), fun o => (HN.m12 (o.of_set (by decide))).imp On.old On.old, fun o => (HN.m28 (o.of_set (by decide))).imp On.old id, fun o => HN.e84 (o.of_set (by decide)), fun o => HN.y (o.of_set (by decide))⟩
      refine StepsI.cons (i := 19) (ws := []) rfl (by kernel_rfl) (fun L a W hI hno hon hw K hK => ?_) ?_
      · obtain ⟨_, rfl, u57, u58, u59, u60, u61, u62, u63, u64, u65, u66, u67, u68, u69, u70, u71, u72, u73, u74, u75, u76, u77, u78, u79, u80, u81, u82, u83, u84, G1, G2, G3, rfl, H⟩ := hI
        simp only [List.getElem_toArray, List.getElem_cons_zero, List.getElem_cons_succ]
        simp only [frmL, Act.put, List.setIfInBounds_toArray, List.set_cons_zero, List.set_cons_succ]
        go_simp
        have HN := H
        refine hK.out _ _ ⟨[u57, u58, u59, u60, u61, u62, u63, u64, u65, u66, u67, u68, u69, u70, u71, u72, u73, u74, u75, .pointer (some ⟨w1.heap.size, 3, none⟩), u77, u78, u79, u80, u81, u82, u83, u84], ?_, u57, u58, u59, u60, u61, u62, u63, u64, u65, u66, u67, u68, u69, u70, u71, u72, u73, u74, u75, .pointer (some ⟨w1.heap.size, 3, none⟩), u77, u78, u79, u80, u81, u82, u83, u84, G1, G2, G3, rfl, ?_⟩
        · simp only [frmL, Act.put, List.setIfInBounds_toArray, List.set_cons_zero, List.set_cons_succ]
        · exact ⟨HN.Z, HN.K.imp On.old id, HN.po, HN.zz, fun o => HN.e57 (o.of_set (by decide)), fun o => HN.e58 (o.of_set (by decide)), fun o => HN.e59 (o.of_set (by decide)), fun o => HN.e60 (o.of_set (by decide)), fun o => HN.e61 (o.of_set (by decide)), fun o => HN.e62 (o.of_set (by decide)), fun o => (HN.n1 (o.of_set (by decide))).imp On.old id, fun o => HN.e63 (o.of_set (by decide)), fun o => HN.e64 (o.of_set (by decide)), fun o => HN.e65 (o.of_set (by decide)), fun o => HN.e66 (o.of_set (by decide)), fun o => HN.e67 (o.of_set (by decide)), fun o => HN.e68 (o.of_set (by decide)), fun o => (HN.n7 (o.of_set (by decide))).imp On.old id, fun o => HN.e70 (o.of_set (by decide)), fun o => HN.e71 (o.of_set (by decide)), fun o => HN.e72 (o.of_set (by decide)), fun o => HN.e73 (o.of_set (by decide)), fun o => HN.e74 (o.of_set (by decide)), fun o => HN.e75 (o.of_set (by decide)), fun o => (HN.n14 (o.of_set (by decide))).imp On.old id, fun _ => rfl, fun o => HN.e77 (o.of_set (by decide)), fun o => HN.e78 (o.of_set (by decide)), fun o => HN.e79 (o.of_set (by decide)), fun o => HN.e80 (o.of_set (by decide)), fun o => HN.e81 (o.of_set (by decide)), fun o => (HN.n20 (o.of_set (by decide))).imp On.old id, fun o => HN.e69 (o.of_set (by decide)), fun o => HN.b69 (o.of_set (by decide)), fun o => HN.e82 (o.of_set (by decide)), fun o => HN.b82 (o.of_set (by decide)), fun o => HN.e83 (o.of_set (by decide)), fun o => HN.b83 (o.of_set (by decide)), fun o => (HN.m12 (o.of_set (by decide))).imp On.old On.old, fun o => (HN.m28 (o.of_set (by decide))).imp On.old id, fun o => HN.e84 (o.of_set (by decide)), fun o => HN.y (o.of_set (by decide))⟩
      refine StepsI.cons (i := 20) (ws := [19]) rfl (by kernel_rfl) (fun L a W hI hno hon hw K hK => ?_) ?_
      · obtain ⟨_, rfl, u57, u58, u59, u60, u61, u62, u63, u64, u65, u66, u67, u68, u69, u70, u71, u72, u73, u74, u75, u76, u77, u78, u79, u80, u81, u82, u83, u84, G1, G2, G3, rfl, H⟩ := hI
        simp only [List.getElem_toArray, List.getElem_cons_zero, List.getElem_cons_succ]
        obtain rfl := H.e76 (hw 19 (by simp))
        have hKx := H.K.resolve_left (fun o => hno (H.n20 o).1)
        simp only [frmL, Act.put, List.setIfInBounds_toArray, List.set_cons_zero, List.set_cons_succ]
        have c0 := blk_cell hKx (i := 3) rfl
        go_simp
        have HN := H
        refine hK.out _ _ ⟨[u57, u58, u59, u60, u61, u62, u63, u64, u65, u66, u67, u68, u69, u70, u71, u72, u73, u74, u75, .pointer (some ⟨w1.heap.size, 3, none⟩), .slice (some ⟨p.b4, p.o4, none⟩) 2 p.c4, u78, u79, u80, u81, u82, u83, u84], ?_, u57, u58, u59, u60, u61, u62, u63, u64, u65, u66, u67, u68, u69, u70, u71, u72, u73, u74, u75, .pointer (some ⟨w1.heap.size, 3, none⟩), .slice (some ⟨p.b4, p.o4, none⟩) 2 p.c4, u78, u79, u80, u81, u82, u83, u84, G1, G2, G3, rfl, ?_⟩
        · simp only [frmL, Act.put, List.setIfInBounds_toArray, List.set_cons_zero, List.set_cons_succ]
        · exact ⟨HN.Z, HN.K.imp On.old id, HN.po, HN.zz, fun o => HN.e57 (o.of_set (by decide)), fun o => HN.e58 (o.of_set (by decide)), fun o => HN.e59 (o.of_set (by decide)), fun o => HN.e60 (o.of_set (by decide)), fun o => HN.e61 (o.of_set (by decide)), fun o => HN.e62 (o.of_set (by decide)), fun o => (HN.n1 (o.of_set (by decide))).imp On.old id, fun o => HN.e63 (o.of_set (by decide)), fun o => HN.e64 (o.of_set (by decide)), fun o => HN.e65 (o.of_set (by decide)), fun o => HN.e66 (o.of_set (by decide)), fun o => HN.e67 (o.of_set (by decide)), fun o => HN.e68 (o.of_set (by decide)), fun o => (HN.n7 (o.of_set (by decide))).imp On.old id, fun o => HN.e70 (o.of_set (by decide)), fun o => HN.e71 (o.of_set (by decide)), fun o => HN.e72 (o.of_set (by decide)), fun o => HN.e73 (o.of_set (by decide)), fun o => HN.e74 (o.of_set (by decide)), fun o => HN.e75 (o.of_set (by decide)), fun o => (HN.n14 (o.of_set (by decide))).imp On.old id, fun o => HN.e76 (o.of_set (by decide)), fun _ => rfl, fun o => HN.e78 (o.of_set (by decide)), fun o => HN.e79 (o.of_set (by decide)), fun o => HN.e80 (o.of_set (by decide)), fun o => HN.e81 (o.of_set (by decide)), fun o => (HN.n20 (o.of_set (by decide))).imp On.old id, fun o => HN.e69 (o.of_set (by decide)), fun o => HN.b69 (o.of_set (by decide)), fun o => HN.e82 (o.of_set (by decide)), fun o => HN.b82 (o.of_set (by decide)), fun o => HN.e83 (o.of_set (by decide)), fun o => HN.b83 (o.of_set (by decide)), fun o => (HN.m12 (o.of_set (by decide))).imp On.old On.old, fun o => (HN.m28 (o.of_set (by decide))).imp On.old id, fun o => HN.e84 (o.of_set (by decide)), fun o => HN.y (o.of_set (by decide))⟩
      refine StepsI.cons (i := 21) (ws := [20]) rfl (by kernel_rfl) (fun L a W hI hno hon hw K hK => ?_) ?_
      · obtain ⟨_, rfl, u57, u58, u59, u60, u61, u62, u63, u64, u65, u66, u67, u68, u69, u70, u71, u72, u73, u74, u75, u76, u77, u78, u79, u80, u81, u82, u83, u84, G1, G2, G3, rfl, H⟩ := hI
        simp only [List.getElem_toArray, List.getElem_cons_zero, List.getElem_cons_succ]
        obtain rfl := H.e77 (hw 20 (by simp))
        simp only [frmL, Act.put, List.setIfInBounds_toArray, List.set_cons_zero, List.set_cons_succ]
        go_simp
        have HN := H
        refine hK.out _ _ ⟨[u57, u58, u59, u60, u61, u62, u63, u64, u65, u66, u67, u68, u69, u70, u71, u72, u73, u74, u75, u76, .slice (some ⟨p.b4, p.o4, none⟩) 2 p.c4, .pointer (some ⟨p.b4, p.o4 + 1, none⟩), u79, u80, u81, u82, u83, u84], ?_, u57, u58, u59, u60, u61, u62, u63, u64, u65, u66, u67, u68, u69, u70, u71, u72, u73, u74, u75, u76, .slice (some ⟨p.b4, p.o4, none⟩) 2 p.c4, .pointer (some ⟨p.b4, p.o4 + 1, none⟩), u79, u80, u81, u82, u83, u84, G1, G2, G3, rfl, ?_⟩
        · simp only [frmL, Act.put, List.setIfInBounds_toArray, List.set_cons_zero, List.set_cons_succ]
        · exact ⟨HN.Z, HN.K.imp On.old id, HN.po, HN.zz, fun o => HN.e57 (o.of_set (by decide)), fun o => HN.e58 (o.of_set (by decide)), fun o => HN.e59 (o.of_set (by decide)), fun o => HN.e60 (o.of_set (by decide)), fun o => HN.e61 (o.of_set (by decide)), fun o => HN.e62 (o.of_set (by decide)), fun o => (HN.n1 (o.of_set (by decide))).imp On.old id, fun o => HN.e63 (o.of_set (by decide)), fun o => HN.e64 (o.of_set (by decide)), fun o => HN.e65 (o.of_set (by decide)), fun o => HN.e66 (o.of_set (by decide)), fun o => HN.e67 (o.of_set (by decide)), fun o => HN.e68 (o.of_set (by decide)), fun o => (HN.n7 (o.of_set (by decide))).imp On.old id, fun o => HN.e70 (o.of_set (by decide)), fun o => HN.e71 (o.of_set (by decide)), fun o => HN.e72 (o.of_set (by decide)), fun o => HN.e73 (o.of_set (by decide)), fun o => HN.e74 (o.of_set (by decide)), fun o => HN.e75 (o.of_set (by decide)), fun o => (HN.n14 (o.of_set (by decide))).imp On.old id, fun o => HN.e76 (o.of_set (by decide)), fun o => HN.e77 (o.of_set (by decide)), fun _ => rfl, fun o => HN.e79 (o.of_set (by decide)), fun o => HN.e80 (o.of_set (by decide)), fun o => HN.e81 (o.of_set (by decide)), fun o => (HN.n20 (o.of_set (by decide))).imp On.old id, fun o => HN.e69 (o.of_set (by decide)), fun o => HN.b69 (o.of_set (by decide)), fun o => HN.e82 (o.of_set (by decide)), fun o => HN.b82 (o.of_set (by decide)), fun o => HN.e83 (o.of_set (by decide)), fun o => HN.b83 (o.of_set (by decide)), fun o => (HN.m12 (o.of_set (by decide))).imp On.old On.old, fun o => (HN.m28 (o.of_set (by decide))).imp On.old id, fun o => HN.e84 (o.of_set (by decide)), fun o => HN.y (o.of_set (by decide))⟩
      refine StepsI.cons (i := 22) (ws := [21]) rfl (by kernel_rfl) (fun L a W hI hno hon hw K hK => ?_) ?_
      · obtain ⟨_, rfl, u57, u58, u59, u60, u61, u62, u63, u64, u65, u66, u67, u68, u69, u70, u71, u72, u73, u74, u75, u76, u77, u78, u79, u80, u81, u82, u83, u84, G1, G2, G3, rfl, H⟩ := hI
        simp only [List.getElem_toArray, List.getElem_cons_zero, List.getElem_cons_succ]
        obtain rfl := H.e78 (hw 21 (by simp))
        simp only [frmL, Act.put, List.setIfInBounds_toArray, List.set_cons_zero, List.set_cons_succ]
        have c0 := Keep.below H.Z _ _ HR1_.out
        go_simp
        have HN := H
        refine hK.out _ _ ⟨[u57, u58, u59, u60, u61, u62, u63, u64, u65, u66, u67, u68, u69, u70, u71, u72, u73, u74, u75, u76, u77, .pointer (some ⟨p.b4, p.o4 + 1, none⟩), .slice (some ⟨p.r4 1, p.q4 1, none⟩) 2 (p.d4 1), u80, u81, u82, u83, u84], ?_, u57, u58, u59, u60, u61, u62, u63, u64, u65, u66, u67, u68, u69, u70, u71, u72, u73, u74, u75, u76, u77, .pointer (some ⟨p.b4, p.o4 + 1, none⟩), .slice (some ⟨p.r4 1, p.q4 1, none⟩) 2 (p.d4 1), u80, u81, u82, u83, u84, G1, G2, G3, rfl, ?_⟩
        · simp only [frmL, Act.put, List.setIfInBounds_toArray, List.set_cons_zero, List.set_cons_succ]
        · exact ⟨HN.Z, HN.K.imp On.old id, HN.po, HN.zz, fun o => HN.e57 (o.of_set (by decide)), fun o => HN.e58 (o.of_set (by decide)), fun o => HN.e59 (o.of_set (by decide)), fun o => HN.e60 (o.of_set (by decide)), fun o => HN.e61 (o.of_set (by decide)), fun o => HN.e62 (o.of_set (by decide)), fun o => (HN.n1 (o.of_set (by decide))).imp On.old id, fun o => HN.e63 (o.of_set (by decide)), fun o => HN.e64 (o.of_set (by decide)), fun o => HN.e65 (o.of_set (by decide)), fun o => HN.e66 (o.of_set (by decide)), fun o => HN.e67 (o.of_set (by decide)), fun o => HN.e68 (o.of_set (by decide)), fun o => (HN.n7 (o.of_set (by decide))).imp On.old id, fun o => HN.e70 (o.of_set (by decide)), fun o => HN.e71 (o.of_set (by decide)), fun o => HN.e72 (o.of_set (by decide)), fun o => HN.e73 (o.of_set (by decide)), fun o => HN.e74 (o.of_set (by decide)), fun o => HN.e75 (o.of_set (by decide)), fun o => (HN.n14 (o.of_set (by decide))).imp On.old id, fun o => HN.e76 (o.of_set (by decide)), fun o => HN.e77 (o.of_set (by decide)), fun o => HN.e78 (o.of_set (by decide)), fun _ => rfl, fun o => HN.e80 (o.of_set (by decide)), fun o => HN.e81 (o.of_set (by decide)), fun o => (HN.n20 (o.of_set (by decide))).imp On.old id, fun o => HN.e69 (o.of_set (by decide)), fun o => HN.b69 (o.of_set (by decide)), fun o => HN.e82 (o.of_set (by decide)), fun o => HN.b82 (o.of_set (by decide)), fun o => HN.e83 (o.of_set (by decide)), fun o => HN.b83 (o.of_set (by decide)), fun o => (HN.m12 (o.of_set (by decide))).imp On.old On.old, fun o => (HN.m28 (o.of_set (by decide))).imp On.old id, fun o => HN.e84 (o.of_set (by decide)), fun o => HN.y (o.of_set (by decide))⟩
      refine StepsI.cons (i := 23) (ws := [22]) rfl (by kernel_rfl) (fun L a W hI hno hon hw K hK => ?_) ?_
      · obtain ⟨_, rfl, u57, u58, u59, u60, u61, u62, u63, u64, u65, u66, u67, u68, u69, u70, u71, u72, u73, u74, u75, u76, u77, u78, u79, u80, u81, u82, u83, u84, G1, G2, G3, rfl, H⟩ := hI
        simp only [List.getElem_toArray, List.getElem_cons_zero, List.getElem_cons_succ]
        obtain rfl := H.e79 (hw 22 (by simp))
        simp only [frmL, Act.put, List.setIfInBounds_toArray, List.set_cons_zero, List.set_cons_succ]
        go_simp
        have HN := H
        refine hK.out _ _ ⟨[u57, u58, u59, u60, u61, u62, u63, u64, u65, u66, u67, u68, u69, u70, u71, u72, u73, u74, u75, u76, u77, u78, .slice (some ⟨p.r4 1, p.q4 1, none⟩) 2 (p.d4 1), .pointer (some ⟨p.r4 1, p.q4 1, none⟩), u81, u82, u83, u84], ?_, u57, u58, u59, u60, u61, u62, u63, u64, u65, u66, u67, u68, u69, u70, u71, u72, u73, u74, u75, u76, u77, u78, .slice (some ⟨p.r4 1, p.q4 1, none⟩) 2 (p.d4 1), .pointer (some ⟨p.r4 1, p.q4 1, none⟩), u81, u82, u83, u84, G1, G2, G3, rfl, ?_⟩
        · simp only [frmL, Act.put, List.setIfInBounds_toArray, List.set_cons_zero, List.set_cons_succ]
        · exact ⟨HN.Z, HN.K.imp On.old id, HN.po, HN.zz, fun o => HN.e57 (o.of_set (by decide)), fun o => HN.e58 (o.of_set (by decide)), fun o => HN.e59 (o.of_set (by decide)), fun o => HN.e60 (o.of_set (by decide)), fun o => HN.e61 (o.of_set (by decide)), fun o => HN.e62 (o.of_set (by decide)), fun o => (HN.n1 (o.of_set (by decide))).imp On.old id, fun o => HN.e63 (o.of_set (by decide)), fun o => HN.e64 (o.of_set (by decide)), fun o => HN.e65 (o.of_set (by decide)), fun o => HN.e66 (o.of_set (by decide)), fun o => HN.e67 (o.of_set (by decide)), fun o => HN.e68 (o.of_set (by decide)), fun o => (HN.n7 (o.of_set (by decide))).imp On.old id, fun o => HN.e70 (o.of_set (by decide)), fun o => HN.e71 (o.of_set (by decide)), fun o => HN.e72 (o.of_set (by decide)), fun o => HN.e73 (o.of_set (by decide)), fun o => HN.e74 (o.of_set (by decide)), fun o => HN.e75 (o.of_set (by decide)), fun o => (HN.n14 (o.of_set (by decide))).imp On.old id, fun o => HN.e76 (o.of_set (by decide)), fun o => HN.e77 (o.of_set (by decide)), fun o => HN.e78 (o.of_set (by decide)), fun o => HN.e79 (o.of_set (by decide)), fun _ => rfl, fun o => HN.e81 (o.of_set (by decide)), fun o => (HN.n20 (o.of_set (by decide))).imp On.old id, fun o => HN.e69 (o.of_set (by decide)), fun o => HN.b69 (o.of_set (by decide)), fun o => HN.e82 (o.of_set (by decide)), fun o => HN.b82 (o.of_set (by decide)), fun o => HN.e83 (o.of_set (by decide)), fun o => HN.b83 (o.of_set (by decide)), fun o => (HN.m12 (o.of_set (by decide))).imp On.old On.old, fun o => (HN.m28 (o.of_set (by decide))).imp On.old id, fun o => HN.e84 (o.of_set (by decide)), fun o => HN.y (o.of_set (by decide))⟩
      refine StepsI.cons (i := 24) (ws := [23]) rfl (by kernel_rfl) (fun L a W hI hno hon hw K hK => ?_) ?_
      · obtain ⟨_, rfl, u57, u58, u59, u60, u61, u62, u63, u64, u65, u66, u67, u68, u69, u70, u71, u72, u73, u74, u75, u76, u77, u78, u79, u80, u81, u82, u83, u84, G1, G2, G3, rfl, H⟩ := hI
        simp only [List.getElem_toArray, List.getElem_cons_zero, List.getElem_cons_succ]
        obtain rfl := H.e80 (hw 23 (by simp))
        simp only [frmL, Act.put, List.setIfInBounds_toArray, List.set_cons_zero, List.set_cons_succ]
        have c0 := Keep.below H.Z _ _ HC10_.out
        go_simp
        have HN := H
        refine hK.out _ _ ⟨[u57, u58, u59, u60, u61, u62, u63, u64, u65, u66, u67, u68, u69, u70, u71, u72, u73, u74, u75, u76, u77, u78, u79, .pointer (some ⟨p.r4 1, p.q4 1, none⟩), .int .i64 k10, u82, u83, u84], ?_, u57, u58, u59, u60, u61, u62, u63, u64, u65, u66, u67, u68, u69, u70, u71, u72, u73, u74, u75, u76, u77, u78, u79, .pointer (some ⟨p.r4 1, p.q4 1, none⟩), .int .i64 k10, u82, u83, u84, G1, G2, G3, rfl, ?_⟩
        · simp only [frmL, Act.put, List.setIfInBounds_toArray, List.set_cons_zero, List.set_cons_succ]
        · exact ⟨HN.Z, HN.K.imp On.old id, HN.po, HN.zz, fun o => HN.e57 (o.of_set (by decide)), fun o => HN.e58 (o.of_set (by decide)), fun o => HN.e59 (o.of_set (by decide)), fun o => HN.e60 (o.of_set (by decide)), fun o => HN.e61 (o.of_set (by decide)), fun o => HN.e62 (o.of_set (by decide)), fun o => (HN.n1 (o.of_set (by decide))).imp On.old id, fun o => HN.e63 (o.of_set (by decide)), fun o => HN.e64 (o.of_set (by decide)), fun o => HN.e65 (o.of_set (by decide)), fun o => HN.e66 (o.of_set (by decide)), fun o => HN.e67 (o.of_set (by decide)), fun o => HN.e68 (o.of_set (by decide)), fun o => (HN.n7 (o.of_set (by decide))).imp On.old id, fun o => HN.e70 (o.of_set (by decide)), fun o => HN.e71 (o.of_set (by decide)), fun o => HN.e72 (o.of_set (by decide)), fun o => HN.e73 (o.of_set (by decide)), fun o => HN.e74 (o.of_set (by decide)), fun o => HN.e75 (o.of_set (by decide)), fun o => (HN.n14 (o.of_set (by decide))).imp On.old id, fun o => HN.e76 (o.of_set (by decide)), fun o => HN.e77 (o.of_set (by decide)), fun o => HN.e78 (o.of_set (by decide)), fun o => HN.e79 (o.of_set (by decide)), fun o => HN.e80 (o.of_set (by decide)), fun _ => rfl, fun o => (HN.n20 (o.of_set (by decide))).imp On.old id, fun o => HN.e69 (o.of_set (by decide)), fun o => HN.b69 (o.of_set (by decide)), fun o => HN.e82 (o.of_set (by decide)), fun o => HN.b82 (o.of_set (by decide)), fun o => HN.e83 (o.of_set (by decide)), fun o => HN.b83 (o.of_set (by decide)), fun o => (HN.m12 (o.of_set (by decide))).imp On.old On.old, fun o => (HN.m28 (o.of_set (by decide))).imp On.old id, fun o => HN.e84 (o.of_set (by decide)), fun o => HN.y (o.of_set (by decide))⟩
      refine StepsI.cons (i := 25) (ws := [18, 24]) rfl (by kernel_rfl) (fun L a W hI hno hon hw K hK => ?_) ?_
      · obtain ⟨_, rfl, u57, u58, u59, u60, u61, u62, u63, u64, u65, u66, u67, u68, u69, u70, u71, u72, u73, u74, u75, u76, u77, u78, u79, u80, u81, u82, u83, u84, G1, G2, G3, rfl, H⟩ := hI
        simp only [List.getElem_toArray, List.getElem_cons_zero, List.getElem_cons_succ]
        obtain rfl := H.e75 (hw 18 (by simp))
        obtain rfl := H.e81 (hw 24 (by simp))
        simp only [frmL, Act.put, List.setIfInBounds_toArray, List.set_cons_zero, List.set_cons_succ]
        go_simp
        have HN := H.up (below_alloc W (.cells #[.int .i64 k11, .int .i64 k10] 3))
        refine hK.out _ _ ⟨[u57, u58, u59, u60, u61, u62, u63, u64, u65, u66, u67, u68, u69, u70, u71, u72, u73, u74, .int .i64 k11, u76, u77, u78, u79, u80, .int .i64 k10, .slice (some ⟨W.heap.size, 0, none⟩) 2 2, u83, u84], ?_, u57, u58, u59, u60, u61, u62, u63, u64, u65, u66, u67, u68, u69, u70, u71, u72, u73, u74, .int .i64 k11, u76, u77, u78, u79, u80, .int .i64 k10, .slice (some ⟨W.heap.size, 0, none⟩) 2 2, u83, u84, G1, W.heap.size, G3, rfl, ?_⟩
        · simp only [frmL, Act.put, List.setIfInBounds_toArray, List.set_cons_zero, List.set_cons_succ]
        · exact ⟨HN.Z, HN.K.imp On.old id, HN.po, HN.zz, fun o => HN.e57 (o.of_set (by decide)), fun o => HN.e58 (o.of_set (by decide)), fun o => HN.e59 (o.of_set (by decide)), fun o => HN.e60 (o.of_set (by decide)), fun o => HN.e61 (o.of_set (by decide)), fun o => HN.e62 (o.of_set (by decide)), fun o => (HN.n1 (o.of_set (by decide))).imp On.old id, fun o => HN.e63 (o.of_set (by decide)), fun o => HN.e64 (o.of_set (by decide)), fun o => HN.e65 (o.of_set (by decide)), fun o => HN.e66 (o.of_set (by decide)), fun o => HN.e67 (o.of_set (by decide)), fun o => HN.e68 (o.of_set (by decide)), fun o => (HN.n7 (o.of_set (by decide))).imp On.old id, fun o => HN.e70 (o.of_set (by decide)), fun o => HN.e71 (o.of_set (by decide)), fun o => HN.e72 (o.of_set (by decide)), fun o => HN.e73 (o.of_set (by decide)), fun o => HN.e74 (o.of_set (by decide)), fun o => HN.e75 (o.of_set (by decide)), fun o => (HN.n14 (o.of_set (by decide))).imp On.old id, fun o => HN.e76 (o.of_set (by decide)), fun o => HN.e77 (o.of_set (by decide)), fun o => HN.e78 (o.of_set (by decide)), fun o => HN.e79 (o.of_set (by decide)), fun o => HN.e80 (o.of_set (by decide)), fun o => HN.e81 (o.of_set (by decide)), fun o => (HN.n20 (o.of_set (by decide))).imp On.old id, fun o => HN.e69 (o.of_set (by decide)), fun o => HN.b69 (o.of_set (by decide)), fun _ => rfl, fun _ => ⟨blk_new _ _ _, H.zz⟩, fun o => HN.e83 (o.of_set (by decide)), fun o => absurd (H.m12 (o.of_set (by decide))).2 hno, fun o => (HN.m12 (o.of_set (by decide))).imp On.old On.old, fun o => (HN.m28 (o.of_set (by decide))).imp On.old id, fun o => HN.e84 (o.of_set (by decide)), fun o => HN.y (o.of_set (by decide))⟩
      refine StepsI.cons (i := 26) (ws := [12, 25]) rfl (by kernel_rfl) (fun L a W hI hno hon hw K hK => ?_) ?_
      · obtain ⟨_, rfl, u57, u58, u59, u60, u61, u62, u63, u64, u65, u66, u67, u68, u69, u70, u71, u72, u73, u74, u75, u76, u77, u78, u79, u80, u81, u82, u83, u84, G1, G2, G3, rfl, H⟩ := hI
        simp only [List.getElem_toArray, List.getElem_cons_zero, List.getElem_cons_succ]
        obtain rfl := H.e69 (hw 12 (by simp))
        obtain rfl := H.e82 (hw 25 (by simp))
        simp only [frmL, Act.put, List.setIfInBounds_toArray, List.set_cons_zero, List.set_cons_succ]
        go_simp
        have HN := H.up (below_alloc W (.cells #[.slice (some ⟨G1, 0, none⟩) 2 2, .slice (some ⟨G2, 0, none⟩) 2 2] 23))
        refine hK.out _ _ ⟨[u57, u58, u59, u60, u61, u62, u63, u64, u65, u66, u67, u68, .slice (some ⟨G1, 0, none⟩) 2 2, u70, u71, u72, u73, u74, u75, u76, u77, u78, u79, u80, u81, .slice (some ⟨G2, 0, none⟩) 2 2, .slice (some ⟨W.heap.size, 0, none⟩) 2 2, u84], ?_, u57, u58, u59, u60, u61, u62, u63, u64, u65, u66, u67, u68, .slice (some ⟨G1, 0, none⟩) 2 2, u70, u71, u72, u73, u74, u75, u76, u77, u78, u79, u80, u81, .slice (some ⟨G2, 0, none⟩) 2 2, .slice (some ⟨W.heap.size, 0, none⟩) 2 2, u84, G1, G2, W.heap.size, rfl, ?_⟩
        · simp only [frmL, Act.put, List.setIfInBounds_toArray, List.set_cons_zero, List.set_cons_succ]
        · exact ⟨HN.Z, HN.K.imp On.old id, HN.po, HN.zz, fun o => HN.e57 (o.of_set (by decide)), fun o => HN.e58 (o.of_set (by decide)), fun o => HN.e59 (o.of_set (by decide)), fun o => HN.e60 (o.of_set (by decide)), fun o => HN.e61 (o.of_set (by decide)), fun o => HN.e62 (o.of_set (by decide)), fun o => (HN.n1 (o.of_set (by decide))).imp On.old id, fun o => HN.e63 (o.of_set (by decide)), fun o => HN.e64 (o.of_set (by decide)), fun o => HN.e65 (o.of_set (by decide)), fun o => HN.e66 (o.of_set (by decide)), fun o => HN.e67 (o.of_set (by decide)), fun o => HN.e68 (o.of_set (by decide)), fun o => (HN.n7 (o.of_set (by decide))).imp On.old id, fun o => HN.e70 (o.of_set (by decide)), fun o => HN.e71 (o.of_set (by decide)), fun o => HN.e72 (o.of_set (by decide)), fun o => HN.e73 (o.of_set (by decide)), fun o => HN.e74 (o.of_set (by decide)), fun o => HN.e75 (o.of_set (by decide)), fun o => (HN.n14 (o.of_set (by decide))).imp On.old id, fun o => HN.e76 (o.of_set (by decide)), fun o => HN.e77 (o.of_set (by decide)), fun o => HN.e78 (o.of_set (by decide)), fun o => HN.e79 (o.of_set (by decide)), fun o => HN.e80 (o.of_set (by decide)), fun o => HN.e81 (o.of_set (by decide)), fun o => (HN.n20 (o.of_set (by decide))).imp On.old id, fun o => HN.e69 (o.of_set (by decide)), fun o => HN.b69 (o.of_set (by decide)), fun o => HN.e82 (o.of_set (by decide)), fun o => HN.b82 (o.of_set (by decide)), fun _ => rfl, fun _ => ⟨blk_new _ _ _, H.zz⟩, fun _ => ⟨(hw 12 (by simp)).old, (hw 25 (by simp)).old⟩, fun o => (HN.m28 (o.of_set (by decide))).imp On.old id, fun o => HN.e84 (o.of_set (by decide)), fun o => absurd (H.m28 (o.of_set (by decide))).1 hno⟩
      refine StepsI.cons (i := 27) (ws := [0, 1, 2, 3, 4, 5, 6, 7, 8, 9, 10, 11, 12, 13, 14, 15, 16, 17, 18, 19, 20, 21, 22, 23, 24, 25, 26]) rfl (by kernel_rfl) (fun L a W hI hno hon hw K hK => ?_) ?_
      · obtain ⟨_, rfl, u57, u58, u59, u60, u61, u62, u63, u64, u65, u66, u67, u68, u69, u70, u71, u72, u73, u74, u75, u76, u77, u78, u79, u80, u81, u82, u83, u84, G1, G2, G3, rfl, H⟩ := hI
        simp only [List.getElem_toArray, List.getElem_cons_zero, List.getElem_cons_succ]
        simp only [frmL, Act.put, List.setIfInBounds_toArray, List.set_cons_zero, List.set_cons_succ]
        go_simp
        have HN := H
        refine hK.out _ _ ⟨[u57, u58, u59, u60, u61, u62, u63, u64, u65, u66, u67, u68, u69, u70, u71, u72, u73, u74, u75, u76, u77, u78, u79, u80, u81, u82, u83, .pointer (some ⟨w1.heap.size, 3, none⟩)], ?_, u57, u58, u59, u60, u61, u62, u63, u64, u65, u66, u67, u68, u69, u70, u71, u72, u73, u74, u75, u76, u77, u78, u79, u80, u81, u82, u83, .pointer (some ⟨w1.heap.size, 3, none⟩), G1, G2, G3, rfl, ?_⟩
        · simp only [frmL, Act.put, List.setIfInBounds_toArray, List.set_cons_zero, List.set_cons_succ]
        · exact ⟨HN.Z, HN.K.imp On.old id, HN.po, HN.zz, fun o => HN.e57 (o.of_set (by decide)), fun o => HN.e58 (o.of_set (by decide)), fun o => HN.e59 (o.of_set (by decide)), fun o => HN.e60 (o.of_set (by decide)), fun o => HN.e61 (o.of_set (by decide)), fun o => HN.e62 (o.of_set (by decide)), fun o => (HN.n1 (o.of_set (by decide))).imp On.old id, fun o => HN.e63 (o.of_set (by decide)), fun o => HN.e64 (o.of_set (by decide)), fun o => HN.e65 (o.of_set (by decide)), fun o => HN.e66 (o.of_set (by decide)), fun o => HN.e67 (o.of_set (by decide)), fun o => HN.e68 (o.of_set (by decide)), fun o => (HN.n7 (o.of_set (by decide))).imp On.old id, fun o => HN.e70 (o.of_set (by decide)), fun o => HN.e71 (o.of_set (by decide)), fun o => HN.e72 (o.of_set (by decide)), fun o => HN.e73 (o.of_set (by decide)), fun o => HN.e74 (o.of_set (by decide)), fun o => HN.e75 (o.of_set (by decide)), fun o => (HN.n14 (o.of_set (by decide))).imp On.old id, fun o => HN.e76 (o.of_set (by decide)), fun o => HN.e77 (o.of_set (by decide)), fun o => HN.e78 (o.of_set (by decide)), fun o => HN.e79 (o.of_set (by decide)), fun o => HN.e80 (o.of_set (by decide)), fun o => HN.e81 (o.of_set (by decide)), fun o => (HN.n20 (o.of_set (by decide))).imp On.old id, fun o => HN.e69 (o.of_set (by decide)), fun o => HN.b69 (o.of_set (by decide)), fun o => HN.e82 (o.of_set (by decide)), fun o => HN.b82 (o.of_set (by decide)), fun o => HN.e83 (o.of_set (by decide)), fun o => HN.b83 (o.of_set (by decide)), fun o => (HN.m12 (o.of_set (by decide))).imp On.old On.old, fun o => (HN.m28 (o.of_set (by decide))).imp On.old id, fun _ => rfl, fun o => HN.y (o.of_set (by decide))⟩
      refine StepsI.cons (i := 28) (ws := [27, 26, 0, 1, 2, 3, 4, 5, 6, 7, 8, 9, 10, 11, 12, 13, 14, 15, 16, 17, 18, 19, 20, 21, 22, 23, 24, 25, 26]) rfl (by kernel_rfl) (fun L a W hI hno hon hw K hK => ?_) ?_
      · obtain ⟨_, rfl, u57, u58, u59, u60, u61, u62, u63, u64, u65, u66, u67, u68, u69, u70, u71, u72, u73, u74, u75, u76, u77, u78, u79, u80, u81, u82, u83, u84, G1, G2, G3, rfl, H⟩ := hI
        simp only [List.getElem_toArray, List.getElem_cons_zero, List.getElem_cons_succ]
        obtain rfl := H.e84 (hw 27 (by simp))
        obtain rfl := H.e83 (hw 26 (by simp))
        have hKx := H.K.resolve_left hno
        simp only [frmL, Act.put, List.setIfInBounds_toArray, List.set_cons_zero, List.set_cons_succ]
        have c3 := blk_cell hKx (i := 3) rfl
        have f3 := blk_frozen hKx 3
        go_simp
        have HN := H
        refine hK.out _ _ ⟨[u57, u58, u59, u60, u61, u62, u63, u64, u65, u66, u67, u68, u69, u70, u71, u72, u73, u74, u75, u76, u77, u78, u79, u80, u81, u82, .slice (some ⟨G3, 0, none⟩) 2 2, .pointer (some ⟨w1.heap.size, 3, none⟩)], ?_, u57, u58, u59, u60, u61, u62, u63, u64, u65, u66, u67, u68, u69, u70, u71, u72, u73, u74, u75, u76, u77, u78, u79, u80, u81, u82, .slice (some ⟨G3, 0, none⟩) 2 2, .pointer (some ⟨w1.heap.size, 3, none⟩), G1, G2, G3, rfl, ?_⟩
        · simp only [frmL, Act.put, List.setIfInBounds_toArray, List.set_cons_zero, List.set_cons_succ]
        · exact ⟨H.Z.setCell (p := ⟨w1.heap.size, 3, none⟩) (Nat.le_refl _) _, .inl hon, H.po.ne fun x h1 _ _ => Below.heap_setCell _ _ _ _ (by have h := HBX.out; show x ≠ w1.heap.size; omega), by simpa using H.zz, fun o => HN.e57 (o.of_set (by decide)), fun o => HN.e58 (o.of_set (by decide)), fun o => HN.e59 (o.of_set (by decide)), fun o => HN.e60 (o.of_set (by decide)), fun o => HN.e61 (o.of_set (by decide)), fun o => HN.e62 (o.of_set (by decide)), fun _ => ⟨(hw 1 (by simp)).old, trivial⟩, fun o => HN.e63 (o.of_set (by decide)), fun o => HN.e64 (o.of_set (by decide)), fun o => HN.e65 (o.of_set (by decide)), fun o => HN.e66 (o.of_set (by decide)), fun o => HN.e67 (o.of_set (by decide)), fun o => HN.e68 (o.of_set (by decide)), fun _ => ⟨(hw 7 (by simp)).old, trivial⟩, fun o => HN.e70 (o.of_set (by decide)), fun o => HN.e71 (o.of_set (by decide)), fun o => HN.e72 (o.of_set (by decide)), fun o => HN.e73 (o.of_set (by decide)), fun o => HN.e74 (o.of_set (by decide)), fun o => HN.e75 (o.of_set (by decide)), fun _ => ⟨(hw 14 (by simp)).old, trivial⟩, fun o => HN.e76 (o.of_set (by decide)), fun o => HN.e77 (o.of_set (by decide)), fun o => HN.e78 (o.of_set (by decide)), fun o => HN.e79 (o.of_set (by decide)), fun o => HN.e80 (o.of_set (by decide)), fun o => HN.e81 (o.of_set (by decide)), fun _ => ⟨(hw 20 (by simp)).old, trivial⟩, fun o => HN.e69 (o.of_set (by decide)), fun o => let q := H.b69 (o.of_set (by decide)); ⟨blk_other q.1 (by have h := q.2; show _ ≠ w1.heap.size; omega) _, q.2⟩, fun o => HN.e82 (o.of_set (by decide)), fun o => let q := H.b82 (o.of_set (by decide)); ⟨blk_other q.1 (by have h := q.2; show _ ≠ w1.heap.size; omega) _, q.2⟩, fun o => HN.e83 (o.of_set (by decide)), fun o => let q := H.b83 (o.of_set (by decide)); ⟨blk_other q.1 (by have h := q.2; show _ ≠ w1.heap.size; omega) _, q.2⟩, fun o => (HN.m12 (o.of_set (by decide))).imp On.old On.old, fun _ => ⟨(hw 26 (by simp)).old, trivial⟩, fun o => HN.e84 (o.of_set (by decide)), fun _ => blk_set hKx 3 _⟩
      exact StepsI.nil
    · rintro L us W hL ⟨u57, u58, u59, u60, u61, u62, u63, u64, u65, u66, u67, u68, u69, u70, u71, u72, u73, u74, u75, u76, u77, u78, u79, u80, u81, u82, u83, u84, G1, G2, G3, rfl, H⟩
      have e83 := H.e83 (hL 26 (by simp))
      have y8 := H.y (hL 28 (by simp))
      have r69 := (H.b69 (hL 12 (by simp))).1
      have r82 := (H.b82 (hL 25 (by simp))).1
      have r83 := (H.b83 (hL 26 (by simp))).1
      have yy := HYY.out
      have HCO := Lib.hid (HKS.out.symm ▸ rows_two k01 k00 k11 k10 r69 r82 r83 ⟨by omega, by omega⟩ ⟨by omega, by omega⟩ ⟨by omega, by omega⟩ ⟨by omega, by omega⟩)
      have HZ9 := Lib.hid (show Below w1.heap.size w1 W.drew from H.Z.drew)
      have HP9 := Lib.hid (H.po.below ((Below.refl W.heap.size W).drew))
      have HCO9 := Lib.hid (HCO.out.keep (Keep.below ((Below.refl W.heap.size W).drew)))
      have SX := Lib.hid (show W.cell? ⟨w1.heap.size, 0, none⟩ = some (.slice (some ⟨p.b1, p.o1, none⟩) 2 p.c1) ∧ W.cell? ⟨w1.heap.size, 1, none⟩ = some (.slice (some ⟨p.b2, p.o2, none⟩) 2 p.c2) ∧ W.cell? ⟨w1.heap.size, 2, none⟩ = some (.slice (some ⟨p.b3, p.o3, none⟩) 2 p.c3) ∧ W.cell? ⟨w1.heap.size, 3, none⟩ = some (.slice (some ⟨G3, 0, none⟩) 2 2) from ⟨blk_cell y8 rfl, blk_cell y8 rfl, blk_cell y8 rfl, blk_cell y8 rfl⟩)
      have HVX : VTk xs ss hs (cX ks) := ⟨HVV.out.1, HVV.out.2.1, HVV.out.2.2.1, V2_cX HVV.out.2.2.2⟩
      have hrx := rX_lt b
      have hty := tp_yes (xs := xs) (ss := ss) (hs := hs) (ks := cX ks) (s := 3 - a) (r := rX b) HVX (by omega) hrx
      have cc := TalkPays_impl _ _ _ _ _ _ _ _ _ _ _ _ xs ss hs (cX ks) ((3 - a : Nat) : Int) ((rX b : Nat) : Int) W.drew ⟨(H0.out.keep (Keep.below HZ9.out)).r1, (H0.out.keep (Keep.below HZ9.out)).r2, (H0.out.keep (Keep.below HZ9.out)).r3, HCO9.out⟩ ⟨by omega, by omega⟩ ⟨by omega, by omega⟩
      rw [hty.1, hty.2, HSP.out.1, HSP.out.2.1, HSP.out.2.2, HLS.out] at cc
      have hb0 := sg_lt b 0
      have hb1 := sg_lt b 1
      have hw1 : IntKind.i64.wrap (3 - (a : Int)) = ((3 - a : Nat) : Int) := by rw [wrapIn (by omega)]; omega
      have hw2 : IntKind.i64.wrap (2 * ((sg b 0 : Nat) : Int)) = 2 * ((sg b 0 : Nat) : Int) := wrapIn (by omega)
      have hw3 : IntKind.i64.wrap (((sg b 1 : Nat) : Int) + IntKind.i64.wrap (2 * ((sg b 0 : Nat) : Int))) = ((rX b : Nat) : Int) := by rw [hw2, wrapIn (by omega)]; unfold rX; omega
      rw [← hw1, ← hw3] at cc
      have HC := Lib.hid cc
      have HB1 := Lib.hid (fun W => show Calls Try.prog 21 #[.int .i64 (b : Int), .int .i64 1] W (fun e w' => e = .returned (.int .i64 (sg b 1 : Nat)) ∧ W = w') from tbit_any b 1 W hb6 (by omega))
      have HB0 := Lib.hid (fun W => show Calls Try.prog 21 #[.int .i64 (b : Int), .int .i64 0] W (fun e w' => e = .returned (.int .i64 (sg b 0 : Nat)) ∧ W = w') from tbit_any b 0 W hb6 (by omega))
      clear H hL e83 y8 r69 r82 r83 yy HVX hty cc hb0 hb1 hw1 hw2 hw3 hrx HCO HYY HKS HK8 HZ8 HP8
      generalize sg b 0 = B0 at *
      generalize sg b 1 = B1 at *
      simp only [frmL, Act.put, List.setIfInBounds_toArray, List.set_cons_zero, List.set_cons_succ]
      go_wp2
      go_region_held3 (fun W => W.cell? ⟨w1.heap.size, 0, none⟩ = some (.slice (some ⟨p.b1, p.o1, none⟩) 2 p.c1) ∧ W.cell? ⟨w1.heap.size, 1, none⟩ = some (.slice (some ⟨p.b2, p.o2, none⟩) 2 p.c2) ∧ W.cell? ⟨w1.heap.size, 2, none⟩ = some (.slice (some ⟨p.b3, p.o3, none⟩) 2 p.c3) ∧ W.cell? ⟨w1.heap.size, 3, none⟩ = some (.slice (some ⟨G3, 0, none⟩) 2 2))
        (first | exact SX.out | go_keep)
        (first
        | (go_at_call 21; (first | (with_reducible refine (HB1.out _).mono ?_) | (with_reducible refine (HB0.out _).mono ?_)); rintro e w' ⟨rfl, rfl⟩)
        | (go_at_call 18; (with_reducible refine HC.out.mono ?_); rintro e w30 ⟨Aq, cq, gq, rfl, hoq, -, hb⟩; have SX := Lib.hid (And.intro (Keep.below hb _ _ SX.out.1) (And.intro (Keep.below hb _ _ SX.out.2.1) (And.intro (Keep.below hb _ _ SX.out.2.2.1) (Keep.below hb _ _ SX.out.2.2.2)))); have HZ10 := Lib.hid (below_up HZ9.out hb); have HP10 := Lib.hid (HP9.out.below hb); have HQ := Lib.hid hoq.ints; clear hb hoq HC))
      clear SX
      have HEI2 := Lib.hid (show eqI ls ls = true by simp [eqI])
      have hEE2 : (E == E) = true := by simp
      go_wp2_with fail
      refine (HEI2.out ▸ equalInts_any _ _ _ _ _ _ ls ls _ HQ.out HP10.out.ints).mono ?_
      rintro e w31 ⟨rfl, hq⟩
      have HZ11 := Lib.hid (below_quiet HZ10.out hq)
      clear hq
      go_wp2
      go_ret
      exact ⟨rfl, below_up BB.out HZ11.out⟩

set_option maxRecDepth 100000 in
theorem hFnTalkPays_lifted (os : Os) (started : os.Started) (H : Type) (enc : TypeId × Value → H) :
    ReturnsInHanded {} Try.checked os 4 .any (Rows.fnTalkPaysSpec.pre6 enc Try.prog Try.f4 Rows.fnTalkPaysRow.domain false) (Rows.fnTalkPaysSpec.post enc Try.prog Try.f4 false true false false) := by
  refine returnsInHanded_of_change_sized (C := Try.checked) Try.own started (by kernel_rfl) Try.func4
    (ChangeSpec.witness6 (enc := enc) (C := Try.checked) false ⟨#[], #[.slice none 0 0], []⟩ 8 (by kernel_rfl) (by kernel_rfl) (by kernel_rfl) (by kernel_rfl)) ?_
  intro W base args ds gs before hval0 hW _ hwt _
  have hval : ∀ (j : Nat) t v, Try.f4.params[j]? = some t → args[j]? = some v → Value.okWide Try.prog W .any base t v := hval0
  have hA : ∃ p, DataW.TrodAll enc Try.prog W 0 (fun _ => true) true Try.f4.params.toList args.toList ds p := by obtain ⟨p, q, hA0, _⟩ := hW; exact ⟨p, hA0⟩
  obtain ⟨p, hA⟩ := hA
  have hwt' := weights_arg hwt (j := 0) (t := 22) (by rw [Try.params4]; rfl) (d := ds.getD 0 .nil)
  rw [Try.params4] at hA hval
  obtain ⟨v0, d0, rfl, rfl, h0⟩ := trodAll_one hA
  obtain ⟨A, n, c, rfl, hx⟩ := open_bytes (hval 0 22 v0 rfl rfl) h0 (hwt' rfl)
  refine (fnTalkPays_calls A n c W hx).mono fun e W' ⟨he, hb⟩ => ?_
  subst he
  exact ⟨_, rfl, law_post (F := Try.f4) rfl rfl (by rw [Try.params4]; simp only [List.mem_cons, List.not_mem_nil, or_false, forall_eq]; exact ⟨by kernel_rfl, of_decide_eq_true (by kernel_rfl)⟩) hW (fun h => by subst h; rfl) hb⟩

theorem hFnTalkPays_holds : Rows.FnTalkPaysSaid :=
  OpenClaim.holds_of_wide 4 Try.f4 rfl rfl rfl rfl rfl rfl rfl ⟨rfl, rfl, rfl, rfl, rfl⟩ rfl rfl rfl rfl rfl (by kernel_rfl) Try.func4
    (by unfold joinedFacts; simp only [Bool.and_eq_true]; (repeat' apply And.intro) <;> (first | (with_reducible exact prog_enters) | ((with_reducible refine prog_lifts ?_); rfl) | ((with_reducible refine prog_make ?_); rfl) | kernel_rfl))
    (of_decide_eq_true (by kernel_rfl)) (by unfold Func.isWrapper; first | (rw [if_pos (by decide +kernel)]; kernel_rfl) | (rw [if_neg (by decide +kernel)]; exact ⟨rfl, rfl⟩))
    (fun os started H enc _ => hFnTalkPays_lifted os started H enc)

end Go.Proofs.Ytcjanlbhgfadpaa
