/- The law FnExactReplyMoves holds: for every game and two numbers the program's ReplyMoves answers as the model's, and leaves the game as it was. No condition. -/
import Derived.Test.YtjkmgpiiamffgaaQ14
namespace Go.Proofs.Ytjkmgpiiamffgaa
open Go.ChangeShapes Go.WideShapes Go.ChangeAt Go.RowKit Go.Deep

theorem mv_two (f : Int → List Int) (hf : ∀ x, (f x).length = 2) (l : List Int) : ∀ r ∈ l.map f, r.length ≤ 3 := fun r h => by
  obtain ⟨x, _, rfl⟩ := List.mem_map.1 h
  rw [hf x]; omega
theorem repF_offs (xs ys : List (List Int)) (i j : Int) : offs (repF xs ys i j) (repF xs ys i j).length ≤ 1000000 := by
  unfold repF
  split
  · rename_i h
    have v : VG xs ys := pb_iff.1 (by revert h; cases pb (VG xs ys) <;> simp)
    have hj : Blw (gr xs 0).length j := pb_iff.1 (by revert h; cases pb (Blw (gr xs 0).length j) <;> simp)
    have hi : Blw xs.length i := pb_iff.1 (by revert h; cases pb (Blw xs.length i) <;> simp)
    have h1 := brF_len (colOf xs xs.length j.toNat) i.toNat
    have h2 := brF_len (gr ys i.toNat) j.toNat
    rw [colOf_len] at h1
    have h3 := v.ta.n3
    have h4 := v.tb.m3
    have h5 := (v.tb.rows i.toNat (by have := v.n; unfold Blw at hi; omega)).1
    have hl : (repL xs ys xs.length i.toNat j.toNat).length ≤ 6 := by rw [repL, List.length_append, mvA_len, mvB_len]; omega
    have ht : ∀ r ∈ repL xs ys xs.length i.toNat j.toNat, r.length ≤ 3 := fun r hr => by
      rw [repL, List.mem_append] at hr
      rcases hr with hr | hr
      · exact mv_two _ (fun _ => rfl) _ r hr
      · exact mv_two _ (fun _ => rfl) _ r hr
    have h6 := offs_le ht _ (Nat.le_refl _)
    omega
  · simp [offs]

set_option maxRecDepth 100000 in
set_option maxHeartbeats 2000000 in
theorem exReplyMoves_calls (A B : Option Addr) (n c m d : Nat) (xs ys : List (List Int)) (i j : Int) (w : World) (hx : IntRows w A n c xs) (hy : IntRows w B m d ys) (hi : Fit i) (hj : Fit j) :
    Calls Try.prog 10 #[.agg #[.slice A n c, .slice B m d], .int .i64 i, .int .i64 j] w fun e w' => e = .returned (.bool true) ∧ Below w.heap.size w w' := by
  have HG := Lib.hid (GS.start hx hy)
  have HFI := Lib.hid hi
  have HFJ := Lib.hid hj
  clear hx hy hi hj
  go_enter Try.func10, Try.ntmps10
  go_wp2_with fail
  generalize w.alloc (.cells #[.slice A n c, .slice B m d] 59) = W0 at *
  refine (szGame_any _ _ _ _ _ _ _ _ _ _ HG.out.rx HG.out.ry (by omega) (by omega)).mono ?_
  rintro e w1 ⟨rfl, hb⟩
  have H1 := Lib.hid (HG.out.up hb)
  have a0 := H1.out.c0
  have a1 := H1.out.c1
  clear hb HG
  by_cases hs : szG 1048576 xs ys < 0
  · go_wp2
    go_ret
    exact ⟨rfl, H1.out.below⟩
  have HZ := Lib.hid (szG_offs hs (by omega) (by omega))
  go_wp2_with fail
  refine (toGame_any _ _ _ _ _ _ _ _ _ H1.out.rx H1.out.ry).mono ?_
  rintro e w2 ⟨g1, g2, mid, rfl, o1, o2, hb, -⟩
  have H2 := Lib.hid (H1.out.up hb)
  have O1 := Lib.hid o1.rows
  have O2 := Lib.hid o2.rows
  clear hb H1 o1 o2 a0 a1
  go_wp2_with fail
  refine (ReplyMoves_spec _ _ _ _ _ _ _ _ _ _ _ O1.out O2.out HFI.out HFJ.out).mono ?_
  rintro e w3 ⟨As, _, cs, gs, rfl, rfl, os, hb⟩
  have H3 := Lib.hid (H2.out.up hb)
  have HS := Lib.hid os
  have a0 := H3.out.c0
  have a1 := H3.out.c1
  have hS := blk_lt H2.out.box
  have hS2 := hb.size
  clear hb H2 O1 O2 os
  go_wp2_with fail
  refine (toGame_any _ _ _ _ _ _ _ _ _ H3.out.rx H3.out.ry).mono ?_
  rintro e w4 ⟨g3, g4, mid, rfl, o1, o2, hb, hm1, hm2⟩
  have H4 := Lib.hid (H3.out.up hb)
  have HS4 := Lib.hid (HS.out.below hb)
  have O1 := Lib.hid o1
  have O2 := Lib.hid o2
  clear hb H3 o1 o2 a0 a1 HS
  go_wp2_with fail
  have H5 := Lib.hid (H4.out.up (below_alloc _ (.cells #[.slice (some ⟨g3, 0, none⟩) n n, .slice (some ⟨g4, 0, none⟩) m m] 54)))
  have HS5 := Lib.hid (HS4.out.below (below_alloc _ (.cells #[.slice (some ⟨g3, 0, none⟩) n n, .slice (some ⟨g4, 0, none⟩) m m] 54)))
  have X5 := Lib.hid (XS.start O1.out O2.out hm1 hm2 (Nat.le_refl _))
  have hz5 : w4.heap.size < (w4.alloc (.cells #[.slice (some ⟨g3, 0, none⟩) n n, .slice (some ⟨g4, 0, none⟩) m m] 54)).heap.size := by simp
  clear H4 O1 O2 HS4
  generalize w4.alloc (.cells #[.slice (some ⟨g3, 0, none⟩) n n, .slice (some ⟨g4, 0, none⟩) m m] 54) = W5 at *
  generalize w4.heap.size = g at *
  refine (ReplyMoves_impl _ _ _ _ _ _ _ _ _ _ _ X5.out.rows.1 X5.out.rows.2 HFI.out HFJ.out).mono ?_
  rintro e w6 ⟨Ag, _, cg, gg, rfl, rfl, og, hb⟩
  have H6 := Lib.hid (H5.out.up hb)
  have X6 := Lib.hid (X5.out.up hb)
  have HS6 := Lib.hid (HS5.out.below hb)
  have HG6 := Lib.hid og
  have hL := hb.size
  clear hb H5 X5 HS5 og
  have HBD := Lib.hid (repF_offs xs ys i j)
  go_wp2_with fail
  have heq := (eqIntSS_any _ _ _ _ _ _ _ _ _ HG6.out.rows HS6.out.rows)
  rw [show eqRR (repF xs ys i j) (repF xs ys i j) = true by simp [eqRR]] at heq
  refine heq.mono ?_
  rintro e w7 ⟨rfl, hq⟩
  have hb : Below w6.heap.size w6 w7 := hq.below
  have H7 := Lib.hid (H6.out.up hb)
  have X7 := Lib.hid (X6.out.up hb)
  have HS7 := Lib.hid (HS6.out.below hb)
  have HG7 := Lib.hid (HG6.out.below hb)
  have a0 := H7.out.c0
  have a1 := H7.out.c1
  have x0 := X7.out.c0
  have x1 := X7.out.c1
  clear hb hq heq H6 X6 HS6 HG6 a0 a1 x0 x1
  have HE := Lib.hid (show Ex w A B n c m d xs ys w3.heap.size mid g g g3 g4 w2.heap.size gs As cs W5.heap.size w6.heap.size gg Ag cg (repF xs ys i j) (repF xs ys i j) w7.drew from
    Ex.up (W := w7) ⟨H7.out, X7.out, HS7.out, HG7.out, by omega, Nat.le_of_lt hz5, Nat.le_trans hm1 hm2⟩ ((Below.refl _ _).drew))
  have k0 := X7.out.c0
  have k1 := X7.out.c1
  have k2 := H7.out.c0
  have k3 := H7.out.c1
  clear H7 X7 HS7 HG7
  generalize w6.heap.size = L2 at *
  go_wp2_with fail
  go_region_held3 (fun W => (W.cell? ⟨w.heap.size, 0, none⟩ = some (.slice A n c) ∧ W.cell? ⟨w.heap.size, 1, none⟩ = some (.slice B m d)) ∧ (W.cell? ⟨g, 0, none⟩ = some (.slice (some ⟨g3, 0, none⟩) n n) ∧ W.cell? ⟨g, 1, none⟩ = some (.slice (some ⟨g4, 0, none⟩) m m))) (first | exact HK.out.cells | exact HF.out.cells | exact HE.out.cells)
    (first
    | (go_at_call 48; refine (toGame_any _ _ _ _ _ _ xs ys _ ?_ ?_).mono ?_; exact HE.out.fg.rx; exact HE.out.fg.ry; rintro e w8 ⟨g5, g6, mid2, rfl, o1, o2, hb, -⟩; have HF := Lib.hid (HE.out.up hb); have O1 := Lib.hid o1.rows; have O2 := Lib.hid o2.rows; clear hb HE o1 o2)
    | (go_at_call 49; refine ((eqG_refl xs ys) ▸ eqGame_any _ _ _ _ _ _ _ _ _ _ _ _ xs ys xs ys _ ?_ ?_ ?_ ?_).mono ?_; exact HF.out.fx.rows.1; exact HF.out.fx.rows.2; exact O1.out; exact O2.out; rintro e w9 ⟨rfl, hb⟩; have HK := Lib.hid (HF.out.up hb); clear hb HF O1 O2))
  have k0 := HK.out.fx.c0
  have k1 := HK.out.fx.c1
  go_wp2_with fail
  refine (markGame_any w3.heap.size mid g g g3 g4 n m xs ys 1 _ HK.out.fx (by omega) (by omega) HZ.out.1 HZ.out.2).mono ?_
  rintro e w10 ⟨rfl, W10, hbm, htm⟩
  have HY := Lib.hid (HK.out.mark hbm htm)
  have q1 := offs_ge xs xs.length
  have q2 := offs_ge ys ys.length
  have q3 := offs_ge (repF xs ys i j) (repF xs ys i j).length
  have q4 := HBD.out
  have q5 := HZ.out.1
  have q6 := HZ.out.2
  clear hbm htm HK k0 k1 k2 k3
  go_wp2_with fail
  have heq := Lib.hid (eqIntSS_any _ _ _ _ _ _ _ _ _ HY.out.fr.rows HY.out.fs.rows)
  rw [show eqRR (repF xs ys i j) (repF xs ys i j) = true by simp [eqRR]] at heq
  refine heq.out.mono ?_
  rintro e w11 ⟨rfl, hq⟩
  have HY11 := Lib.hid (HY.out.up hq.below)
  clear heq hq HY
  go_wp2_with fail
  refine (markIntSS_any _ _ _ _ _ _ _ 1 _ HY11.out.fr (by omega) (by omega)).mono ?_
  rintro e w12 ⟨rfl, hm, ht⟩
  have HY12 := Lib.hid (HY11.out.mark ht hm)
  clear ht hm HY11
  go_wp2_with fail
  refine (heldIntSS_any _ _ _ (repF xs ys i j) 1 _ HY12.out.fr.rows (by omega) (by omega)).mono ?_
  rintro e w13 ⟨rfl, hq⟩
  have HY13 := Lib.hid (HY12.out.up hq.below)
  have a0 := HY13.out.fg.c0
  have a1 := HY13.out.fg.c1
  clear hq HY12
  go_wp2_with fail
  refine (toGame_any _ _ _ _ _ _ _ _ _ HY13.out.fg.rx HY13.out.fg.ry).mono ?_
  rintro e w14 ⟨g7, g8, mid3, rfl, o1, o2, hb, -⟩
  have HY14 := Lib.hid (HY13.out.up hb)
  have O1 := Lib.hid o1.rows
  have O2 := Lib.hid o2.rows
  clear hb HY13 o1 o2 a0 a1
  go_wp2_with fail
  refine (ReplyMoves_impl _ _ _ _ _ _ _ _ _ _ _ O1.out O2.out HFI.out HFJ.out).mono ?_
  rintro e w15 ⟨Ah, _, ch, gh, rfl, rfl, oh, hb⟩
  have HY15 := Lib.hid (HY14.out.up hb)
  have HH := Lib.hid oh.rows
  clear hb HY14 O1 O2 oh
  go_wp2_with fail
  have heq := Lib.hid (eqIntSS_any _ _ _ _ _ _ _ _ _ HH.out HY15.out.fs.rows)
  rw [show eqRR (repF xs ys i j) (repF xs ys i j) = true by simp [eqRR]] at heq
  refine heq.out.mono ?_
  rintro e w16 ⟨rfl, hq⟩
  have HY16 := Lib.hid (HY15.out.up hq.below)
  clear heq hq HY15 HH
  go_wp2_with fail
  refine (heldIntSS_any _ _ _ (repF xs ys i j) 1 _ HY16.out.fr.rows (by omega) (by omega)).mono ?_
  rintro e w17 ⟨rfl, hq⟩
  have HY17 := Lib.hid (HY16.out.up hq.below)
  clear hq HY16
  go_wp2
  go_ret
  exact ⟨rfl, HY17.out.fg.below⟩


set_option maxRecDepth 100000 in
theorem hFnExactReplyMoves_lifted (os : Os) (started : os.Started) (H : Type) (enc : TypeId × Value → H) :
    ReturnsInHanded {} Try.checked os 10 .any (Rows.fnExactReplyMovesSpec.pre6 enc Try.prog Try.f10 Rows.fnExactReplyMovesRow.domain false) (Rows.fnExactReplyMovesSpec.post enc Try.prog Try.f10 false true false false) := by
  refine returnsInHanded_of_change_sized (C := Try.checked) Try.own started (by kernel_rfl) Try.func10
    (ChangeSpec.witness6 (enc := enc) (C := Try.checked) false ⟨#[], #[.agg #[.slice none 0 0, .slice none 0 0], .int .i64 0, .int .i64 0], []⟩ 8 (by kernel_rfl) (by kernel_rfl) (by kernel_rfl) (by kernel_rfl)) ?_
  intro W base args ds gs before hval0 hW _ hwt _
  have hval : ∀ (j : Nat) t v, Try.f10.params[j]? = some t → args[j]? = some v → Value.okWide Try.prog W .any base t v := hval0
  have hA : ∃ p, DataW.TrodAll enc Try.prog W 0 (fun _ => true) true Try.f10.params.toList args.toList ds p := by obtain ⟨p, q, hA0, _⟩ := hW; exact ⟨p, hA0⟩
  obtain ⟨p, hA⟩ := hA
  have hwt0 := weights_arg hwt (j := 0) (t := 59) (by rw [Try.params10]; rfl) (d := ds.getD 0 .nil)
  rw [Try.params10] at hA hval
  obtain ⟨v0, v1, v2, d0, d1, d2, p0, p1, p2, rfl, rfl, rfl, h0, h1, h2⟩ := trodAll_three hA
  obtain ⟨A0, n0, c0, xs0, B0, m0, e0, ys0, rfl, hx0, hy0⟩ := open_game (hval 0 59 v0 rfl rfl) h0 (hwt0 rfl)
  obtain ⟨k1, rfl, hk1⟩ := open_num (hval 1 3 v1 rfl rfl) h1
  obtain ⟨k2, rfl, hk2⟩ := open_num (hval 2 3 v2 rfl rfl) h2
  refine (exReplyMoves_calls A0 B0 n0 c0 m0 e0 xs0 ys0 k1 k2 W hx0 hy0 hk1 hk2).mono fun e W' ⟨he, hb⟩ => ?_
  subst he
  exact ⟨_, rfl, law_post (F := Try.f10) rfl rfl (by rw [Try.params10]; intro t ht; simp only [List.mem_cons, List.not_mem_nil, or_false] at ht; rcases ht with rfl | rfl | rfl <;> exact ⟨by kernel_rfl, of_decide_eq_true (by kernel_rfl)⟩) hW (fun h => by subst h; rfl) hb⟩

theorem hFnExactReplyMoves_holds : Rows.FnExactReplyMovesSaid :=
  OpenClaim.holds_of_wide 10 Try.f10 rfl rfl rfl rfl rfl rfl rfl ⟨rfl, rfl, rfl, rfl, rfl⟩ rfl rfl rfl rfl rfl (by kernel_rfl) Try.func10
    (by unfold joinedFacts; simp only [Bool.and_eq_true]; (repeat' apply And.intro) <;> (first | (with_reducible exact prog_enters) | ((with_reducible refine prog_lifts ?_); rfl) | ((with_reducible refine prog_make ?_); rfl) | kernel_rfl))
    (of_decide_eq_true (by kernel_rfl)) (by unfold Func.isWrapper; first | (rw [if_pos (by decide +kernel)]; kernel_rfl) | (rw [if_neg (by decide +kernel)]; exact ⟨rfl, rfl⟩))
    (fun os started H enc _ => hFnExactReplyMoves_lifted os started H enc)

end Go.Proofs.Ytjkmgpiiamffgaa
