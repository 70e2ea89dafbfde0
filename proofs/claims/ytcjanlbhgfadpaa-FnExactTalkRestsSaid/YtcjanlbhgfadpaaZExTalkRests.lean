/- The law FnExactTalkRests holds: for every talk (and every struct of these fields that is none) the program's TalkRests answers as the model's, leaves the argument as it was, and its answer owns its memory. No condition. -/
import Derived.Test.YtcjanlbhgfadpaaQ11
namespace Go.Proofs.Ytcjanlbhgfadpaa
open Go.ChangeShapes Go.WideShapes Go.ChangeAt Go.RowKit Go.Deep

set_option maxRecDepth 100000 in
set_option maxHeartbeats 3200000 in
theorem exTalkRests_calls (A1 A2 A3 A4 : Option Addr) (n1 c1 n2 c2 n3 c3 n4 c4 : Nat) (xs : List Int) (ss hs ks : List (List Int)) (w : World) (h : TkR w A1 A2 A3 A4 n1 c1 n2 c2 n3 c3 n4 c4 xs ss hs ks) :
    Calls Try.prog 11 #[.agg #[.slice A1 n1 c1, .slice A2 n2 c2, .slice A3 n3 c3, .slice A4 n4 c4]] w fun e w' => e = .returned (.bool true) ∧ Below w.heap.size w w' := by
  have X := Lib.hid (TLX.start 40 h)
  have Z0 := Lib.hid (below_alloc w (.cells #[.slice A1 n1 c1, .slice A2 n2 c2, .slice A3 n3 c3, .slice A4 n4 c4] 40))
  have hmx := h.r1.max
  have HL2 := h.r2.len
  have HL3 := h.r3.len
  have HL4 := h.r4.len
  clear h
  by_cases hsz : szT 1048576 n1 ss hs ks < 0
  · have HC := Lib.hid (szTalk_any A1 A2 A3 A4 n1 c1 n2 c2 n3 c3 n4 c4 xs ss hs ks 1048576 _ X.out.r (by omega) (by omega))
    have q0 := X.out.c0
    have q1 := X.out.c1
    have q2 := X.out.c2
    have q3 := X.out.c3
    clear HL2 HL3 HL4
    go_enter Try.func11, Try.ntmps11
    go_wp2_with fail
    refine HC.out.mono ?_
    rintro e w1 ⟨rfl, hb⟩
    clear q0 q1 q2 q3
    go_wp2
    go_ret
    exact ⟨rfl, below_up Z0.out hb⟩
  have hoff := szT_offs hsz (by omega) (by omega)
  rw [HL2, HL3, HL4] at hoff
  have HOF := Lib.hid hoff
  have p2 := offs_ge ss n2
  have p3 := offs_ge hs n3
  have p4 := offs_ge ks n4
  have HP := Lib.hid (And.intro p2 (And.intro p3 p4))
  clear HL2 HL3 HL4 hoff p2 p3 p4
  have q0 := X.out.c0
  have q1 := X.out.c1
  have q2 := X.out.c2
  have q3 := X.out.c3
  go_enter Try.func11, Try.ntmps11
  have HC := Lib.hid (szTalk_any A1 A2 A3 A4 n1 c1 n2 c2 n3 c3 n4 c4 xs ss hs ks 1048576 _ X.out.r (by omega) (by omega))
  go_wp2_with fail
  generalize w.alloc (.cells #[.slice A1 n1 c1, .slice A2 n2 c2, .slice A3 n3 c3, .slice A4 n4 c4] 40) = W0 at *
  refine HC.out.mono ?_
  rintro e w1 ⟨rfl, hb⟩
  clear q0 q1 q2 q3 HC
  have HE := Lib.hid (show eqRR (trF xs ss hs ks) (trF xs ss hs ks) = true by simp [eqRR])
  have hof : offs (trF xs ss hs ks) (trF xs ss hs ks).length ≤ 1000000 := trF_offs xs ss hs ks
  have hof0 : 0 ≤ offs (trF xs ss hs ks) (trF xs ss hs ks).length := offs_ge _ _
  have X_1 := Lib.hid (X.out.up hb)
  have Z_1 := Lib.hid (below_up Z0.out hb)
  clear hb X Z0
  have q0 := X_1.out.c0
  have q1 := X_1.out.c1
  have q2 := X_1.out.c2
  have q3 := X_1.out.c3
  have HC := Lib.hid (toTalk_any A1 A2 A3 A4 n1 c1 n2 c2 n3 c3 n4 c4 xs ss hs ks w1 X_1.out.r)
  go_wp2_with fail
  refine HC.out.mono ?_
  rintro e w2 ⟨g1, g2, g3, g4, rfl, hown, hb⟩
  have X_2 := Lib.hid (X_1.out.up hb)
  have Z_2 := Lib.hid (below_up Z_1.out hb)
  have S := Lib.hid hown.r
  clear hown
  clear q0 q1 q2 q3
  clear hb HC X_1 Z_1
  have HC := Lib.hid (TalkRests_spec _ _ _ _ _ _ _ _ _ _ _ _ xs ss hs ks w2 S.out)
  go_wp2_with fail
  refine HC.out.mono ?_
  rintro e w3 ⟨As, ns, cs, gs, rfl, hns, hos, hb⟩
  have X_3 := Lib.hid (X_2.out.up hb)
  have S_3 := Lib.hid (S.out.keep (Keep.below hb))
  have Z_3 := Lib.hid (below_up Z_2.out hb)
  subst hns
  have T := Lib.hid hos.rows
  clear hos
  clear hb HC X_2 S Z_2
  clear S_3
  have BB := Lib.hid Z_3.out
  have ZB := Lib.hid (Below.refl w3.heap.size w3)
  have XB := Lib.hid X_3.out
  have TB_ := Lib.hid T.out
  clear Z_3
  clear X_3
  clear T
  have q0 := (XB.out.up ZB.out).c0
  have q1 := (XB.out.up ZB.out).c1
  have q2 := (XB.out.up ZB.out).c2
  have q3 := (XB.out.up ZB.out).c3
  have HC := Lib.hid (toTalk_any A1 A2 A3 A4 n1 c1 n2 c2 n3 c3 n4 c4 xs ss hs ks w3 (XB.out.up ZB.out).r)
  go_wp2_with fail
  refine HC.out.mono ?_
  rintro e w4 ⟨g1, g2, g3, g4, rfl, hown, hb⟩
  have Z_4 := Lib.hid (below_up ZB.out hb)
  have HO := Lib.hid hown
  have GL := Lib.hid hb.size
  clear hown
  clear q0 q1 q2 q3
  clear hb HC ZB
  have G := Lib.hid (TLO.start HO.out (Nat.le_refl _))
  have GZ := Lib.hid (show w4.heap.size < (w4.alloc (.cells #[.slice (some ⟨g1, 0, none⟩) n1 n1, .slice (some ⟨g2, 0, none⟩) n2 n2, .slice (some ⟨g3, 0, none⟩) n3 n3, .slice (some ⟨g4, 0, none⟩) n4 n4] 26)).heap.size by simp)
  clear HO
  have hal := below_alloc w4 (.cells #[.slice (some ⟨g1, 0, none⟩) n1 n1, .slice (some ⟨g2, 0, none⟩) n2 n2, .slice (some ⟨g3, 0, none⟩) n3 n3, .slice (some ⟨g4, 0, none⟩) n4 n4] 26)
  have Z_4b := Lib.hid (below_up Z_4.out hal)
  clear hal Z_4
  have q0 := G.out.tx.c0
  have q1 := G.out.tx.c1
  have q2 := G.out.tx.c2
  have q3 := G.out.tx.c3
  have HC := Lib.hid (TalkRests_impl _ _ _ _ _ _ _ _ _ _ _ _ xs ss hs ks (w4.alloc (.cells #[.slice (some ⟨g1, 0, none⟩) n1 n1, .slice (some ⟨g2, 0, none⟩) n2 n2, .slice (some ⟨g3, 0, none⟩) n3 n3, .slice (some ⟨g4, 0, none⟩) n4 n4] 26)) G.out.tx.r)
  go_wp2_with fail
  generalize w4.alloc (.cells #[.slice (some ⟨g1, 0, none⟩) n1 n1, .slice (some ⟨g2, 0, none⟩) n2 n2, .slice (some ⟨g3, 0, none⟩) n3 n3, .slice (some ⟨g4, 0, none⟩) n4 n4] 26) = w4a at *
  generalize w4.heap.size = h4a at *
  refine HC.out.mono ?_
  rintro e w5 ⟨Ag, ng, cg, gg, rfl, hng, hog, hb⟩
  have G_5 := Lib.hid (G.out.up hb)
  have Z_5 := Lib.hid (below_up Z_4b.out hb)
  subst hng
  have P := Lib.hid hog
  have HGG := Lib.hid True.intro
  clear hog
  clear q0 q1 q2 q3
  clear hb HC G Z_4b
  have HC := Lib.hid (HE.out ▸ eqIntSS_any _ _ _ _ _ _ (trF xs ss hs ks) (trF xs ss hs ks) w5 P.out.rows (TB_.out.keep (Keep.below Z_5.out)))
  go_wp2_with fail
  refine HC.out.mono ?_
  rintro e w6 ⟨rfl, hq⟩
  have hb := hq.below (B := w5.heap.size)
  have G_6 := Lib.hid (G_5.out.up hb)
  have P_6 := Lib.hid (P.out.below hb)
  have Z_6 := Lib.hid (below_up Z_5.out hb)
  clear hb HC hq G_5 P Z_5
  have a0 := (XB.out.up Z_6.out).c0
  have a1 := (XB.out.up Z_6.out).c1
  have a2 := (XB.out.up Z_6.out).c2
  have a3 := (XB.out.up Z_6.out).c3
  have x0 := G_6.out.tx.c0
  have x1 := G_6.out.tx.c1
  have x2 := G_6.out.tx.c2
  have x3 := G_6.out.tx.c3
  go_wp2_with fail
  have Hd9 := Lib.hid (show TLX w6.drew w.heap.size 40 A1 A2 A3 A4 n1 c1 n2 c2 n3 c3 n4 c4 xs ss hs ks from (XB.out.up Z_6.out).up ((Below.refl _ _).drew))
  have Gd9 := Lib.hid (G_6.out.up ((Below.refl _ _).drew))
  have Zd9 := Lib.hid (below_up Z_6.out ((Below.refl _ _).drew))
  have Pd9 := Lib.hid (P_6.out.below ((Below.refl _ _).drew))
  clear Z_6 G_6 P_6
  go_region_with (first
    | (go_at_call 34; refine (toTalk_any A1 A2 A3 A4 n1 c1 n2 c2 n3 c3 n4 c4 xs ss hs ks _ ?_).mono ?_; exact Hd9.out.r; rintro e w88 ⟨e1, e2, e3, e4, rfl, hown, hb⟩; have Ze9 := Lib.hid (below_up Zd9.out hb); have Ge9 := Lib.hid (Gd9.out.up hb); have Ce9 := Lib.hid hown.r; have Pe9 := Lib.hid (Pd9.out.below hb); have x0 := Ge9.out.tx.c0; have x1 := Ge9.out.tx.c1; have x2 := Ge9.out.tx.c2; have x3 := Ge9.out.tx.c3; clear hb hown Hd9 Gd9 Zd9 Pd9)
    | (go_at_call 35; refine (eqTalk_same _ _ _ _ _ _ _ _ _ _ _ _ xs ss hs ks _ _ _ _ _ _ _ _ _ _ _ _ _ ?_ ?_).mono ?_; exact Ge9.out.tx.r; exact Ce9.out; rintro e w89 ⟨rfl, hb⟩; have Zf9 := Lib.hid (below_up Ze9.out hb); have Gf9 := Lib.hid (Ge9.out.up hb); have Pf9 := Lib.hid (Pe9.out.below hb); clear hb Ge9 Ce9 Ze9 Pe9))
  all_goals
    try clear a0 a1 a2 a3
    try clear x0 x1 x2 x3
    have q0 := Gf9.out.tx.c0
    have q1 := Gf9.out.tx.c1
    have q2 := Gf9.out.tx.c2
    have q3 := Gf9.out.tx.c3
    have HC := Lib.hid (markTalk_any _ _ _ _ _ _ _ n1 n2 n3 n4 xs ss hs ks 1 w89 Gf9.out (by omega) (by omega) HOF.out.1 HOF.out.2.1 HOF.out.2.2.1 HOF.out.2.2.2)
    go_wp2_with fail
    clear q0 q1 q2 q3
    refine HC.out.mono ?_
    rintro e w91 ⟨rfl, w90, hb, hT⟩
    have P91 := Lib.hid ((Pf9.out.below hb).touch hT (.inr (by have := HGG.out; have := GZ.out; omega)))
    have Z91 := Lib.hid (Touch.below (below_up Zf9.out hb) hT (Nat.le_refl _))
    clear hb hT HC Pf9 Gf9 Zf9
    have hkk : ¬ (1 + (n1 : Int) + offs ss n2 + offs hs n3 + offs ks n4 < 0) := by have := HP.out; omega
    have HC := Lib.hid (HE.out ▸ eqIntSS_any _ _ _ _ _ _ (trF xs ss hs ks) (trF xs ss hs ks) w91 P91.out.rows (TB_.out.keep (Keep.below Z91.out)))
    go_wp2_with fail
    refine HC.out.mono ?_
    rintro e w92 ⟨rfl, hq⟩
    have hb := hq.below (B := w91.heap.size)
    have P_92 := Lib.hid (P91.out.below hb)
    have Z_92 := Lib.hid (below_up Z91.out hb)
    clear hb HC hq P91 Z91
    have HC := Lib.hid (markIntSS_any _ _ _ _ _ _ (trF xs ss hs ks) 1 w92 P_92.out (by omega) (by omega))
    go_wp2_with fail
    refine HC.out.mono ?_
    rintro e w93 ⟨rfl, ho, hm⟩
    have P_93 := Lib.hid ho
    have Z_93 := Lib.hid (Touch.below Z_92.out hm (by have := HGG.out; have := GZ.out; have := GL.out; omega))
    clear HC ho hm Z_92 P_92
    have HC := Lib.hid (heldIntSS_any _ _ _ (trF xs ss hs ks) 1 w93 P_93.out.rows (by omega) (by omega))
    go_wp2_with fail
    refine HC.out.mono ?_
    rintro e w94 ⟨rfl, hq⟩
    have hb := hq.below (B := w93.heap.size)
    have P_94 := Lib.hid (P_93.out.below hb)
    have Z_94 := Lib.hid (below_up Z_93.out hb)
    clear hb HC hq P_93 Z_93
    have hp : ¬ (1 + offs (trF xs ss hs ks) (trF xs ss hs ks).length < 0) := by omega
    have q0 := (XB.out.up Z_94.out).c0
    have q1 := (XB.out.up Z_94.out).c1
    have q2 := (XB.out.up Z_94.out).c2
    have q3 := (XB.out.up Z_94.out).c3
    have HC := Lib.hid (toTalk_any A1 A2 A3 A4 n1 c1 n2 c2 n3 c3 n4 c4 xs ss hs ks w94 (XB.out.up Z_94.out).r)
    go_wp2_with fail
    refine HC.out.mono ?_
    rintro e w95 ⟨f1, f2, f3, f4, rfl, hown, hb⟩
    have P_95 := Lib.hid (P_94.out.below hb)
    have Z_95 := Lib.hid (below_up Z_94.out hb)
    have H := Lib.hid hown.r
    clear hown hp
    clear q0 q1 q2 q3
    clear hb HC P_94 Z_94
    have HC := Lib.hid (TalkRests_impl _ _ _ _ _ _ _ _ _ _ _ _ xs ss hs ks w95 H.out)
    go_wp2_with fail
    refine HC.out.mono ?_
    rintro e w96 ⟨Ah, nh, ch, gh, rfl, hnh, hoh, hb⟩
    have P_96 := Lib.hid (P_95.out.below hb)
    have H_96 := Lib.hid (H.out.keep (Keep.below hb))
    have Z_96 := Lib.hid (below_up Z_95.out hb)
    subst hnh
    have Q := Lib.hid hoh.rows
    clear hoh
    clear hb HC P_95 H Z_95
    clear H_96
    have HC := Lib.hid (HE.out ▸ eqIntSS_any _ _ _ _ _ _ (trF xs ss hs ks) (trF xs ss hs ks) w96 Q.out (TB_.out.keep (Keep.below Z_96.out)))
    go_wp2_with fail
    refine HC.out.mono ?_
    rintro e w97 ⟨rfl, hq⟩
    have hb := hq.below (B := w96.heap.size)
    have P_97 := Lib.hid (P_96.out.below hb)
    have Q_97 := Lib.hid (Q.out.keep (Keep.below hb))
    have Z_97 := Lib.hid (below_up Z_96.out hb)
    clear hb HC hq P_96 Q Z_96
    clear Q_97
    have HC := Lib.hid (heldIntSS_any _ _ _ (trF xs ss hs ks) 1 w97 P_97.out.rows (by omega) (by omega))
    go_wp2_with fail
    refine HC.out.mono ?_
    rintro e w98 ⟨rfl, hq⟩
    have hb := hq.below (B := w97.heap.size)
    have P_98 := Lib.hid (P_97.out.below hb)
    have Z_98 := Lib.hid (below_up Z_97.out hb)
    clear hb HC hq P_97 Z_97
    have hp : ¬ (1 + offs (trF xs ss hs ks) (trF xs ss hs ks).length < 0) := by omega
    go_wp2
    go_ret
    exact ⟨rfl, below_up BB.out Z_98.out⟩


set_option maxRecDepth 100000 in
theorem hFnExactTalkRests_lifted (os : Os) (started : os.Started) (H : Type) (enc : TypeId × Value → H) :
    ReturnsInHanded {} Try.checked os 11 .any (Rows.fnExactTalkRestsSpec.pre6 enc Try.prog Try.f11 Rows.fnExactTalkRestsRow.domain false) (Rows.fnExactTalkRestsSpec.post enc Try.prog Try.f11 false true false false) := by
  refine returnsInHanded_of_change_sized (C := Try.checked) Try.own started (by kernel_rfl) Try.func11
    (ChangeSpec.witness6 (enc := enc) (C := Try.checked) false ⟨#[], #[.agg #[.slice none 0 0, .slice none 0 0, .slice none 0 0, .slice none 0 0]], []⟩ 8 (by kernel_rfl) (by kernel_rfl) (by kernel_rfl) (by kernel_rfl)) ?_
  intro W base args ds gs before hval0 hW _ hwt _
  have hval : ∀ (j : Nat) t v, Try.f11.params[j]? = some t → args[j]? = some v → Value.okWide Try.prog W .any base t v := hval0
  have hA : ∃ p, DataW.TrodAll enc Try.prog W 0 (fun _ => true) true Try.f11.params.toList args.toList ds p := by obtain ⟨p, q, hA0, _⟩ := hW; exact ⟨p, hA0⟩
  obtain ⟨p, hA⟩ := hA
  have hwt0 := weights_arg hwt (j := 0) (t := 40) (by rw [Try.params11]; rfl) (d := ds.getD 0 .nil)
  rw [Try.params11] at hA hval
  obtain ⟨v0, d0, rfl, rfl, h0⟩ := trodAll_one hA
  obtain ⟨A1, n1, c1, xs, A2, n2, c2, ss, A3, n3, c3, hs, A4, n4, c4, ks, rfl, hx0⟩ := open_talk (hval 0 40 v0 rfl rfl) h0 (hwt0 rfl)
  refine (exTalkRests_calls A1 A2 A3 A4 n1 c1 n2 c2 n3 c3 n4 c4 xs ss hs ks W hx0).mono fun e W' ⟨he, hb⟩ => ?_
  subst he
  exact ⟨_, rfl, law_post (F := Try.f11) rfl rfl (by rw [Try.params11]; intro t ht; simp only [List.mem_cons, List.not_mem_nil, or_false] at ht; rcases ht with rfl <;> exact ⟨by kernel_rfl, of_decide_eq_true (by kernel_rfl)⟩) hW (fun h => by subst h; rfl) hb⟩

theorem hFnExactTalkRests_holds : Rows.FnExactTalkRestsSaid :=
  OpenClaim.holds_of_wide 11 Try.f11 rfl rfl rfl rfl rfl rfl rfl ⟨rfl, rfl, rfl, rfl, rfl⟩ rfl rfl rfl rfl rfl (by kernel_rfl) Try.func11
    (by unfold joinedFacts; simp only [Bool.and_eq_true]; (repeat' apply And.intro) <;> (first | (with_reducible exact prog_enters) | ((with_reducible refine prog_lifts ?_); rfl) | ((with_reducible refine prog_make ?_); rfl) | kernel_rfl))
    (of_decide_eq_true (by kernel_rfl)) (by unfold Func.isWrapper; first | (rw [if_pos (by decide +kernel)]; kernel_rfl) | (rw [if_neg (by decide +kernel)]; exact ⟨rfl, rfl⟩))
    (fun os started H enc _ => hFnExactTalkRests_lifted os started H enc)

end Go.Proofs.Ytcjanlbhgfadpaa
