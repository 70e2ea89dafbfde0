/- The law FnExactTells holds: for every talk (and every struct of these fields that is none) the program's Tells answers as the model's, and leaves the argument as it was. No condition. -/
import Derived.Test.YtcjanlbhgfadpaaQ11
namespace Go.Proofs.Ytcjanlbhgfadpaa
open Go.ChangeShapes Go.WideShapes Go.ChangeAt Go.RowKit Go.Deep

set_option maxRecDepth 100000 in
set_option maxHeartbeats 3200000 in
theorem exTells_calls (A1 A2 A3 A4 : Option Addr) (n1 c1 n2 c2 n3 c3 n4 c4 : Nat) (xs : List Int) (ss hs ks : List (List Int)) (w : World) (h : TkR w A1 A2 A3 A4 n1 c1 n2 c2 n3 c3 n4 c4 xs ss hs ks) :
    Calls Try.prog 12 #[.agg #[.slice A1 n1 c1, .slice A2 n2 c2, .slice A3 n3 c3, .slice A4 n4 c4]] w fun e w' => e = .returned (.bool true) ∧ Below w.heap.size w w' := by
  have X := Lib.hid (TLX.start 40 h)
  have Z0 := Lib.hid (below_alloc w (.cells #[.slice A1 n1 c1, .slice A2 n2 c2, .slice A3 n3 c3, .slice A4 n4 c4] 40))
  have hmx := h.r1.max
  have HL2 := h.r2.len
  have HL3 := h.r3.len
  have HL4 := h.r4.len
  clear h
  by_cases hsz : szT 1048576 n1 ss hs ks < 0
  · have HC := Lib.hid (szTalk_any A1 A2 A3 A4 n1 c1 n2 c2 n3 c3 n4 c4 xs ss hs ks 1048576 _ X.out.r (by omega) (by omega))
    have q0 := X.out.c0
    have q1 := X.out.c1
    have q2 := X.out.c2
    have q3 := X.out.c3
    clear HL2 HL3 HL4
    go_enter Try.func12, Try.ntmps12
    go_wp2_with fail
    refine HC.out.mono ?_
    rintro e w1 ⟨rfl, hb⟩
    clear q0 q1 q2 q3
    go_wp2
    go_ret
    exact ⟨rfl, below_up Z0.out hb⟩
  have hoff := szT_offs hsz (by omega) (by omega)
  rw [HL2, HL3, HL4] at hoff
  have HOF := Lib.hid hoff
  have p2 := offs_ge ss n2
  have p3 := offs_ge hs n3
  have p4 := offs_ge ks n4
  have HP := Lib.hid (And.intro p2 (And.intro p3 p4))
  clear HL2 HL3 HL4 hoff p2 p3 p4
  have q0 := X.out.c0
  have q1 := X.out.c1
  have q2 := X.out.c2
  have q3 := X.out.c3
  go_enter Try.func12, Try.ntmps12
  have HC := Lib.hid (szTalk_any A1 A2 A3 A4 n1 c1 n2 c2 n3 c3 n4 c4 xs ss hs ks 1048576 _ X.out.r (by omega) (by omega))
  go_wp2_with fail
  generalize w.alloc (.cells #[.slice A1 n1 c1, .slice A2 n2 c2, .slice A3 n3 c3, .slice A4 n4 c4] 40) = W0 at *
  refine HC.out.mono ?_
  rintro e w1 ⟨rfl, hb⟩
  clear q0 q1 q2 q3 HC
  have X_1 := Lib.hid (X.out.up hb)
  have Z_1 := Lib.hid (below_up Z0.out hb)
  clear hb X Z0
  have q0 := X_1.out.c0
  have q1 := X_1.out.c1
  have q2 := X_1.out.c2
  have q3 := X_1.out.c3
  have HC := Lib.hid (toTalk_any A1 A2 A3 A4 n1 c1 n2 c2 n3 c3 n4 c4 xs ss hs ks w1 X_1.out.r)
  go_wp2_with fail
  refine HC.out.mono ?_
  rintro e w2 ⟨g1, g2, g3, g4, rfl, hown, hb⟩
  have X_2 := Lib.hid (X_1.out.up hb)
  have Z_2 := Lib.hid (below_up Z_1.out hb)
  have S := Lib.hid hown.r
  clear hown
  clear q0 q1 q2 q3
  clear hb HC X_1 Z_1
  have HC := Lib.hid (Tells_spec _ _ _ _ _ _ _ _ _ _ _ _ xs ss hs ks w2 S.out)
  go_wp2_with fail
  refine HC.out.mono ?_
  rintro e w3 ⟨rfl, hb⟩
  have X_3 := Lib.hid (X_2.out.up hb)
  have S_3 := Lib.hid (S.out.keep (Keep.below hb))
  have Z_3 := Lib.hid (below_up Z_2.out hb)
  clear hb HC X_2 S Z_2
  clear S_3
  have BB := Lib.hid Z_3.out
  have ZB := Lib.hid (Below.refl w3.heap.size w3)
  have XB := Lib.hid X_3.out
  skip
  clear Z_3
  clear X_3
  have q0 := (XB.out.up ZB.out).c0
  have q1 := (XB.out.up ZB.out).c1
  have q2 := (XB.out.up ZB.out).c2
  have q3 := (XB.out.up ZB.out).c3
  have HC := Lib.hid (toTalk_any A1 A2 A3 A4 n1 c1 n2 c2 n3 c3 n4 c4 xs ss hs ks w3 (XB.out.up ZB.out).r)
  go_wp2_with fail
  refine HC.out.mono ?_
  rintro e w4 ⟨g1, g2, g3, g4, rfl, hown, hb⟩
  have Z_4 := Lib.hid (below_up ZB.out hb)
  have HO := Lib.hid hown
  have GL := Lib.hid hb.size
  clear hown
  clear q0 q1 q2 q3
  clear hb HC ZB
  have G := Lib.hid (TLO.start HO.out (Nat.le_refl _))
  have GZ := Lib.hid (show w4.heap.size < (w4.alloc (.cells #[.slice (some ⟨g1, 0, none⟩) n1 n1, .slice (some ⟨g2, 0, none⟩) n2 n2, .slice (some ⟨g3, 0, none⟩) n3 n3, .slice (some ⟨g4, 0, none⟩) n4 n4] 26)).heap.size by simp)
  clear HO
  have hal := below_alloc w4 (.cells #[.slice (some ⟨g1, 0, none⟩) n1 n1, .slice (some ⟨g2, 0, none⟩) n2 n2, .slice (some ⟨g3, 0, none⟩) n3 n3, .slice (some ⟨g4, 0, none⟩) n4 n4] 26)
  have Z_4b := Lib.hid (below_up Z_4.out hal)
  clear hal Z_4
  have q0 := G.out.tx.c0
  have q1 := G.out.tx.c1
  have q2 := G.out.tx.c2
  have q3 := G.out.tx.c3
  have HC := Lib.hid (Tells_impl _ _ _ _ _ _ _ _ _ _ _ _ xs ss hs ks (w4.alloc (.cells #[.slice (some ⟨g1, 0, none⟩) n1 n1, .slice (some ⟨g2, 0, none⟩) n2 n2, .slice (some ⟨g3, 0, none⟩) n3 n3, .slice (some ⟨g4, 0, none⟩) n4 n4] 26)) G.out.tx.r)
  go_wp2_with fail
  generalize w4.alloc (.cells #[.slice (some ⟨g1, 0, none⟩) n1 n1, .slice (some ⟨g2, 0, none⟩) n2 n2, .slice (some ⟨g3, 0, none⟩) n3 n3, .slice (some ⟨g4, 0, none⟩) n4 n4] 26) = w4a at *
  generalize w4.heap.size = h4a at *
  refine HC.out.mono ?_
  rintro e w5 ⟨rfl, hb⟩
  have G_5 := Lib.hid (G.out.up hb)
  have Z_5 := Lib.hid (below_up Z_4b.out hb)
  clear q0 q1 q2 q3
  clear hb HC G Z_4b
  have a0 := (XB.out.up Z_5.out).c0
  have a1 := (XB.out.up Z_5.out).c1
  have a2 := (XB.out.up Z_5.out).c2
  have a3 := (XB.out.up Z_5.out).c3
  have x0 := G_5.out.tx.c0
  have x1 := G_5.out.tx.c1
  have x2 := G_5.out.tx.c2
  have x3 := G_5.out.tx.c3
  go_wp2_with fail
  have Hd9 := Lib.hid (show TLX w5.drew w.heap.size 40 A1 A2 A3 A4 n1 c1 n2 c2 n3 c3 n4 c4 xs ss hs ks from (XB.out.up Z_5.out).up ((Below.refl _ _).drew))
  have Gd9 := Lib.hid (G_5.out.up ((Below.refl _ _).drew))
  have Zd9 := Lib.hid (below_up Z_5.out ((Below.refl _ _).drew))
  clear Z_5 G_5
  go_region_with (first
    | (go_at_call 34; refine (toTalk_any A1 A2 A3 A4 n1 c1 n2 c2 n3 c3 n4 c4 xs ss hs ks _ ?_).mono ?_; exact Hd9.out.r; rintro e w88 ⟨e1, e2, e3, e4, rfl, hown, hb⟩; have Ze9 := Lib.hid (below_up Zd9.out hb); have Ge9 := Lib.hid (Gd9.out.up hb); have Ce9 := Lib.hid hown.r; have x0 := Ge9.out.tx.c0; have x1 := Ge9.out.tx.c1; have x2 := Ge9.out.tx.c2; have x3 := Ge9.out.tx.c3; clear hb hown Hd9 Gd9 Zd9)
    | (go_at_call 35; refine (eqTalk_same _ _ _ _ _ _ _ _ _ _ _ _ xs ss hs ks _ _ _ _ _ _ _ _ _ _ _ _ _ ?_ ?_).mono ?_; exact Ge9.out.tx.r; exact Ce9.out; rintro e w89 ⟨rfl, hb⟩; have Zf9 := Lib.hid (below_up Ze9.out hb); have Gf9 := Lib.hid (Ge9.out.up hb); clear hb Ge9 Ce9 Ze9))
  all_goals
    go_wp2
    go_ret
    exact ⟨rfl, below_up BB.out Zf9.out⟩


set_option maxRecDepth 100000 in
theorem hFnExactTells_lifted (os : Os) (started : os.Started) (H : Type) (enc : TypeId × Value → H) :
    ReturnsInHanded {} Try.checked os 12 .any (Rows.fnExactTellsSpec.pre6 enc Try.prog Try.f12 Rows.fnExactTellsRow.domain false) (Rows.fnExactTellsSpec.post enc Try.prog Try.f12 false true false false) := by
  refine returnsInHanded_of_change_sized (C := Try.checked) Try.own started (by kernel_rfl) Try.func12
    (ChangeSpec.witness6 (enc := enc) (C := Try.checked) false ⟨#[], #[.agg #[.slice none 0 0, .slice none 0 0, .slice none 0 0, .slice none 0 0]], []⟩ 8 (by kernel_rfl) (by kernel_rfl) (by kernel_rfl) (by kernel_rfl)) ?_
  intro W base args ds gs before hval0 hW _ hwt _
  have hval : ∀ (j : Nat) t v, Try.f12.params[j]? = some t → args[j]? = some v → Value.okWide Try.prog W .any base t v := hval0
  have hA : ∃ p, DataW.TrodAll enc Try.prog W 0 (fun _ => true) true Try.f12.params.toList args.toList ds p := by obtain ⟨p, q, hA0, _⟩ := hW; exact ⟨p, hA0⟩
  obtain ⟨p, hA⟩ := hA
  have hwt0 := weights_arg hwt (j := 0) (t := 40) (by rw [Try.params12]; rfl) (d := ds.getD 0 .nil)
  rw [Try.params12] at hA hval
  obtain ⟨v0, d0, rfl, rfl, h0⟩ := trodAll_one hA
  obtain ⟨A1, n1, c1, xs, A2, n2, c2, ss, A3, n3, c3, hs, A4, n4, c4, ks, rfl, hx0⟩ := open_talk (hval 0 40 v0 rfl rfl) h0 (hwt0 rfl)
  refine (exTells_calls A1 A2 A3 A4 n1 c1 n2 c2 n3 c3 n4 c4 xs ss hs ks W hx0).mono fun e W' ⟨he, hb⟩ => ?_
  subst he
  exact ⟨_, rfl, law_post (F := Try.f12) rfl rfl (by rw [Try.params12]; intro t ht; simp only [List.mem_cons, List.not_mem_nil, or_false] at ht; rcases ht with rfl <;> exact ⟨by kernel_rfl, of_decide_eq_true (by kernel_rfl)⟩) hW (fun h => by subst h; rfl) hb⟩

theorem hFnExactTells_holds : Rows.FnExactTellsSaid :=
  OpenClaim.holds_of_wide 12 Try.f12 rfl rfl rfl rfl rfl rfl rfl ⟨rfl, rfl, rfl, rfl, rfl⟩ rfl rfl rfl rfl rfl (by kernel_rfl) Try.func12
    (by unfold joinedFacts; simp only [Bool.and_eq_true]; (repeat' apply And.intro) <;> (first | (with_reducible exact prog_enters) | ((with_reducible refine prog_lifts ?_); rfl) | ((with_reducible refine prog_make ?_); rfl) | kernel_rfl))
    (of_decide_eq_true (by kernel_rfl)) (by unfold Func.isWrapper; first | (rw [if_pos (by decide +kernel)]; kernel_rfl) | (rw [if_neg (by decide +kernel)]; exact ⟨rfl, rfl⟩))
    (fun os started H enc _ => hFnExactTells_lifted os started H enc)

end Go.Proofs.Ytcjanlbhgfadpaa
