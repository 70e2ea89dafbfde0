/- The law FnTells holds: for all bytes Tells holds exactly if one of TalkRests has types that say different things, behind which different acts come, and the program's Tells answers as the model's. No condition. -/
import Derived.Test.YtcjanlbhgfadpaaQ12
namespace Go.Proofs.Ytcjanlbhgfadpaa
open Go.ChangeShapes Go.WideShapes Go.ChangeAt Go.RowKit Go.Deep

set_option maxRecDepth 100000 in
set_option maxHeartbeats 3200000 in
theorem fnTells_calls (A : Option Addr) (n c : Nat) (w : World) (hx : Bytes w A n c) :
    Calls Try.prog 6 #[.slice A n c] w fun e w' => e = .returned (.bool true) ∧ Below w.heap.size w w' := by
  have hmx := hx.max
  have H0 := Lib.hid (DrawTells_any A n c w hx)
  clear hx
  by_cases hs : 1048576 < n
  · go_enter Try.func6, Try.ntmps6
    go_wp2
    go_ret
    exact ⟨rfl, Below.refl _ _⟩
  · go_enter Try.func6, Try.ntmps6
    go_wp2_with fail
    refine H0.out.mono ?_
    rintro e w1 ⟨A1, c1, A2, c2, A3, c3, A4, c4, xs, ss, hs, ks, rfl, h, hb⟩
    clear H0
    have hal := below_alloc w1 (.cells #[.slice A1 2 c1, .slice A2 2 c2, .slice A3 2 c3, .slice A4 2 c4] 26)
    have Z := Lib.hid hal
    have K := Lib.hid (blk_new w1 26 #[.slice A1 2 c1, .slice A2 2 c2, .slice A3 2 c3, .slice A4 2 c4])
    have H0 := Lib.hid h
    have BB := Lib.hid hb
    clear hal h hb
    by_cases v : VTk xs ss hs ks
    rotate_left
    · skip
      have nt := pb_false (p := telOk xs ss hs ks) (fun h => v h.1)
      have q0 := blk_cell K.out (i := 0) rfl
      have q1 := blk_cell K.out (i := 1) rfl
      have q2 := blk_cell K.out (i := 2) rfl
      have q3 := blk_cell K.out (i := 3) rfl
      have HC := Lib.hid (nt ▸ Tells_impl _ _ _ _ _ _ _ _ _ _ _ _ xs ss hs ks (w1.alloc (.cells #[.slice A1 2 c1, .slice A2 2 c2, .slice A3 2 c3, .slice A4 2 c4] 26)) (H0.out.keep (Keep.below Z.out)))
      go_wp2_with fail
      clear q0 q1 q2 q3
      generalize w1.alloc (.cells #[.slice A1 2 c1, .slice A2 2 c2, .slice A3 2 c3, .slice A4 2 c4] 26) = w1a at *
      refine HC.out.mono ?_
      rintro e w2 ⟨rfl, hb⟩
      have Z_2 := Lib.hid (below_up Z.out hb)
      have K_2 := Lib.hid (blk_below K.out hb)
      clear hb HC  Z K
      have q0 := blk_cell K_2.out (i := 0) rfl
      have q1 := blk_cell K_2.out (i := 1) rfl
      have q2 := blk_cell K_2.out (i := 2) rfl
      have q3 := blk_cell K_2.out (i := 3) rfl
      have HC := Lib.hid (nt ▸ Tells_spec _ _ _ _ _ _ _ _ _ _ _ _ xs ss hs ks w2 (H0.out.keep (Keep.below Z_2.out)))
      go_wp2_with fail
      clear q0 q1 q2 q3
      refine HC.out.mono ?_
      rintro e w3 ⟨rfl, hb⟩
      have Z_3 := Lib.hid (below_up Z_2.out hb)
      have K_3 := Lib.hid (blk_below K_2.out hb)
      clear hb HC  Z_2 K_2
      have q0 := blk_cell K_3.out (i := 0) rfl
      have q1 := blk_cell K_3.out (i := 1) rfl
      have q2 := blk_cell K_3.out (i := 2) rfl
      have q3 := blk_cell K_3.out (i := 3) rfl
      have HC := Lib.hid (pb_false v ▸ ValidTalk_impl _ _ _ _ _ _ _ _ _ _ _ _ xs ss hs ks w3 (H0.out.keep (Keep.below Z_3.out)))
      go_wp2_with fail
      clear q0 q1 q2 q3
      refine HC.out.mono ?_
      rintro e w4 ⟨rfl, hb⟩
      have Z_4 := Lib.hid (below_up Z_3.out hb)
      have K_4 := Lib.hid (blk_below K_3.out hb)
      clear hb HC  Z_3 K_3
      have q0 := blk_cell K_4.out (i := 0) rfl
      have q1 := blk_cell K_4.out (i := 1) rfl
      have q2 := blk_cell K_4.out (i := 2) rfl
      have q3 := blk_cell K_4.out (i := 3) rfl
      have HC := Lib.hid (nt ▸ Tells_spec _ _ _ _ _ _ _ _ _ _ _ _ xs ss hs ks w4 (H0.out.keep (Keep.below Z_4.out)))
      go_wp2_with fail
      clear q0 q1 q2 q3
      refine HC.out.mono ?_
      rintro e w5 ⟨rfl, hb⟩
      have Z_5 := Lib.hid (below_up Z_4.out hb)
      have K_5 := Lib.hid (blk_below K_4.out hb)
      clear hb HC  Z_4 K_4
      go_wp2
      go_ret
      exact ⟨rfl, below_up BB.out Z_5.out⟩
    have HE := Lib.hid (trF_tel xs ss hs ks)
    have HP := Lib.hid (trF_prs xs ss hs ks)
    have HL := Lib.hid (trF_len xs ss hs ks)
    by_cases ht : telOk xs ss hs ks
    · skip
      have q0 := blk_cell K.out (i := 0) rfl
      have q1 := blk_cell K.out (i := 1) rfl
      have q2 := blk_cell K.out (i := 2) rfl
      have q3 := blk_cell K.out (i := 3) rfl
      have HC := Lib.hid (pb_true ht ▸ Tells_impl _ _ _ _ _ _ _ _ _ _ _ _ xs ss hs ks (w1.alloc (.cells #[.slice A1 2 c1, .slice A2 2 c2, .slice A3 2 c3, .slice A4 2 c4] 26)) (H0.out.keep (Keep.below Z.out)))
      go_wp2_with fail
      clear q0 q1 q2 q3
      generalize w1.alloc (.cells #[.slice A1 2 c1, .slice A2 2 c2, .slice A3 2 c3, .slice A4 2 c4] 26) = w1a at *
      refine HC.out.mono ?_
      rintro e w2 ⟨rfl, hb⟩
      have Z_2 := Lib.hid (below_up Z.out hb)
      have K_2 := Lib.hid (blk_below K.out hb)
      clear hb HC  Z K
      have q0 := blk_cell K_2.out (i := 0) rfl
      have q1 := blk_cell K_2.out (i := 1) rfl
      have q2 := blk_cell K_2.out (i := 2) rfl
      have q3 := blk_cell K_2.out (i := 3) rfl
      have HC := Lib.hid (pb_true ht ▸ Tells_spec _ _ _ _ _ _ _ _ _ _ _ _ xs ss hs ks w2 (H0.out.keep (Keep.below Z_2.out)))
      go_wp2_with fail
      clear q0 q1 q2 q3
      refine HC.out.mono ?_
      rintro e w3 ⟨rfl, hb⟩
      have Z_3 := Lib.hid (below_up Z_2.out hb)
      have K_3 := Lib.hid (blk_below K_2.out hb)
      clear hb HC  Z_2 K_2
      have HTT := Lib.hid ht
      clear ht
      have q0 := blk_cell K_3.out (i := 0) rfl
      have q1 := blk_cell K_3.out (i := 1) rfl
      have q2 := blk_cell K_3.out (i := 2) rfl
      have q3 := blk_cell K_3.out (i := 3) rfl
      have HC := Lib.hid (pb_true v ▸ ValidTalk_impl _ _ _ _ _ _ _ _ _ _ _ _ xs ss hs ks w3 (H0.out.keep (Keep.below Z_3.out)))
      go_wp2_with fail
      clear q0 q1 q2 q3
      refine HC.out.mono ?_
      rintro e w4 ⟨rfl, hb⟩
      have Z_4 := Lib.hid (below_up Z_3.out hb)
      have K_4 := Lib.hid (blk_below K_3.out hb)
      clear hb HC  Z_3 K_3
      have q0 := blk_cell K_4.out (i := 0) rfl
      have q1 := blk_cell K_4.out (i := 1) rfl
      have q2 := blk_cell K_4.out (i := 2) rfl
      have q3 := blk_cell K_4.out (i := 3) rfl
      have HC := Lib.hid (TalkRests_impl _ _ _ _ _ _ _ _ _ _ _ _ xs ss hs ks w4 (H0.out.keep (Keep.below Z_4.out)))
      go_wp2_with fail
      clear q0 q1 q2 q3
      refine HC.out.mono ?_
      rintro e w5 ⟨Ar, nr, cr, gr_, rfl, hnr, hor, hb⟩
      have Z_5 := Lib.hid (below_up Z_4.out hb)
      have K_5 := Lib.hid (blk_below K_4.out hb)
      subst hnr
      have R := Lib.hid hor.rows
      clear hor
      clear hb HC  Z_4 K_4
      generalize hF : trF xs ss hs ks = F at *
      have HF := Lib.hid hF
      clear hF
      have hl16 := HL.out
      go_wp2
      go_loopw [6, 7] (fun b i wr => ∃ k : Nat, k ≤ F.length ∧ i = .int .i64 k ∧ b = .bool (pb (∃ j : Nat, j < k ∧ prB F j)) ∧ Hid (Quiet w5 wr)) (fun _ i _ => F.length - (intOf i).toNat)
      case atStart => exact ⟨0, Nat.zero_le _, rfl, by rw [pb_false (fun ⟨j, hj, _⟩ => absurd hj (by omega))], Lib.hid (Quiet.refl _)⟩
      case round =>
        obtain ⟨k, hk, rfl, rfl, HQ⟩ := hrel
        by_cases hlt : k < F.length
        · skip
          obtain ⟨b, o, rfl, hr⟩ := (R.out.keep (Keep.quiet HQ.out)).at_ (by omega)
          obtain ⟨R1, cc, r1, hI⟩ := hr k hlt
          obtain ⟨s, r, hs4, hr4, hg⟩ := HP.out k hlt
          have HI := Lib.hid (prB_iff hs4 hr4 hg)
          rw [hg] at r1 hI
          obtain ⟨b2, o2, rfl, d0, d1⟩ := ints2_at hI
          clear hr hI hg
          have hstep : (∃ j : Nat, j < k + 1 ∧ prB F j) ↔ (∃ j : Nat, j < k ∧ prB F j) ∨ PTl s r := ⟨fun ⟨j, hj, hp⟩ => by
              by_cases e : j < k
              · exact .inl ⟨j, e, hp⟩
              · obtain rfl : j = k := by omega
                exact .inr (HI.out.1 hp), fun h => by
              rcases h with ⟨j, hj, hp⟩ | hp
              · exact ⟨j, by omega, hp⟩
              · exact ⟨k, by omega, HI.out.2 hp⟩⟩
          have HST := Lib.hid hstep
          clear hstep HI
          by_cases hf : ∃ j : Nat, j < k ∧ prB F j
          · rw [pb_true hf]
            have HN := Lib.hid (pb_true (HST.out.2 (.inl hf)))
            clear hf HST
            go_wp2
            go_roundw
            case rel => exact ⟨k + 1, by omega, by go_num, by rw [HN.out], HQ⟩
            case measure => simp [intOf]; omega
          · rw [pb_false hf]
            have cs : s = 0 ∨ s = 1 ∨ s = 2 ∨ s = 3 := by omega
            have cr : r = 0 ∨ r = 1 ∨ r = 2 ∨ r = 3 := by omega
            rcases cs with rfl | rfl | rfl | rfl <;> rcases cr with rfl | rfl | rfl | rfl
            all_goals
              first
              | (have HN := Lib.hid (pb_true (HST.out.2 (.inr (by unfold PTl; omega)))); clear hf HST hs4 hr4; go_wp2; go_roundw; (case rel => exact ⟨k + 1, by omega, by go_num, by rw [HN.out], HQ⟩); (case measure => simp [intOf]; omega))
              | (have HN := Lib.hid (pb_false (fun h => (HST.out.1 h).elim hf (by unfold PTl; omega))); clear hf HST hs4 hr4; go_wp2; go_roundw; (case rel => exact ⟨k + 1, by omega, by go_num, by rw [HN.out], HQ⟩); (case measure => simp [intOf]; omega))
              | fail
        · obtain rfl : k = F.length := by omega
          have HX := Lib.hid (pb_true (p := ∃ j : Nat, j < F.length ∧ prB F j) (HE.out.2 HTT.out))
          rw [HX.out]
          go_wp2
          go_ret
          exact ⟨rfl, below_up BB.out (below_quiet Z_5.out HQ.out)⟩
    · skip
      have q0 := blk_cell K.out (i := 0) rfl
      have q1 := blk_cell K.out (i := 1) rfl
      have q2 := blk_cell K.out (i := 2) rfl
      have q3 := blk_cell K.out (i := 3) rfl
      have HC := Lib.hid (pb_false ht ▸ Tells_impl _ _ _ _ _ _ _ _ _ _ _ _ xs ss hs ks (w1.alloc (.cells #[.slice A1 2 c1, .slice A2 2 c2, .slice A3 2 c3, .slice A4 2 c4] 26)) (H0.out.keep (Keep.below Z.out)))
      go_wp2_with fail
      clear q0 q1 q2 q3
      generalize w1.alloc (.cells #[.slice A1 2 c1, .slice A2 2 c2, .slice A3 2 c3, .slice A4 2 c4] 26) = w1a at *
      refine HC.out.mono ?_
      rintro e w2 ⟨rfl, hb⟩
      have Z_2 := Lib.hid (below_up Z.out hb)
      have K_2 := Lib.hid (blk_below K.out hb)
      clear hb HC  Z K
      have q0 := blk_cell K_2.out (i := 0) rfl
      have q1 := blk_cell K_2.out (i := 1) rfl
      have q2 := blk_cell K_2.out (i := 2) rfl
      have q3 := blk_cell K_2.out (i := 3) rfl
      have HC := Lib.hid (pb_false ht ▸ Tells_spec _ _ _ _ _ _ _ _ _ _ _ _ xs ss hs ks w2 (H0.out.keep (Keep.below Z_2.out)))
      go_wp2_with fail
      clear q0 q1 q2 q3
      refine HC.out.mono ?_
      rintro e w3 ⟨rfl, hb⟩
      have Z_3 := Lib.hid (below_up Z_2.out hb)
      have K_3 := Lib.hid (blk_below K_2.out hb)
      clear hb HC  Z_2 K_2
      have HTT := Lib.hid ht
      clear ht
      have q0 := blk_cell K_3.out (i := 0) rfl
      have q1 := blk_cell K_3.out (i := 1) rfl
      have q2 := blk_cell K_3.out (i := 2) rfl
      have q3 := blk_cell K_3.out (i := 3) rfl
      have HC := Lib.hid (pb_true v ▸ ValidTalk_impl _ _ _ _ _ _ _ _ _ _ _ _ xs ss hs ks w3 (H0.out.keep (Keep.below Z_3.out)))
      go_wp2_with fail
      clear q0 q1 q2 q3
      refine HC.out.mono ?_
      rintro e w4 ⟨rfl, hb⟩
      have Z_4 := Lib.hid (below_up Z_3.out hb)
      have K_4 := Lib.hid (blk_below K_3.out hb)
      clear hb HC  Z_3 K_3
      have q0 := blk_cell K_4.out (i := 0) rfl
      have q1 := blk_cell K_4.out (i := 1) rfl
      have q2 := blk_cell K_4.out (i := 2) rfl
      have q3 := blk_cell K_4.out (i := 3) rfl
      have HC := Lib.hid (TalkRests_impl _ _ _ _ _ _ _ _ _ _ _ _ xs ss hs ks w4 (H0.out.keep (Keep.below Z_4.out)))
      go_wp2_with fail
      clear q0 q1 q2 q3
      refine HC.out.mono ?_
      rintro e w5 ⟨Ar, nr, cr, gr_, rfl, hnr, hor, hb⟩
      have Z_5 := Lib.hid (below_up Z_4.out hb)
      have K_5 := Lib.hid (blk_below K_4.out hb)
      subst hnr
      have R := Lib.hid hor.rows
      clear hor
      clear hb HC  Z_4 K_4
      generalize hF : trF xs ss hs ks = F at *
      have HF := Lib.hid hF
      clear hF
      have hl16 := HL.out
      go_wp2
      go_loopw [6, 7] (fun b i wr => ∃ k : Nat, k ≤ F.length ∧ i = .int .i64 k ∧ b = .bool (pb (∃ j : Nat, j < k ∧ prB F j)) ∧ Hid (Quiet w5 wr)) (fun _ i _ => F.length - (intOf i).toNat)
      case atStart => exact ⟨0, Nat.zero_le _, rfl, by rw [pb_false (fun ⟨j, hj, _⟩ => absurd hj (by omega))], Lib.hid (Quiet.refl _)⟩
      case round =>
        obtain ⟨k, hk, rfl, rfl, HQ⟩ := hrel
        by_cases hlt : k < F.length
        · skip
          obtain ⟨b, o, rfl, hr⟩ := (R.out.keep (Keep.quiet HQ.out)).at_ (by omega)
          obtain ⟨R1, cc, r1, hI⟩ := hr k hlt
          obtain ⟨s, r, hs4, hr4, hg⟩ := HP.out k hlt
          have HI := Lib.hid (prB_iff hs4 hr4 hg)
          rw [hg] at r1 hI
          obtain ⟨b2, o2, rfl, d0, d1⟩ := ints2_at hI
          clear hr hI hg
          have hstep : (∃ j : Nat, j < k + 1 ∧ prB F j) ↔ (∃ j : Nat, j < k ∧ prB F j) ∨ PTl s r := ⟨fun ⟨j, hj, hp⟩ => by
              by_cases e : j < k
              · exact .inl ⟨j, e, hp⟩
              · obtain rfl : j = k := by omega
                exact .inr (HI.out.1 hp), fun h => by
              rcases h with ⟨j, hj, hp⟩ | hp
              · exact ⟨j, by omega, hp⟩
              · exact ⟨k, by omega, HI.out.2 hp⟩⟩
          have HST := Lib.hid hstep
          clear hstep HI
          by_cases hf : ∃ j : Nat, j < k ∧ prB F j
          · rw [pb_true hf]
            have HN := Lib.hid (pb_true (HST.out.2 (.inl hf)))
            clear hf HST
            go_wp2
            go_roundw
            case rel => exact ⟨k + 1, by omega, by go_num, by rw [HN.out], HQ⟩
            case measure => simp [intOf]; omega
          · rw [pb_false hf]
            have cs : s = 0 ∨ s = 1 ∨ s = 2 ∨ s = 3 := by omega
            have cr : r = 0 ∨ r = 1 ∨ r = 2 ∨ r = 3 := by omega
            rcases cs with rfl | rfl | rfl | rfl <;> rcases cr with rfl | rfl | rfl | rfl
            all_goals
              first
              | (have HN := Lib.hid (pb_true (HST.out.2 (.inr (by unfold PTl; omega)))); clear hf HST hs4 hr4; go_wp2; go_roundw; (case rel => exact ⟨k + 1, by omega, by go_num, by rw [HN.out], HQ⟩); (case measure => simp [intOf]; omega))
              | (have HN := Lib.hid (pb_false (fun h => (HST.out.1 h).elim hf (by unfold PTl; omega))); clear hf HST hs4 hr4; go_wp2; go_roundw; (case rel => exact ⟨k + 1, by omega, by go_num, by rw [HN.out], HQ⟩); (case measure => simp [intOf]; omega))
              | fail
        · obtain rfl : k = F.length := by omega
          have HX := Lib.hid (pb_false (p := ∃ j : Nat, j < F.length ∧ prB F j) (fun h => HTT.out (HE.out.1 h)))
          rw [HX.out]
          go_wp2
          go_ret
          exact ⟨rfl, below_up BB.out (below_quiet Z_5.out HQ.out)⟩

set_option maxRecDepth 100000 in
theorem hFnTells_lifted (os : Os) (started : os.Started) (H : Type) (enc : TypeId × Value → H) :
    ReturnsInHanded {} Try.checked os 6 .any (Rows.fnTellsSpec.pre6 enc Try.prog Try.f6 Rows.fnTellsRow.domain false) (Rows.fnTellsSpec.post enc Try.prog Try.f6 false true false false) := by
  refine returnsInHanded_of_change_sized (C := Try.checked) Try.own started (by kernel_rfl) Try.func6
    (ChangeSpec.witness6 (enc := enc) (C := Try.checked) false ⟨#[], #[.slice none 0 0], []⟩ 8 (by kernel_rfl) (by kernel_rfl) (by kernel_rfl) (by kernel_rfl)) ?_
  intro W base args ds gs before hval0 hW _ hwt _
  have hval : ∀ (j : Nat) t v, Try.f6.params[j]? = some t → args[j]? = some v → Value.okWide Try.prog W .any base t v := hval0
  have hA : ∃ p, DataW.TrodAll enc Try.prog W 0 (fun _ => true) true Try.f6.params.toList args.toList ds p := by obtain ⟨p, q, hA0, _⟩ := hW; exact ⟨p, hA0⟩
  obtain ⟨p, hA⟩ := hA
  have hwt' := weights_arg hwt (j := 0) (t := 22) (by rw [Try.params6]; rfl) (d := ds.getD 0 .nil)
  rw [Try.params6] at hA hval
  obtain ⟨v0, d0, rfl, rfl, h0⟩ := trodAll_one hA
  obtain ⟨A, n, c, rfl, hx⟩ := open_bytes (hval 0 22 v0 rfl rfl) h0 (hwt' rfl)
  refine (fnTells_calls A n c W hx).mono fun e W' ⟨he, hb⟩ => ?_
  subst he
  exact ⟨_, rfl, law_post (F := Try.f6) rfl rfl (by rw [Try.params6]; simp only [List.mem_cons, List.not_mem_nil, or_false, forall_eq]; exact ⟨by kernel_rfl, of_decide_eq_true (by kernel_rfl)⟩) hW (fun h => by subst h; rfl) hb⟩

theorem hFnTells_holds : Rows.FnTellsSaid :=
  OpenClaim.holds_of_wide 6 Try.f6 rfl rfl rfl rfl rfl rfl rfl ⟨rfl, rfl, rfl, rfl, rfl⟩ rfl rfl rfl rfl rfl (by kernel_rfl) Try.func6
    (by unfold joinedFacts; simp only [Bool.and_eq_true]; (repeat' apply And.intro) <;> (first | (with_reducible exact prog_enters) | ((with_reducible refine prog_lifts ?_); rfl) | ((with_reducible refine prog_make ?_); rfl) | kernel_rfl))
    (of_decide_eq_true (by kernel_rfl)) (by unfold Func.isWrapper; first | (rw [if_pos (by decide +kernel)]; kernel_rfl) | (rw [if_neg (by decide +kernel)]; exact ⟨rfl, rfl⟩))
    (fun os started H enc _ => hFnTells_lifted os started H enc)

end Go.Proofs.Ytcjanlbhgfadpaa
