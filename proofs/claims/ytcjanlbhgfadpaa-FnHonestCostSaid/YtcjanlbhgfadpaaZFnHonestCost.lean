/- The law FnHonestCost holds: for all bytes with HonestCost of the signal 1 for the type 0 Tells holds, and with less it does not, and the program's HonestCost answers as the model's. No condition. -/
import Derived.Test.YtcjanlbhgfadpaaQ12
namespace Go.Proofs.Ytcjanlbhgfadpaa
open Go.ChangeShapes Go.WideShapes Go.ChangeAt Go.RowKit Go.Deep

set_option maxRecDepth 100000 in
set_option maxHeartbeats 3200000 in
theorem fnHonestCost_calls (A : Option Addr) (n c : Nat) (w : World) (hx : Bytes w A n c) :
    Calls Try.prog 7 #[.slice A n c] w fun e w' => e = .returned (.bool true) ∧ Below w.heap.size w w' := by
  have hmx := hx.max
  have H0 := Lib.hid (DrawHonestCost_any A n c w hx)
  clear hx
  by_cases hs : 1048576 < n
  · go_enter Try.func7, Try.ntmps7
    go_wp2
    go_ret
    exact ⟨rfl, Below.refl _ _⟩
  · go_enter Try.func7, Try.ntmps7
    go_wp2_with fail
    refine H0.out.mono ?_
    rintro e w1 ⟨A1, c1, A2, c2, A3, c3, A4, c4, xs, ss, hs, ks, rfl, h, hb⟩
    clear H0
    have hal := below_alloc w1 (.cells #[.slice A1 2 c1, .slice A2 2 c2, .slice A3 2 c3, .slice A4 2 c4] 26)
    have Z := Lib.hid hal
    have K := Lib.hid (blk_new w1 26 #[.slice A1 2 c1, .slice A2 2 c2, .slice A3 2 c3, .slice A4 2 c4])
    have H0 := Lib.hid h
    have BB := Lib.hid hb
    clear hal h hb
    rcases hoF_cases xs ss hs ks with hn | ⟨c, hc, hn, v, ht, hno⟩
    · skip
      have q0 := blk_cell K.out (i := 0) rfl
      have q1 := blk_cell K.out (i := 1) rfl
      have q2 := blk_cell K.out (i := 2) rfl
      have q3 := blk_cell K.out (i := 3) rfl
      have HC := Lib.hid (hn ▸ HonestCost_impl _ _ _ _ _ _ _ _ _ _ _ _ xs ss hs ks (w1.alloc (.cells #[.slice A1 2 c1, .slice A2 2 c2, .slice A3 2 c3, .slice A4 2 c4] 26)) (H0.out.keep (Keep.below Z.out)))
      go_wp2_with fail
      clear q0 q1 q2 q3
      generalize w1.alloc (.cells #[.slice A1 2 c1, .slice A2 2 c2, .slice A3 2 c3, .slice A4 2 c4] 26) = w1a at *
      refine HC.out.mono ?_
      rintro e w2 ⟨rfl, hb⟩
      have Z_2 := Lib.hid (below_up Z.out hb)
      have K_2 := Lib.hid (blk_below K.out hb)
      clear hb HC  Z K
      have q0 := blk_cell K_2.out (i := 0) rfl
      have q1 := blk_cell K_2.out (i := 1) rfl
      have q2 := blk_cell K_2.out (i := 2) rfl
      have q3 := blk_cell K_2.out (i := 3) rfl
      have HC := Lib.hid (hn ▸ HonestCost_spec _ _ _ _ _ _ _ _ _ _ _ _ xs ss hs ks w2 (H0.out.keep (Keep.below Z_2.out)))
      go_wp2_with fail
      clear q0 q1 q2 q3
      refine HC.out.mono ?_
      rintro e w3 ⟨rfl, hb⟩
      have Z_3 := Lib.hid (below_up Z_2.out hb)
      have K_3 := Lib.hid (blk_below K_2.out hb)
      clear hb HC  Z_2 K_2
      have q0 := blk_cell K_3.out (i := 0) rfl
      have q1 := blk_cell K_3.out (i := 1) rfl
      have q2 := blk_cell K_3.out (i := 2) rfl
      have q3 := blk_cell K_3.out (i := 3) rfl
      have HC := Lib.hid (hn ▸ HonestCost_spec _ _ _ _ _ _ _ _ _ _ _ _ xs ss hs ks w3 (H0.out.keep (Keep.below Z_3.out)))
      go_wp2_with fail
      clear q0 q1 q2 q3
      refine HC.out.mono ?_
      rintro e w4 ⟨rfl, hb⟩
      have Z_4 := Lib.hid (below_up Z_3.out hb)
      have K_4 := Lib.hid (blk_below K_3.out hb)
      clear hb HC  Z_3 K_3
      go_wp2
      go_ret
      exact ⟨rfl, below_up BB.out Z_4.out⟩
    · skip
      have q0 := blk_cell K.out (i := 0) rfl
      have q1 := blk_cell K.out (i := 1) rfl
      have q2 := blk_cell K.out (i := 2) rfl
      have q3 := blk_cell K.out (i := 3) rfl
      have HC := Lib.hid (hn ▸ HonestCost_impl _ _ _ _ _ _ _ _ _ _ _ _ xs ss hs ks (w1.alloc (.cells #[.slice A1 2 c1, .slice A2 2 c2, .slice A3 2 c3, .slice A4 2 c4] 26)) (H0.out.keep (Keep.below Z.out)))
      go_wp2_with fail
      clear q0 q1 q2 q3
      generalize w1.alloc (.cells #[.slice A1 2 c1, .slice A2 2 c2, .slice A3 2 c3, .slice A4 2 c4] 26) = w1a at *
      refine HC.out.mono ?_
      rintro e w2 ⟨rfl, hb⟩
      have Z_2 := Lib.hid (below_up Z.out hb)
      have K_2 := Lib.hid (blk_below K.out hb)
      clear hb HC  Z K
      have q0 := blk_cell K_2.out (i := 0) rfl
      have q1 := blk_cell K_2.out (i := 1) rfl
      have q2 := blk_cell K_2.out (i := 2) rfl
      have q3 := blk_cell K_2.out (i := 3) rfl
      have HC := Lib.hid (hn ▸ HonestCost_spec _ _ _ _ _ _ _ _ _ _ _ _ xs ss hs ks w2 (H0.out.keep (Keep.below Z_2.out)))
      go_wp2_with fail
      clear q0 q1 q2 q3
      refine HC.out.mono ?_
      rintro e w3 ⟨rfl, hb⟩
      have Z_3 := Lib.hid (below_up Z_2.out hb)
      have K_3 := Lib.hid (blk_below K_2.out hb)
      clear hb HC  Z_2 K_2
      have hc0 : decide ((c : Int) < 0) = false := by simp
      obtain ⟨s3, sf, ⟨s0, s1, s2⟩, hZ, hK, hC⟩ := cost_store Z_3.out K_3.out (0) ((c : Int)) (0) (0) ⟨by omega, by omega⟩ ⟨by omega, by omega⟩ ⟨by omega, by omega⟩ ⟨by omega, by omega⟩
      have Zs := Lib.hid hZ
      have Ks := Lib.hid hK
      have Cs := Lib.hid hC
      clear hZ hK hC Z_3 K_3
      have HC := Lib.hid (pb_true (show telOk xs ss hs [[0, (c : Int)], [0, 0]] from ⟨v.cost (c := c) (by omega), ht⟩) ▸ Tells_impl _ _ _ _ _ _ _ _ _ _ _ _ xs ss hs ([[0, (c : Int)], [0, 0]]) ((((w3.alloc (.cells #[.int .i64 (0), .int .i64 ((c : Int))] 3)).alloc (.cells #[.int .i64 (0), .int .i64 (0)] 3)).alloc (.cells #[.slice (some ⟨w3.heap.size, 0, none⟩) 2 2, .slice (some ⟨w3.heap.size + 1, 0, none⟩) 2 2] 23)).setCell ⟨w1.heap.size, 3, none⟩ (.slice (some ⟨w3.heap.size + 1 + 1, 0, none⟩) 2 2)) ⟨(H0.out.keep (Keep.below Zs.out)).r1, (H0.out.keep (Keep.below Zs.out)).r2, (H0.out.keep (Keep.below Zs.out)).r3, Cs.out⟩)
      go_wp2_with fail
      generalize (((w3.alloc (.cells #[.int .i64 (0), .int .i64 ((c : Int))] 3)).alloc (.cells #[.int .i64 (0), .int .i64 (0)] 3)).alloc (.cells #[.slice (some ⟨w3.heap.size, 0, none⟩) 2 2, .slice (some ⟨w3.heap.size + 1, 0, none⟩) 2 2] 23)).setCell ⟨w1.heap.size, 3, none⟩ (.slice (some ⟨w3.heap.size + 1 + 1, 0, none⟩) 2 2) = w3a at *
      refine HC.out.mono ?_
      rintro e w4 ⟨rfl, hb⟩
      have Z_4 := Lib.hid (below_up Zs.out hb)
      have K_4 := Lib.hid (blk_below Ks.out hb)
      have C_4 := Lib.hid (Cs.out.keep (Keep.below hb))
      clear hb HC  s0 s1 s2 s3 sf Zs Ks Cs
      by_cases hz : c = 0
      · subst hz
        go_wp2
        go_ret
        exact ⟨rfl, below_up BB.out Z_4.out⟩
      · obtain ⟨c, rfl⟩ : ∃ b, c = b + 1 := ⟨c - 1, by omega⟩
        have hz' : (((c + 1 : Nat) : Int) == 0) = false := by simp; omega
        have hsub : ((c + 1 : Nat) : Int) - 1 = (c : Int) := by omega
        have hwr : IntKind.i64.wrap (((c + 1 : Nat) : Int) - 1) = (c : Int) := by rw [wrapIn (by omega)]; omega
        clear C_4
        obtain ⟨s3, sf, ⟨s0, s1, s2⟩, hZ, hK, hC⟩ := cost_store Z_4.out K_4.out (0) ((c : Int)) (0) (0) ⟨by omega, by omega⟩ ⟨by omega, by omega⟩ ⟨by omega, by omega⟩ ⟨by omega, by omega⟩
        have Zt := Lib.hid hZ
        have Kt := Lib.hid hK
        have Ct := Lib.hid hC
        clear hZ hK hC Z_4 K_4
        have HC := Lib.hid (pb_false (show ¬ telOk xs ss hs [[0, (c : Int)], [0, 0]] from fun h => hno c (by omega) h.2) ▸ Tells_impl _ _ _ _ _ _ _ _ _ _ _ _ xs ss hs ([[0, (c : Int)], [0, 0]]) ((((w4.alloc (.cells #[.int .i64 (0), .int .i64 ((c : Int))] 3)).alloc (.cells #[.int .i64 (0), .int .i64 (0)] 3)).alloc (.cells #[.slice (some ⟨w4.heap.size, 0, none⟩) 2 2, .slice (some ⟨w4.heap.size + 1, 0, none⟩) 2 2] 23)).setCell ⟨w1.heap.size, 3, none⟩ (.slice (some ⟨w4.heap.size + 1 + 1, 0, none⟩) 2 2)) ⟨(H0.out.keep (Keep.below Zt.out)).r1, (H0.out.keep (Keep.below Zt.out)).r2, (H0.out.keep (Keep.below Zt.out)).r3, Ct.out⟩)
        go_wp2_with fail
        generalize (((w4.alloc (.cells #[.int .i64 (0), .int .i64 ((c : Int))] 3)).alloc (.cells #[.int .i64 (0), .int .i64 (0)] 3)).alloc (.cells #[.slice (some ⟨w4.heap.size, 0, none⟩) 2 2, .slice (some ⟨w4.heap.size + 1, 0, none⟩) 2 2] 23)).setCell ⟨w1.heap.size, 3, none⟩ (.slice (some ⟨w4.heap.size + 1 + 1, 0, none⟩) 2 2) = w4a at *
        refine HC.out.mono ?_
        rintro e w5 ⟨rfl, hb⟩
        have Z_5 := Lib.hid (below_up Zt.out hb)
        have K_5 := Lib.hid (blk_below Kt.out hb)
        have C_5 := Lib.hid (Ct.out.keep (Keep.below hb))
        clear hb HC  s0 s1 s2 s3 sf Zt Kt Ct
        go_wp2
        go_ret
        exact ⟨rfl, below_up BB.out Z_5.out⟩

set_option maxRecDepth 100000 in
theorem hFnHonestCost_lifted (os : Os) (started : os.Started) (H : Type) (enc : TypeId × Value → H) :
    ReturnsInHanded {} Try.checked os 7 .any (Rows.fnHonestCostSpec.pre6 enc Try.prog Try.f7 Rows.fnHonestCostRow.domain false) (Rows.fnHonestCostSpec.post enc Try.prog Try.f7 false true false false) := by
  refine returnsInHanded_of_change_sized (C := Try.checked) Try.own started (by kernel_rfl) Try.func7
    (ChangeSpec.witness6 (enc := enc) (C := Try.checked) false ⟨#[], #[.slice none 0 0], []⟩ 8 (by kernel_rfl) (by kernel_rfl) (by kernel_rfl) (by kernel_rfl)) ?_
  intro W base args ds gs before hval0 hW _ hwt _
  have hval : ∀ (j : Nat) t v, Try.f7.params[j]? = some t → args[j]? = some v → Value.okWide Try.prog W .any base t v := hval0
  have hA : ∃ p, DataW.TrodAll enc Try.prog W 0 (fun _ => true) true Try.f7.params.toList args.toList ds p := by obtain ⟨p, q, hA0, _⟩ := hW; exact ⟨p, hA0⟩
  obtain ⟨p, hA⟩ := hA
  have hwt' := weights_arg hwt (j := 0) (t := 22) (by rw [Try.params7]; rfl) (d := ds.getD 0 .nil)
  rw [Try.params7] at hA hval
  obtain ⟨v0, d0, rfl, rfl, h0⟩ := trodAll_one hA
  obtain ⟨A, n, c, rfl, hx⟩ := open_bytes (hval 0 22 v0 rfl rfl) h0 (hwt' rfl)
  refine (fnHonestCost_calls A n c W hx).mono fun e W' ⟨he, hb⟩ => ?_
  subst he
  exact ⟨_, rfl, law_post (F := Try.f7) rfl rfl (by rw [Try.params7]; simp only [List.mem_cons, List.not_mem_nil, or_false, forall_eq]; exact ⟨by kernel_rfl, of_decide_eq_true (by kernel_rfl)⟩) hW (fun h => by subst h; rfl) hb⟩

theorem hFnHonestCost_holds : Rows.FnHonestCostSaid :=
  OpenClaim.holds_of_wide 7 Try.f7 rfl rfl rfl rfl rfl rfl rfl ⟨rfl, rfl, rfl, rfl, rfl⟩ rfl rfl rfl rfl rfl (by kernel_rfl) Try.func7
    (by unfold joinedFacts; simp only [Bool.and_eq_true]; (repeat' apply And.intro) <;> (first | (with_reducible exact prog_enters) | ((with_reducible refine prog_lifts ?_); rfl) | ((with_reducible refine prog_make ?_); rfl) | kernel_rfl))
    (of_decide_eq_true (by kernel_rfl)) (by unfold Func.isWrapper; first | (rw [if_pos (by decide +kernel)]; kernel_rfl) | (rw [if_neg (by decide +kernel)]; exact ⟨rfl, rfl⟩))
    (fun os started H enc _ => hFnHonestCost_lifted os started H enc)

end Go.Proofs.Ytcjanlbhgfadpaa
