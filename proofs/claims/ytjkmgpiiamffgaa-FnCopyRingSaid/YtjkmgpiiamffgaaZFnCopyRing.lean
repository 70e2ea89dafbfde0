/- The law FnCopyRing holds: for every code, of what it draws, the program copies as the model does; copied strategies are the ring's own, the turned ring's copy is the copy turned, and a ring of one strategy stays. No condition. -/
import Derived.Test.YtjkmgpiiamffgaaQ13
namespace Go.Proofs.Ytjkmgpiiamffgaa
open Go.ChangeShapes Go.WideShapes Go.ChangeAt Go.RowKit Go.Deep

theorem wp_app_ints {o : Oper} {a : Act} {K : Act → World → Prop} {Q : Exit → Act → World → Prop} {w : World} (s x : Operand)
    (ho : o.op = .call { callee := .builtin .append, args := #[s, x], argTypes := #[30, 30] }) (hty : o.type = 30) (w0 : World)
    (v : Value) (xs : List Int) (hs : a.eval s = v) (hown : OX w0 w v xs) (R : Option Addr) (m c : Nat) (r : List Int) (hx : a.eval x = .slice R m c) (hr : Ints w R m c r) (hlen : xs.length + m ≤ 1000) (L : Nat) (hL : (xs ++ r).length = L)
    (h : ∀ A cap w', OX w0 w' (.slice A L cap) (xs ++ r) → w.grownBy w' v.ownBlock → ((Value.slice A L cap).ownBlock = v.ownBlock ∨ (Value.slice A L cap).ownBlock = some w.heap.size) → K (a.put o.dst (.slice A L cap)) w') : Oper.wp Try.prog o a w K Q := by
  subst hL
  obtain ⟨A, cap, w', hrun, h2, h3, h4⟩ := run_app_ints w w0.heap.size v xs hown.own hown.lo R m c r hr hlen
  unfold Oper.wp execOp
  simp only [ho, hty, resolve, invoke, builtin, Sem.run_bind, Sem.run_pure, Result.andThen_ok, List.map_toArray, List.map_cons, List.map_nil, hs, hx, hrun]
  exact h A cap w' (hown.app h2 h3) h3 h4
theorem eqI_slf (xs : List Int) : eqI xs xs = true := eqI_yes rfl fun _ _ => rfl
theorem OX.below {w0 W W' v xs} (h : OX w0 W v xs) (k : Below W.heap.size W W') : OX w0 W' v xs :=
  ⟨((⟨h.own, fun k hk => (h.own.lt k hk).2⟩ : BldI w0.heap.size W.heap.size W v xs).below k).own, below_up h.bl k⟩
/-- The next ring under way: what has come up, and where it lies. -/
structure RC8 (w0 : World) (bx ox m cb : Nat) (ys : List Int) (L : Array Bool) (u40 u41 u42 u43 u44 u45 u46 u47 u48 u7 : Value) (q40 : Nat) (q47 : Nat) (A8 : Option Addr) (c8 : Nat) (W : World) : Prop where
  bl : Below w0.heap.size w0 W
  h0 : On L 0 → On L 3 ∨ (u40 = .slice (some ⟨q40, 0, none⟩) 0 0 ∧ q40 < W.heap.size ∧ OX w0 W (.slice (some ⟨q40, 0, none⟩) 0 0) [])
  h1 : On L 1 → u41 = .slice (some ⟨bx, ox, none⟩) m cb
  h2 : On L 2 → u42 = .slice (some ⟨bx, ox + 1, none⟩) (m - 1) (cb - 1)
  h3 : On L 3 → On L 0 ∧ (On L 8 ∨ OX w0 W u43 (ys.drop 1))
  h4 : On L 4 → u44 = .slice (some ⟨bx, ox, none⟩) m cb
  h5 : On L 5 → u45 = .pointer (some ⟨bx, ox, none⟩)
  h6 : On L 6 → u46 = .int .i64 (gi ys 0)
  h7 : On L 7 → On L 8 ∨ (u47 = .slice (some ⟨q47, 0, none⟩) 1 1 ∧ Blk W q47 3 #[iv (gi ys 0)])
  hne : On L 0 → On L 7 → q40 ≠ q47
  hq : On L 0 → q40 < W.heap.size
  h8 : On L 8 → On L 3 ∧ (u48 = .slice A8 m c8 ∧ OX w0 W u48 (nxt ys))
  h9 : On L 9 → On L 8 ∧ u7 = u48
theorem RC8.up {w0 bx ox m cb ys L u40 u41 u42 u43 u44 u45 u46 u47 u48 u7 q40 q47 A8 c8 W W'} (Hy : RC8 w0 bx ox m cb ys L u40 u41 u42 u43 u44 u45 u46 u47 u48 u7 q40 q47 A8 c8 W) (k : Below W.heap.size W W') : RC8 w0 bx ox m cb ys L u40 u41 u42 u43 u44 u45 u46 u47 u48 u7 q40 q47 A8 c8 W' :=
  ⟨below_up Hy.bl k, fun o => (Hy.h0 o).imp id (fun ⟨a, c, d⟩ => ⟨a, Nat.lt_of_lt_of_le c k.size, d.below k⟩), Hy.h1, Hy.h2, fun o => let ⟨a, b⟩ := (Hy.h3 o); ⟨a, b.imp id (fun d => d.below k)⟩, Hy.h4, Hy.h5, Hy.h6, fun o => (Hy.h7 o).imp id (fun ⟨a, b⟩ => ⟨a, blk_below b k⟩), Hy.hne, fun o => Nat.lt_of_lt_of_le (Hy.hq o) k.size, fun o => let ⟨a, b, d⟩ := (Hy.h8 o); ⟨a, b, d.below k⟩, Hy.h9⟩

set_option maxRecDepth 100000 in
set_option maxHeartbeats 3200000 in
theorem fnCopyRing_calls (A : Option Addr) (n c : Nat) (w : World) (hx : Bytes w A n c) :
    Calls Try.prog 7 #[.slice A n c] w fun e w' => e = .returned (.bool true) ∧ Below w.heap.size w w' := by
  have hmx := hx.max
  have H0 := Lib.hid (DrawCopyRing_any A n c w hx)
  clear hx
  by_cases hs : 1048576 < n
  · go_enter Try.func7, Try.ntmps7
    go_wp2
    go_ret
    exact ⟨rfl, Below.refl _ _⟩
  · go_enter Try.func7, Try.ntmps7
    go_wp2_with fail
    refine H0.out.mono ?_
    rintro e w1 ⟨Av, k, cv, gg, xss, Bv, m, cb, ys, rfl, hsm, hown, hin, hb⟩
    have HA := Lib.hid hown.rows
    have HX := Lib.hid hin
    have B1 := Lib.hid hb
    have HL := Lib.hid hin.len
    have hcb : m ≤ cb := hin.cap
    clear hsm hown hb H0
    obtain ⟨i0, hi0, hz0, hz1, hz2⟩ := info_parts Try.info_int
    by_cases hr : RgQ xss ys
    · have hm3 : 3 ≤ m := by rw [← HL.out]; exact hr.n3
      have hm8 : m ≤ 8 := by rw [← HL.out]; exact hr.n8
      have HCL : Hid ((cpF xss ys).length = m) := Lib.hid (by rw [cpF_len hr]; exact HL.out)
      have HNL : Hid ((nxt ys).length = m) := Lib.hid (by rw [nxt_len (by rw [HL.out]; omega)]; exact HL.out)
      have HTN : Hid (∀ i, i < m → gi (cpF xss (nxt ys)) i = gi (cpF xss ys) (rr m i)) := Lib.hid (fun i hi => by rw [← HL.out]; exact cp_turn hr (by rw [HL.out]; exact hi))
      have HTL : Hid ((cpF xss (nxt ys)).length = m) := Lib.hid (by rw [cpF_len hr.nxt]; exact HNL.out)
      have HIN : Hid (∀ i, i < m → HasN ys (gi (cpF xss ys) i)) := Lib.hid (fun i hi => cp_in hr (by rw [HL.out]; exact hi))
      have HSM : Hid (cpF xss (rpl ys m) = rpl ys m) := Lib.hid (by rw [← HL.out]; exact cp_same hr)
      have HYB : Hid (∀ y ∈ ys, 0 ≤ y ∧ y ≤ 2) := Lib.hid (fun y hy => by
        obtain ⟨i, hi, rfl⟩ := List.getElem_of_mem hy
        have := hr.s i hi
        rw [gi_get hi] at this
        have := hr.v.1.n3
        unfold InR at *; omega)
      have HY0 : Hid (0 ≤ gi ys 0 ∧ gi ys 0 ≤ 2) := Lib.hid (HYB.out _ (gi_mem (by rw [HL.out]; omega)))
      have hm0 : ((m : Int) == 0) = false := by rw [beq_eq_false_iff_ne]; omega
      have hm0' : ¬ (m = 0) := by omega
      obtain ⟨bx, ox, rfl, hcx⟩ := hin.at_ (by omega)
      clear hr hin hcx
      have HC := Lib.hid (CopyRing_impl Av k cv xss _ m cb ys w1 HA.out HX.out)
      go_wp2_with fail
      refine HC.out.mono ?_
      rintro e w2 ⟨A2, n2, c2, g2, rfl, hn2, ho2, hb⟩
      have HA_2 := Lib.hid (HA.out.keep (Keep.below hb))
      have HX_2 := Lib.hid (HX.out.keep (Keep.below hb))
      have B_2 := Lib.hid (below_up B1.out hb)
      obtain rfl : m = n2 := (hn2.trans HCL.out).symm
      have HO := Lib.hid ho2.ints
      clear hn2 ho2
      clear hb HC HA HX B1
      have HC := Lib.hid (CopyRing_spec Av k cv xss _ m cb ys w2 HA_2.out HX_2.out)
      go_wp2_with fail
      refine HC.out.mono ?_
      rintro e w3 ⟨A3, n3, c3, g3, rfl, hn3, ho3, hb⟩
      have HA_3 := Lib.hid (HA_2.out.keep (Keep.below hb))
      have HX_3 := Lib.hid (HX_2.out.keep (Keep.below hb))
      have HO_3 := Lib.hid (HO.out.keep (Keep.below hb))
      have B_3 := Lib.hid (below_up B_2.out hb)
      obtain rfl : m = n3 := (hn3.trans HCL.out).symm
      have HS := Lib.hid ho3.ints
      clear hn3 ho3
      clear hb HC HA_2 HX_2 HO B_2
      have HC := Lib.hid (equalInts_any _ _ _ _ _ _ (cpF xss ys) (cpF xss ys) w3 HO_3.out HS.out)
      rw [eqI_slf] at HC
      go_wp2_with fail
      refine HC.out.mono ?_
      rintro e w4 ⟨rfl, hq⟩
      have hb := hq.below (B := w3.heap.size)
      have HA_4 := Lib.hid (HA_3.out.keep (Keep.below hb))
      have HX_4 := Lib.hid (HX_3.out.keep (Keep.below hb))
      have HO_4 := Lib.hid (HO_3.out.keep (Keep.below hb))
      have HS_4 := Lib.hid (HS.out.keep (Keep.below hb))
      have B_4 := Lib.hid (below_up B_3.out hb)
      clear hb HC hq HA_3 HX_3 HO_3 HS B_3
      clear HS_4
      have HX4 := HX_4
      have HC0 : Hid (w4.cell? ⟨bx, ox, none⟩ = some (.int .i64 (gi ys 0))) := Lib.hid (by obtain ⟨b', o', e', hc'⟩ := HX4.out.at_ (by omega); injection e' with e'; injection e' with e1 e2 _; subst e1; subst e2; exact hc' 0 (by omega))
      go_wp2
      refine wp_region_invF (rs := [0, 1, 2, 3, 4, 5, 6, 7, 8, 9]) [40, 41, 42, 43, 44, 45, 46, 47, 48, 7] (fun L us W => ∃ u40 u41 u42 u43 u44 u45 u46 u47 u48 u7 q40 q47 A8 c8, us = [u40, u41, u42, u43, u44, u45, u46, u47, u48, u7] ∧ RC8 w4 bx ox m cb ys L u40 u41 u42 u43 u44 u45 u46 u47 u48 u7 q40 q47 A8 c8 W) (by kernel_rfl) ?_ (by kernel_rfl) (by kernel_rfl) ?_ ?_
      · refine ⟨[undef, undef, undef, undef, undef, undef, undef, undef, undef, undef], ?_, undef, undef, undef, undef, undef, undef, undef, undef, undef, undef, 0, 0, none, 0, rfl, ?_⟩
        · simp only [frmL, Act.put, List.setIfInBounds_toArray, List.set_cons_zero, List.set_cons_succ]
        exact ⟨Quiet.below ⟨1, rfl⟩, fun o => o.not_start.elim, fun o => o.not_start.elim, fun o => o.not_start.elim, fun o => o.not_start.elim, fun o => o.not_start.elim, fun o => o.not_start.elim, fun o => o.not_start.elim, fun o => o.not_start.elim, fun o _ => o.not_start.elim, fun o => o.not_start.elim, fun o => o.not_start.elim, fun o => o.not_start.elim⟩
      · refine StepsI.cons (i := 0) (ws := []) rfl (by kernel_rfl) (fun L a W hI hno hon hw K hK => ?_) ?_
        · obtain ⟨_, rfl, u40, u41, u42, u43, u44, u45, u46, u47, u48, u7, q40, q47, A8, c8, rfl, H⟩ := hI
          simp only [List.getElem_toArray, List.getElem_cons_zero]
          simp only [frmL, Act.put, List.setIfInBounds_toArray, List.set_cons_zero, List.set_cons_succ]
          go_simp
          have HN := H.up (below_alloc W (.cells #[] 3))
          refine hK.out _ _ ⟨[.slice (some ⟨W.heap.size, 0, none⟩) 0 0, u41, u42, u43, u44, u45, u46, u47, u48, u7], ?_, .slice (some ⟨W.heap.size, 0, none⟩) 0 0, u41, u42, u43, u44, u45, u46, u47, u48, u7, W.heap.size, q47, A8, c8, rfl, ?_⟩
          · simp only [frmL, Act.put, List.setIfInBounds_toArray, List.set_cons_zero, List.set_cons_succ]
          · exact ⟨HN.bl, fun _ => .inr ⟨rfl, by simp, OX.newAt H.bl rfl⟩, fun o => HN.h1 (o.of_set (by decide)), fun o => HN.h2 (o.of_set (by decide)), fun o => let ⟨a, b⟩ := HN.h3 (o.of_set (by decide)); ⟨a.old, b.imp On.old id⟩, fun o => HN.h4 (o.of_set (by decide)), fun o => HN.h5 (o.of_set (by decide)), fun o => HN.h6 (o.of_set (by decide)), fun o => (HN.h7 (o.of_set (by decide))).imp On.old id, fun _ o => by rcases H.h7 (o.of_set (by decide)) with o8 | ⟨_, b⟩; exact absurd (H.h3 (H.h8 o8).1).1 hno; exact Nat.ne_of_gt (blk_lt b), fun _ => by simp, fun o => let ⟨a, b⟩ := HN.h8 (o.of_set (by decide)); ⟨a.old, b⟩, fun o => (HN.h9 (o.of_set (by decide))).imp On.old id⟩
        refine StepsI.cons (i := 1) (ws := []) rfl (by kernel_rfl) (fun L a W hI hno hon hw K hK => ?_) ?_
        · obtain ⟨_, rfl, u40, u41, u42, u43, u44, u45, u46, u47, u48, u7, q40, q47, A8, c8, rfl, H⟩ := hI
          simp only [List.getElem_toArray, List.getElem_cons_zero, List.getElem_cons_succ]
          simp only [frmL, Act.put, List.setIfInBounds_toArray, List.set_cons_zero, List.set_cons_succ]
          go_simp
          have HN := H
          refine hK.out _ _ ⟨[u40, .slice (some ⟨bx, ox, none⟩) m cb, u42, u43, u44, u45, u46, u47, u48, u7], ?_, u40, .slice (some ⟨bx, ox, none⟩) m cb, u42, u43, u44, u45, u46, u47, u48, u7, q40, q47, A8, c8, rfl, ?_⟩
          · simp only [frmL, Act.put, List.setIfInBounds_toArray, List.set_cons_zero, List.set_cons_succ]
          · exact ⟨HN.bl, fun o => (HN.h0 (o.of_set (by decide))).imp On.old id, fun _ => rfl, fun o => HN.h2 (o.of_set (by decide)), fun o => let ⟨a, b⟩ := HN.h3 (o.of_set (by decide)); ⟨a.old, b.imp On.old id⟩, fun o => HN.h4 (o.of_set (by decide)), fun o => HN.h5 (o.of_set (by decide)), fun o => HN.h6 (o.of_set (by decide)), fun o => (HN.h7 (o.of_set (by decide))).imp On.old id, fun o o2 => HN.hne (o.of_set (by decide)) (o2.of_set (by decide)), fun o => HN.hq (o.of_set (by decide)), fun o => let ⟨a, b⟩ := HN.h8 (o.of_set (by decide)); ⟨a.old, b⟩, fun o => (HN.h9 (o.of_set (by decide))).imp On.old id⟩
        refine StepsI.cons (i := 2) (ws := [1]) rfl (by kernel_rfl) (fun L a W hI hno hon hw K hK => ?_) ?_
        · obtain ⟨_, rfl, u40, u41, u42, u43, u44, u45, u46, u47, u48, u7, q40, q47, A8, c8, rfl, H⟩ := hI
          simp only [List.getElem_toArray, List.getElem_cons_zero, List.getElem_cons_succ]
          obtain rfl := H.h1 (hw 1 (by simp))
          simp only [frmL, Act.put, List.setIfInBounds_toArray, List.set_cons_zero, List.set_cons_succ]
          have p7 : ¬ (cb = 1) := by omega
          have p8 : (1 : Int) ≤ (m : Int) := by omega
          have p9 : (m : Int) ≤ (cb : Int) := by omega
          have p10 : 1 ≤ m := by omega
          have p11 : 1 ≤ cb := by omega
          go_simp
          have HN := H
          refine hK.out _ _ ⟨[u40, .slice (some ⟨bx, ox, none⟩) m cb, .slice (some ⟨bx, ox + 1, none⟩) (m - 1) (cb - 1), u43, u44, u45, u46, u47, u48, u7], ?_, u40, .slice (some ⟨bx, ox, none⟩) m cb, .slice (some ⟨bx, ox + 1, none⟩) (m - 1) (cb - 1), u43, u44, u45, u46, u47, u48, u7, q40, q47, A8, c8, rfl, ?_⟩
          · simp only [frmL, Act.put, List.setIfInBounds_toArray, List.set_cons_zero, List.set_cons_succ]
          · exact ⟨HN.bl, fun o => (HN.h0 (o.of_set (by decide))).imp On.old id, fun o => HN.h1 (o.of_set (by decide)), fun _ => rfl, fun o => let ⟨a, b⟩ := HN.h3 (o.of_set (by decide)); ⟨a.old, b.imp On.old id⟩, fun o => HN.h4 (o.of_set (by decide)), fun o => HN.h5 (o.of_set (by decide)), fun o => HN.h6 (o.of_set (by decide)), fun o => (HN.h7 (o.of_set (by decide))).imp On.old id, fun o o2 => HN.hne (o.of_set (by decide)) (o2.of_set (by decide)), fun o => HN.hq (o.of_set (by decide)), fun o => let ⟨a, b⟩ := HN.h8 (o.of_set (by decide)); ⟨a.old, b⟩, fun o => (HN.h9 (o.of_set (by decide))).imp On.old id⟩
        refine StepsI.cons (i := 3) (ws := [0, 2]) rfl (by kernel_rfl) (fun L a W hI hno hon hw K hK => ?_) ?_
        · obtain ⟨_, rfl, u40, u41, u42, u43, u44, u45, u46, u47, u48, u7, q40, q47, A8, c8, rfl, H⟩ := hI
          simp only [List.getElem_toArray, List.getElem_cons_zero, List.getElem_cons_succ]
          obtain ⟨e40, hq40, hox⟩ := (H.h0 (hw 0 (by simp))).resolve_left hno
          have e42 := H.h2 (hw 2 (by simp))
          simp only [frmL, Act.put, List.setIfInBounds_toArray, List.set_cons_zero, List.set_cons_succ]
          have HDR := Lib.hid (Ints.dropI (HX4.out.keep (Keep.below H.bl)) (k := 1) (by omega))
          have HDL : Hid (([] ++ ys.drop 1).length = m - 1) := Lib.hid (by rw [List.nil_append, List.length_drop, HL.out])
          rw [if_pos (by rfl)]
          refine wp_app_ints (.tmp 40) (.tmp 42) (by rfl) (by rfl) w4 (.slice (some ⟨q40, 0, none⟩) 0 0) [] (by exact e40) hox (some ⟨bx, ox + 1, none⟩) (m - 1) (cb - 1) (ys.drop 1) (by exact e42) HDR.out (by simp; omega) (m - 1) HDL.out ?_
          intro A3 c3 w9 hox3 hgr hat
          simp only [Act.put, List.setIfInBounds_toArray, List.set_cons_zero, List.set_cons_succ]
          have HN := H
          refine hK.out _ _ ⟨[u40, u41, u42, .slice A3 (m - 1) c3, u44, u45, u46, u47, u48, u7], ?_, u40, u41, u42, .slice A3 (m - 1) c3, u44, u45, u46, u47, u48, u7, q40, q47, A8, c8, rfl, ?_⟩
          · simp only [frmL, Act.put, List.setIfInBounds_toArray, List.set_cons_zero, List.set_cons_succ]
          · exact ⟨hox3.bl, fun _ => .inl hon, fun o => HN.h1 (o.of_set (by decide)), fun o => HN.h2 (o.of_set (by decide)), fun _ => ⟨(hw 0 (by simp)).old, .inr (by rw [← List.nil_append (ys.drop 1)]; exact hox3)⟩, fun o => HN.h4 (o.of_set (by decide)), fun o => HN.h5 (o.of_set (by decide)), fun o => HN.h6 (o.of_set (by decide)), fun o => (H.h7 (o.of_set (by decide))).imp On.old (fun ⟨a, b⟩ => ⟨a, (hgr.block _ (blk_lt b) (fun e => H.hne (hw 0 (by simp)) (o.of_set (by decide)) (Eq.symm (by simpa [Value.ownBlock] using e)))).trans b⟩), fun o o2 => HN.hne (o.of_set (by decide)) (o2.of_set (by decide)), fun o => Nat.lt_of_lt_of_le (H.hq (o.of_set (by decide))) hgr.size, fun o => absurd (H.h8 (o.of_set (by decide))).1 hno, fun o => (HN.h9 (o.of_set (by decide))).imp On.old id⟩
        refine StepsI.cons (i := 4) (ws := []) rfl (by kernel_rfl) (fun L a W hI hno hon hw K hK => ?_) ?_
        · obtain ⟨_, rfl, u40, u41, u42, u43, u44, u45, u46, u47, u48, u7, q40, q47, A8, c8, rfl, H⟩ := hI
          simp only [List.getElem_toArray, List.getElem_cons_zero, List.getElem_cons_succ]
          simp only [frmL, Act.put, List.setIfInBounds_toArray, List.set_cons_zero, List.set_cons_succ]
          go_simp
          have HN := H
          refine hK.out _ _ ⟨[u40, u41, u42, u43, .slice (some ⟨bx, ox, none⟩) m cb, u45, u46, u47, u48, u7], ?_, u40, u41, u42, u43, .slice (some ⟨bx, ox, none⟩) m cb, u45, u46, u47, u48, u7, q40, q47, A8, c8, rfl, ?_⟩
          · simp only [frmL, Act.put, List.setIfInBounds_toArray, List.set_cons_zero, List.set_cons_succ]
          · exact ⟨HN.bl, fun o => (HN.h0 (o.of_set (by decide))).imp On.old id, fun o => HN.h1 (o.of_set (by decide)), fun o => HN.h2 (o.of_set (by decide)), fun o => let ⟨a, b⟩ := HN.h3 (o.of_set (by decide)); ⟨a.old, b.imp On.old id⟩, fun _ => rfl, fun o => HN.h5 (o.of_set (by decide)), fun o => HN.h6 (o.of_set (by decide)), fun o => (HN.h7 (o.of_set (by decide))).imp On.old id, fun o o2 => HN.hne (o.of_set (by decide)) (o2.of_set (by decide)), fun o => HN.hq (o.of_set (by decide)), fun o => let ⟨a, b⟩ := HN.h8 (o.of_set (by decide)); ⟨a.old, b⟩, fun o => (HN.h9 (o.of_set (by decide))).imp On.old id⟩
        refine StepsI.cons (i := 5) (ws := [4]) rfl (by kernel_rfl) (fun L a W hI hno hon hw K hK => ?_) ?_
        · obtain ⟨_, rfl, u40, u41, u42, u43, u44, u45, u46, u47, u48, u7, q40, q47, A8, c8, rfl, H⟩ := hI
          simp only [List.getElem_toArray, List.getElem_cons_zero, List.getElem_cons_succ]
          obtain rfl := H.h4 (hw 4 (by simp))
          simp only [frmL, Act.put, List.setIfInBounds_toArray, List.set_cons_zero, List.set_cons_succ]
          have p8 : (0 : Int) < (m : Int) := by omega
          have p10 : 0 < m := by omega
          go_simp
          have HN := H
          refine hK.out _ _ ⟨[u40, u41, u42, u43, .slice (some ⟨bx, ox, none⟩) m cb, .pointer (some ⟨bx, ox, none⟩), u46, u47, u48, u7], ?_, u40, u41, u42, u43, .slice (some ⟨bx, ox, none⟩) m cb, .pointer (some ⟨bx, ox, none⟩), u46, u47, u48, u7, q40, q47, A8, c8, rfl, ?_⟩
          · simp only [frmL, Act.put, List.setIfInBounds_toArray, List.set_cons_zero, List.set_cons_succ]
          · exact ⟨HN.bl, fun o => (HN.h0 (o.of_set (by decide))).imp On.old id, fun o => HN.h1 (o.of_set (by decide)), fun o => HN.h2 (o.of_set (by decide)), fun o => let ⟨a, b⟩ := HN.h3 (o.of_set (by decide)); ⟨a.old, b.imp On.old id⟩, fun o => HN.h4 (o.of_set (by decide)), fun _ => rfl, fun o => HN.h6 (o.of_set (by decide)), fun o => (HN.h7 (o.of_set (by decide))).imp On.old id, fun o o2 => HN.hne (o.of_set (by decide)) (o2.of_set (by decide)), fun o => HN.hq (o.of_set (by decide)), fun o => let ⟨a, b⟩ := HN.h8 (o.of_set (by decide)); ⟨a.old, b⟩, fun o => (HN.h9 (o.of_set (by decide))).imp On.old id⟩
        refine StepsI.cons (i := 6) (ws := [5]) rfl (by kernel_rfl) (fun L a W hI hno hon hw K hK => ?_) ?_
        · obtain ⟨_, rfl, u40, u41, u42, u43, u44, u45, u46, u47, u48, u7, q40, q47, A8, c8, rfl, H⟩ := hI
          simp only [List.getElem_toArray, List.getElem_cons_zero, List.getElem_cons_succ]
          obtain rfl := H.h5 (hw 5 (by simp))
          simp only [frmL, Act.put, List.setIfInBounds_toArray, List.set_cons_zero, List.set_cons_succ]
          have c0 : W.cell? ⟨bx, ox, none⟩ = some (.int .i64 (gi ys 0)) := (Keep.below H.bl) _ _ HC0.out
          go_simp
          have HN := H
          refine hK.out _ _ ⟨[u40, u41, u42, u43, u44, .pointer (some ⟨bx, ox, none⟩), .int .i64 (gi ys 0), u47, u48, u7], ?_, u40, u41, u42, u43, u44, .pointer (some ⟨bx, ox, none⟩), .int .i64 (gi ys 0), u47, u48, u7, q40, q47, A8, c8, rfl, ?_⟩
          · simp only [frmL, Act.put, List.setIfInBounds_toArray, List.set_cons_zero, List.set_cons_succ]
          · exact ⟨HN.bl, fun o => (HN.h0 (o.of_set (by decide))).imp On.old id, fun o => HN.h1 (o.of_set (by decide)), fun o => HN.h2 (o.of_set (by decide)), fun o => let ⟨a, b⟩ := HN.h3 (o.of_set (by decide)); ⟨a.old, b.imp On.old id⟩, fun o => HN.h4 (o.of_set (by decide)), fun o => HN.h5 (o.of_set (by decide)), fun _ => rfl, fun o => (HN.h7 (o.of_set (by decide))).imp On.old id, fun o o2 => HN.hne (o.of_set (by decide)) (o2.of_set (by decide)), fun o => HN.hq (o.of_set (by decide)), fun o => let ⟨a, b⟩ := HN.h8 (o.of_set (by decide)); ⟨a.old, b⟩, fun o => (HN.h9 (o.of_set (by decide))).imp On.old id⟩
        refine StepsI.cons (i := 7) (ws := [6]) rfl (by kernel_rfl) (fun L a W hI hno hon hw K hK => ?_) ?_
        · obtain ⟨_, rfl, u40, u41, u42, u43, u44, u45, u46, u47, u48, u7, q40, q47, A8, c8, rfl, H⟩ := hI
          simp only [List.getElem_toArray, List.getElem_cons_zero, List.getElem_cons_succ]
          obtain rfl := H.h6 (hw 6 (by simp))
          simp only [frmL, Act.put, List.setIfInBounds_toArray, List.set_cons_zero, List.set_cons_succ]
          go_simp
          have HN := H.up (below_alloc W (.cells #[.int .i64 (gi ys 0)] 3))
          refine hK.out _ _ ⟨[u40, u41, u42, u43, u44, u45, .int .i64 (gi ys 0), .slice (some ⟨W.heap.size, 0, none⟩) 1 1, u48, u7], ?_, u40, u41, u42, u43, u44, u45, .int .i64 (gi ys 0), .slice (some ⟨W.heap.size, 0, none⟩) 1 1, u48, u7, q40, W.heap.size, A8, c8, rfl, ?_⟩
          · simp only [frmL, Act.put, List.setIfInBounds_toArray, List.set_cons_zero, List.set_cons_succ]
          · exact ⟨HN.bl, fun o => (HN.h0 (o.of_set (by decide))).imp On.old id, fun o => HN.h1 (o.of_set (by decide)), fun o => HN.h2 (o.of_set (by decide)), fun o => let ⟨a, b⟩ := HN.h3 (o.of_set (by decide)); ⟨a.old, b.imp On.old id⟩, fun o => HN.h4 (o.of_set (by decide)), fun o => HN.h5 (o.of_set (by decide)), fun o => HN.h6 (o.of_set (by decide)), fun _ => .inr ⟨rfl, blk_new W 3 #[iv (gi ys 0)]⟩, fun o _ => Nat.ne_of_lt (H.hq (o.of_set (by decide))), fun o => HN.hq (o.of_set (by decide)), fun o => let ⟨a, b⟩ := HN.h8 (o.of_set (by decide)); ⟨a.old, b⟩, fun o => (HN.h9 (o.of_set (by decide))).imp On.old id⟩
        refine StepsI.cons (i := 8) (ws := [3, 7, 3]) rfl (by kernel_rfl) (fun L a W hI hno hon hw K hK => ?_) ?_
        · obtain ⟨_, rfl, u40, u41, u42, u43, u44, u45, u46, u47, u48, u7, q40, q47, A8, c8, rfl, H⟩ := hI
          simp only [List.getElem_toArray, List.getElem_cons_zero, List.getElem_cons_succ]
          have hox := (H.h3 (hw 3 (by simp))).2.resolve_left hno
          obtain ⟨e47, hb47⟩ := (H.h7 (hw 7 (by simp))).resolve_left hno
          simp only [frmL, Act.put, List.setIfInBounds_toArray, List.set_cons_zero, List.set_cons_succ]
          have HI1 : Hid (Ints W (some ⟨q47, 0, none⟩) 1 1 [gi ys 0]) := Lib.hid (⟨rfl, Nat.le_refl _, by omega, fun y hy => by simp at hy; subst hy; have := HY0.out; omega, fun _ => ⟨q47, 0, rfl, fun k hk => by
            obtain rfl : k = 0 := by omega
            exact blk_cell hb47 rfl⟩⟩)
          have HDL : Hid ((ys.drop 1 ++ [gi ys 0]).length = m) := Lib.hid (by rw [List.length_append, List.length_drop, HL.out]; simp; omega)
          rw [if_pos (by rfl)]
          refine wp_app_ints (.tmp 43) (.tmp 47) (by rfl) (by rfl) w4 u43 (ys.drop 1) (by rfl) hox (some ⟨q47, 0, none⟩) 1 1 [gi ys 0] (by exact e47) HI1.out (by rw [List.length_drop, HL.out]; omega) m HDL.out ?_
          intro A9 c9 w9 hox8 hgr hat
          simp only [Act.put, List.setIfInBounds_toArray, List.set_cons_zero, List.set_cons_succ]
          have HN := H
          refine hK.out _ _ ⟨[u40, u41, u42, u43, u44, u45, u46, u47, .slice A9 m c9, u7], ?_, u40, u41, u42, u43, u44, u45, u46, u47, .slice A9 m c9, u7, q40, q47, A9, c9, rfl, ?_⟩
          · simp only [frmL, Act.put, List.setIfInBounds_toArray, List.set_cons_zero, List.set_cons_succ]
          · exact ⟨hox8.bl, fun _ => .inl (hw 3 (by simp)).old, fun o => HN.h1 (o.of_set (by decide)), fun o => HN.h2 (o.of_set (by decide)), fun _ => ⟨(H.h3 (hw 3 (by simp))).1.old, .inl hon⟩, fun o => HN.h4 (o.of_set (by decide)), fun o => HN.h5 (o.of_set (by decide)), fun o => HN.h6 (o.of_set (by decide)), fun _ => .inl hon, fun o o2 => HN.hne (o.of_set (by decide)) (o2.of_set (by decide)), fun o => Nat.lt_of_lt_of_le (H.hq (o.of_set (by decide))) hgr.size, fun _ => ⟨(hw 3 (by simp)).old, rfl, hox8⟩, fun o => absurd (H.h9 (o.of_set (by decide))).1 hno⟩
        refine StepsI.cons (i := 9) (ws := [8, 8, 0, 1, 2, 3, 4, 5, 6, 7, 8]) rfl (by kernel_rfl) (fun L a W hI hno hon hw K hK => ?_) ?_
        · obtain ⟨_, rfl, u40, u41, u42, u43, u44, u45, u46, u47, u48, u7, q40, q47, A8, c8, rfl, H⟩ := hI
          simp only [List.getElem_toArray, List.getElem_cons_zero, List.getElem_cons_succ]
          simp only [frmL, Act.put, List.setIfInBounds_toArray, List.set_cons_zero, List.set_cons_succ]
          go_simp
          have HN := H
          refine hK.out _ _ ⟨[u40, u41, u42, u43, u44, u45, u46, u47, u48, u48], ?_, u40, u41, u42, u43, u44, u45, u46, u47, u48, u48, q40, q47, A8, c8, rfl, ?_⟩
          · simp only [frmL, Act.put, List.setIfInBounds_toArray, List.set_cons_zero, List.set_cons_succ]
          · exact ⟨HN.bl, fun o => (HN.h0 (o.of_set (by decide))).imp On.old id, fun o => HN.h1 (o.of_set (by decide)), fun o => HN.h2 (o.of_set (by decide)), fun o => let ⟨a, b⟩ := HN.h3 (o.of_set (by decide)); ⟨a.old, b.imp On.old id⟩, fun o => HN.h4 (o.of_set (by decide)), fun o => HN.h5 (o.of_set (by decide)), fun o => HN.h6 (o.of_set (by decide)), fun o => (HN.h7 (o.of_set (by decide))).imp On.old id, fun o o2 => HN.hne (o.of_set (by decide)) (o2.of_set (by decide)), fun o => HN.hq (o.of_set (by decide)), fun o => let ⟨a, b⟩ := HN.h8 (o.of_set (by decide)); ⟨a.old, b⟩, fun _ => ⟨(hw 8 (by simp)).old, rfl⟩⟩
        exact StepsI.nil
      · rintro L us W hL ⟨u40, u41, u42, u43, u44, u45, u46, u47, u48, u7, q40, q47, A8, c8, rfl, H⟩
        obtain ⟨o8, e48, hox⟩ := H.h8 (hL 8 (by simp))
        obtain ⟨-, e7⟩ := H.h9 (hL 9 (by simp))
        subst e7
        subst e48
        have hb := H.bl
        have HN5 := Lib.hid (show Ints W A8 m c8 (nxt ys) from by have h := hox; rw [← HNL.out] at h ⊢; exact h.ints (by rw [HNL.out]; omega) (fun y hy => by have := HYB.out y (by unfold nxt at hy; rcases List.mem_append.1 hy with hy | hy; exact List.mem_of_mem_drop hy; simp at hy; subst hy; exact gi_mem (by rw [HL.out]; omega)); omega))
        clear hox o8 H hL
        have HA_5 := Lib.hid (HA_4.out.keep (Keep.below hb))
        have HX_5 := Lib.hid (HX_4.out.keep (Keep.below hb))
        have HO_5 := Lib.hid (HO_4.out.keep (Keep.below hb))
        have B_5 := Lib.hid (below_up B_4.out hb)
        clear hb HX4 HC0 HA_4 HX_4 HO_4 B_4
        simp only [frmL, Act.put, List.setIfInBounds_toArray, List.set_cons_zero, List.set_cons_succ]
        have HC := Lib.hid (CopyRing_impl Av k cv xss _ m c8 (nxt ys) W HA_5.out HN5.out)
        go_wp2_with fail
        refine HC.out.mono ?_
        rintro e w6 ⟨A6, n6, c6, g6, rfl, hn6, ho6, hb⟩
        have HA_6 := Lib.hid (HA_5.out.keep (Keep.below hb))
        have HX_6 := Lib.hid (HX_5.out.keep (Keep.below hb))
        have HO_6 := Lib.hid (HO_5.out.keep (Keep.below hb))
        have HN5_6 := Lib.hid (HN5.out.keep (Keep.below hb))
        have B_6 := Lib.hid (below_up B_5.out hb)
        obtain rfl : m = n6 := (hn6.trans HTL.out).symm
        have HT := Lib.hid ho6.ints
        clear hn6 ho6
        clear hb HC HA_5 HX_5 HO_5 HN5 B_5
        clear HN5_6
        obtain ⟨b2, o2, rfl, hc2⟩ := HO_6.out.at_ (by omega)
        obtain ⟨b6, o6, rfl, hc6⟩ := HT.out.at_ (by omega)
        have HC2 := Lib.hid hc2
        have HC6 := Lib.hid (fun j (hj : j < m) => show w6.cell? ⟨b6, o6 + j, none⟩ = some (.int .i64 (gi (cpF xss ys) (rr m j))) from by rw [← HTN.out j hj]; exact hc6 j hj)
        have HCX : Hid (w6.cell? ⟨bx, ox, none⟩ = some (.int .i64 (gi ys 0))) := Lib.hid (by obtain ⟨b', o', e', hc'⟩ := HX_6.out.at_ (by omega); injection e' with e'; injection e' with e1 e2 _; subst e1; subst e2; exact hc' 0 (by omega))
        have HU0 := Lib.hid (IU.start w6)
        clear hc2 hc6
        go_wp2
        go_loopw [9, 10] (fun v i wr => ∃ j : Nat, j ≤ m ∧ i = .int .i64 j ∧ Hid (IU w6 v (rpl ys j) wr)) (fun _ i _ => m - (intOf i).toNat)
        case atStart => exact ⟨0, Nat.zero_le _, rfl, HU0⟩
        case round =>
          clear HU0
          obtain ⟨j, hj, rfl, HI⟩ := hrel
          obtain ⟨As, cs, rfl⟩ := HI.out.bi.form
          have HRL : Hid ((rpl ys j).length = j) := Lib.hid (rpl_len _ _)
          have HWX := Lib.hid (HX_6.out.keep (Keep.below HI.out.up))
          by_cases hlt : j < m
          · have t1 : ((j : Int) + 1).tmod (m : Int) = ((rr m j : Nat) : Int) := by have := tmod_nat (j + 1) m; rw [Int.natCast_add] at this; exact this
            have hr := rr_lt (n := m) (i := j) (by omega)
            have q1 := Keep.below HI.out.up _ _ (HC2.out j hlt)
            have q2 := Keep.below HI.out.up _ _ (HC2.out (rr m j) hr)
            have q3 := Keep.below HI.out.up _ _ (HC6.out j hlt)
            have q4 := Keep.below HI.out.up _ _ HCX.out
            have QX := Lib.hid (fun W (q : Quiet wr W) => pb_true (HIN.out j hlt) ▸ isIn_any _ _ _ ys (gi (cpF xss ys) j) W (HWX.out.keep (Keep.quiet q)))
            have HNX := Lib.hid (rpl_succ ys j)
            generalize gi (cpF xss ys) j = oj at *
            generalize gi (cpF xss ys) (rr m j) = ok at *
            generalize rr m j = r at *
            generalize hgx : gi ys 0 = gx at *
            have HGX := Lib.hid hgx
            clear hgx
            generalize hys : rpl ys j = zs at *
            have HZS := Lib.hid hys
            clear hys
            have HIM := Lib.hid (fun m => HI.out.next (Quiet.below (B := wr.heap.size) ⟨m, rfl⟩))
            have hwz := HI.out.up.size
            clear HI HWX
            go_wp2
            go_quiet ((go_at_call 32; (with_reducible refine quiet_fit (QX.out _ ?_) (fun m => ?_)); exact ⟨_, rfl⟩; exact drewN_to1 _ _ _))
            go_wp2_with (at_builtin; refine wpList_append_own_at _ rfl _ _ 30 rfl w6.heap.size 3 i0 (.int .i64 0) 1 8 Try.underlying30 hi0 hz0 hz1 hz2 rfl (by decide) _ zs.length (zs.map iv) rfl ((HIM.out _).bi.below (below_alloc _ _)).own ⟨wr.heap.size, 0, none⟩ 1 1 [iv gx] rfl rfl ?c1 ?c2 ?c3 ?c4 ?c5 ?_)
            case c1 => exact cell_one_new _ _ _
            case c2 => intro u hu; simp at hu; subst hu; rfl
            case c3 => have := HRL.out; unfold maxLen; omega
            case c4 => have := HRL.out; omega
            case c5 => have := HRL.out; simp; omega
            intro v' w9 hown' hgrow _ hat
            have HI5 := Lib.hid ((HIM.out _).push hown' hgrow (by simpa using hat))
            clear hown' hgrow hat HIM q1 q2 q3 q4
            go_wp2
            go_roundw
            case rel => exact ⟨j + 1, by omega, by go_num, Lib.hid (by rw [HNX.out]; exact HI5.out)⟩
            case measure => simp [intOf]; omega
          · obtain rfl : m = j := by omega
            have HNW := Lib.hid (HI.out.new (by rw [rpl_len]; omega) (fun y hy => by unfold rpl at hy; have := List.eq_of_mem_replicate hy; subst this; have := HY0.out; omega))
            obtain ⟨A7, n7, c7, g7, e7, hn7, ho7, hb7⟩ := HNW.out
            injection e7 with e7
            injection e7 with e1 e2 e3
            subst e1
            subst e3
            subst e2
            have HZ := Lib.hid (show Ints wr As m cs (rpl ys m) from by have h := ho7.ints; rw [HRL.out] at h; exact h)
            have HC := Lib.hid (CopyRing_impl Av k cv xss As m cs (rpl ys m) wr (HA_6.out.keep (Keep.below HI.out.up)) HZ.out)
            rw [HSM.out] at HC
            have BB := Lib.hid (below_up B_6.out HI.out.up)
            clear HI HNW hn7 ho7 hb7 HWX
            rw [HRL.out]
            go_wp2_with fail
            refine HC.out.mono ?_
            rintro e w10 ⟨A9, n9, c9, g9, rfl, hn9, ho9, hb⟩
            obtain rfl : m = n9 := (hn9.trans HRL.out).symm
            have HCE := Lib.hid (equalInts_any _ _ _ _ _ _ (rpl ys m) (rpl ys m) w10 ho9.ints (HZ.out.keep (Keep.below hb)))
            rw [eqI_slf] at HCE
            have BB2 := Lib.hid (below_up BB.out hb)
            clear hb hn9 ho9 HC HZ BB
            go_wp2_with fail
            refine HCE.out.mono ?_
            rintro e w11 ⟨rfl, hq⟩
            have BB3 := Lib.hid (below_up BB2.out (hq.below (B := w10.heap.size)))
            clear hq HCE BB2
            go_wp2
            go_ret
            exact ⟨rfl, BB3.out⟩
    · have HF := Lib.hid (cpF_no hr)
      have HX := Lib.hid hin
      clear hr hin
      have HC := Lib.hid (CopyRing_impl Av k cv xss _ m cb ys w1 HA.out HX.out)
      rw [HF.out] at HC
      go_wp2_with fail
      refine HC.out.mono ?_
      rintro e w2 ⟨A2, n2, c2, g2, rfl, hn2, ho2, hb⟩
      have HA_2 := Lib.hid (HA.out.keep (Keep.below hb))
      have HX_2 := Lib.hid (HX.out.keep (Keep.below hb))
      have B_2 := Lib.hid (below_up B1.out hb)
      obtain rfl : 0 = n2 := hn2.symm
      have HO := Lib.hid ho2.ints
      clear hn2 ho2
      clear hb HC HA HX B1
      have HC := Lib.hid (CopyRing_spec Av k cv xss _ m cb ys w2 HA_2.out HX_2.out)
      rw [HF.out] at HC
      go_wp2_with fail
      refine HC.out.mono ?_
      rintro e w3 ⟨A3, n3, c3, g3, rfl, hn3, ho3, hb⟩
      have HA_3 := Lib.hid (HA_2.out.keep (Keep.below hb))
      have HX_3 := Lib.hid (HX_2.out.keep (Keep.below hb))
      have HO_3 := Lib.hid (HO.out.keep (Keep.below hb))
      have B_3 := Lib.hid (below_up B_2.out hb)
      obtain rfl : 0 = n3 := hn3.symm
      have HS := Lib.hid ho3.ints
      clear hn3 ho3
      clear hb HC HA_2 HX_2 HO B_2
      have HC := Lib.hid (equalInts_any _ _ _ _ _ _ [] [] w3 HO_3.out HS.out)
      rw [eqI_slf] at HC
      go_wp2_with fail
      refine HC.out.mono ?_
      rintro e w4 ⟨rfl, hq⟩
      have hb := hq.below (B := w3.heap.size)
      have HA_4 := Lib.hid (HA_3.out.keep (Keep.below hb))
      have HX_4 := Lib.hid (HX_3.out.keep (Keep.below hb))
      have HO_4 := Lib.hid (HO_3.out.keep (Keep.below hb))
      have HS_4 := Lib.hid (HS.out.keep (Keep.below hb))
      have B_4 := Lib.hid (below_up B_3.out hb)
      clear hb HC hq HA_3 HX_3 HO_3 HS B_3
      clear HS_4
      have HC := Lib.hid (CopyRing_spec Av k cv xss _ m cb ys w4 HA_4.out HX_4.out)
      rw [HF.out] at HC
      go_wp2_with fail
      refine HC.out.mono ?_
      rintro e w5 ⟨A4, n4, c4, g4, rfl, hn4, ho4, hb⟩
      have HA_5 := Lib.hid (HA_4.out.keep (Keep.below hb))
      have HX_5 := Lib.hid (HX_4.out.keep (Keep.below hb))
      have HO_5 := Lib.hid (HO_4.out.keep (Keep.below hb))
      have B_5 := Lib.hid (below_up B_4.out hb)
      obtain rfl : 0 = n4 := hn4.symm
      have HS := Lib.hid ho4.ints
      clear hn4 ho4
      clear hb HC HA_4 HX_4 HO_4 B_4
      have HC := Lib.hid (equalInts_any _ _ _ _ _ _ [] [] w5 HO_5.out HS.out)
      rw [eqI_slf] at HC
      go_wp2_with fail
      refine HC.out.mono ?_
      rintro e w6 ⟨rfl, hq⟩
      have hb := hq.below (B := w5.heap.size)
      have HA_6 := Lib.hid (HA_5.out.keep (Keep.below hb))
      have HX_6 := Lib.hid (HX_5.out.keep (Keep.below hb))
      have HO_6 := Lib.hid (HO_5.out.keep (Keep.below hb))
      have HS_6 := Lib.hid (HS.out.keep (Keep.below hb))
      have B_6 := Lib.hid (below_up B_5.out hb)
      clear hb HC hq HA_5 HX_5 HO_5 HS B_5
      go_wp2
      go_ret
      exact ⟨rfl, B_6.out⟩

set_option maxRecDepth 100000 in
theorem hFnCopyRing_lifted (os : Os) (started : os.Started) (H : Type) (enc : TypeId × Value → H) :
    ReturnsInHanded {} Try.checked os 7 .any (Rows.fnCopyRingSpec.pre6 enc Try.prog Try.f7 Rows.fnCopyRingRow.domain false) (Rows.fnCopyRingSpec.post enc Try.prog Try.f7 false true false false) := by
  refine returnsInHanded_of_change_sized (C := Try.checked) Try.own started (by kernel_rfl) Try.func7
    (ChangeSpec.witness6 (enc := enc) (C := Try.checked) false ⟨#[], #[.slice none 0 0], []⟩ 8 (by kernel_rfl) (by kernel_rfl) (by kernel_rfl) (by kernel_rfl)) ?_
  intro W base args ds gs before hval0 hW _ hwt _
  have hval : ∀ (j : Nat) t v, Try.f7.params[j]? = some t → args[j]? = some v → Value.okWide Try.prog W .any base t v := hval0
  have hA : ∃ p, DataW.TrodAll enc Try.prog W 0 (fun _ => true) true Try.f7.params.toList args.toList ds p := by obtain ⟨p, q, hA0, _⟩ := hW; exact ⟨p, hA0⟩
  obtain ⟨p, hA⟩ := hA
  have hwt' := weights_arg hwt (j := 0) (t := 22) (by rw [Try.params7]; rfl) (d := ds.getD 0 .nil)
  rw [Try.params7] at hA hval
  obtain ⟨v0, d0, rfl, rfl, h0⟩ := trodAll_one hA
  obtain ⟨A, n, c, rfl, hx⟩ := open_bytes (hval 0 22 v0 rfl rfl) h0 (hwt' rfl)
  refine (fnCopyRing_calls A n c W hx).mono fun e W' ⟨he, hb⟩ => ?_
  subst he
  exact ⟨_, rfl, law_post (F := Try.f7) rfl rfl (by rw [Try.params7]; simp only [List.mem_cons, List.not_mem_nil, or_false, forall_eq]; exact ⟨by kernel_rfl, of_decide_eq_true (by kernel_rfl)⟩) hW (fun h => by subst h; rfl) hb⟩

theorem hFnCopyRing_holds : Rows.FnCopyRingSaid :=
  OpenClaim.holds_of_wide 7 Try.f7 rfl rfl rfl rfl rfl rfl rfl ⟨rfl, rfl, rfl, rfl, rfl⟩ rfl rfl rfl rfl rfl (by kernel_rfl) Try.func7
    (by unfold joinedFacts; simp only [Bool.and_eq_true]; (repeat' apply And.intro) <;> (first | (with_reducible exact prog_enters) | ((with_reducible refine prog_lifts ?_); rfl) | ((with_reducible refine prog_make ?_); rfl) | kernel_rfl))
    (of_decide_eq_true (by kernel_rfl)) (by unfold Func.isWrapper; first | (rw [if_pos (by decide +kernel)]; kernel_rfl) | (rw [if_neg (by decide +kernel)]; exact ⟨rfl, rfl⟩))
    (fun os started H enc _ => hFnCopyRing_lifted os started H enc)

end Go.Proofs.Ytjkmgpiiamffgaa
