/- The law FnValidGraph holds: for every code, of what it draws, the program tells graphs as the model does, and where there is one, that of all ways is one. No condition. -/
import Derived.Test.YtnbkifpmoegaaaaQ13
namespace Go.Proofs.Ytnbkifpmoegaaaa
open Go.ChangeShapes Go.WideShapes Go.ChangeAt Go.RowKit Go.Deep

set_option maxRecDepth 100000 in
set_option maxHeartbeats 3200000 in
theorem fnValidGraph_calls (A : Option Addr) (n c : Nat) (w : World) (hx : Bytes w A n c) :
    Calls Try.prog 3 #[.slice A n c] w fun e w' => e = .returned (.bool true) ∧ Below w.heap.size w w' := by
  have hmx := hx.max
  have H0 := Lib.hid (DrawValidGraph_any A n c w hx)
  clear hx
  by_cases hs : 1048576 < n
  · go_enter Try.func3, Try.ntmps3
    go_wp2
    go_ret
    exact ⟨rfl, Below.refl _ _⟩
  · go_enter Try.func3, Try.ntmps3
    go_wp2_with fail
    refine H0.out.mono ?_
    rintro e w1 ⟨Av, k, cv, ys, rfl, hk5, hb32, hxy, hb⟩
    have HX := Lib.hid hxy
    have B1 := Lib.hid hb
    have HL := Lib.hid hxy.len
    clear hb32 hxy hb H0
    by_cases hg : GR ys
    · have HI := Lib.hid (pb_true hg ▸ ValidGraph_impl Av k cv ys w1 HX.out)
      have HS := Lib.hid (fun W q => pb_true hg ▸ ValidGraph_spec Av k cv ys W q)
      have hk2 : 2 ≤ k := by rw [← HL.out]; exact hg.b.n2
      have HK := Lib.hid (fun A n c W q => pb_true (GR_kL hk2 hk5) ▸ ValidGraph_impl A n c (kL k) W q)
      have HPW := Lib.hid (fun v (hv : v ≤ 5) W => lpower_any v W (by omega))
      have HPB := Lib.hid (fun v (hv : v ≤ 5) => show 1 ≤ pwF v ∧ pwF v ≤ 32 by rw [pw5 v (by omega)]; exact pow_bd5 v (by omega))
      have HKV := Lib.hid (fun v => show kV k v = pwF k - 1 - pwF v from rfl)
      obtain ⟨i0, hi0, hz0, hz1, hz2⟩ := info_parts Try.info_int
      clear hg
      go_wp2_with fail
      refine HI.out.mono ?_
      rintro e w2 ⟨rfl, hb⟩
      have B2 := Lib.hid (below_up B1.out hb)
      have HX2 := Lib.hid (HX.out.keep (Keep.below hb))
      have HS2 := Lib.hid (HS.out w2 HX2.out)
      clear hb B1 HX HI HS
      go_wp2_with fail
      refine HS2.out.mono ?_
      rintro e w3 ⟨rfl, hq⟩
      have B3 := Lib.hid (below_quiet B2.out hq)
      clear hq B2 HX2 HS2
      have HU0 := Lib.hid (show IU w3 (.slice (some ⟨w3.heap.size, 0, none⟩) 0 0) ((List.range 0).map (kV k)) (w3.alloc (.cells #[] 3)) from IU.start w3)
      go_wp2
      go_loopw [5, 6] (fun v i wr => ∃ j : Nat, j ≤ k ∧ i = .int .i64 j ∧ Hid (IU w3 v ((List.range j).map (kV k)) wr)) (fun _ i _ => k - (intOf i).toNat)
      case atStart => exact ⟨0, Nat.zero_le _, rfl, HU0⟩
      case round =>
        clear HU0
        obtain ⟨j, hj, rfl, HU⟩ := hrel
        obtain ⟨Au, cu, rfl⟩ := HU.out.bi.form
        by_cases hlt : j < k
        · have HP1 := Lib.hid (HPW.out k hk5)
          have HP2 := Lib.hid (HPW.out j (by omega))
          obtain ⟨p1, p2⟩ := HPB.out k hk5
          obtain ⟨p3, p4⟩ := HPB.out j (by omega)
          have hkv := HKV.out j
          have HKE := Lib.hid hkv
          have HNX := Lib.hid (show (List.range (j + 1)).map (kV k) = (List.range j).map (kV k) ++ [kV k j] by simp [List.range_succ])
          have HYL : Hid (((List.range j).map (kV k)).length = j) := Lib.hid (by simp)
          have hb := below_alloc wr (.cells #[iv (kV k j)] 3)
          have HB4 := Lib.hid (HU.out.bi.below hb).own
          have HN := Lib.hid (cell_one_new wr (iv (kV k j)) 3)
          have hwz := HU.out.up.size
          clear hb hkv
          generalize (List.range j).map (kV k) = ys2 at *
          rw [HKE.out] at HN HNX
          generalize pwF k = P at *
          generalize pwF j = Q at *
          go_wp2_with (first
            | (go_at_call 15; (with_reducible refine (HP1.out _).mono ?_); rintro e w' ⟨rfl, rfl⟩)
            | (go_at_call 15; (with_reducible refine (HP2.out _).mono ?_); rintro e w' ⟨rfl, rfl⟩)
            | (at_builtin; refine wpList_append_own_at _ rfl _ _ 23 rfl w3.heap.size 3 i0 (.int .i64 0) 1 8 Try.underlying23 hi0 hz0 hz1 hz2 rfl (by decide) _ ys2.length (ys2.map iv) rfl (HKE.out ▸ HB4.out) ⟨wr.heap.size, 0, none⟩ 1 1 [iv (P - 1 - Q)] rfl rfl ?c1 ?c2 ?c3 ?c4 ?c5 ?_))
          case c1 => exact HN.out
          case c2 => intro u hu; simp at hu; subst hu; rfl
          case c3 => have := HYL.out; unfold maxLen; omega
          case c4 => have := HYL.out; omega
          case c5 => simp; omega
          intro v' w5 hown' hgrow _ hat
          have HU5 := Lib.hid (HU.out.push hown' hgrow (by simpa using hat))
          clear HB4 HN hown' hgrow hat HU
          go_wp2
          go_roundw
          case rel => exact ⟨j + 1, by omega, by go_num, Lib.hid (by rw [HNX.out]; exact HU5.out)⟩
          case measure => simp [intOf]; omega
        · obtain rfl : j = k := by omega
          have HLN : Hid (((List.range j).map (kV j)).length = j) := Lib.hid (by simp)
          obtain ⟨A', n', c', gg, e', hn', ho, _⟩ := HU.out.bi.owns (by rw [HLN.out]; omega) (fun t ht => by
            obtain ⟨i, hi, rfl⟩ := List.mem_map.1 ht
            have := HPB.out j hk5; have h2 := HPB.out i (by have := List.mem_range.1 hi; omega); unfold kV; omega)
          have HKI := Lib.hid (HK.out A' n' c' wr ho.ints)
          injection e' with e1 e2 e3
          have HEQ := Lib.hid (And.intro e1 (And.intro e2 e3))
          clear e1 e2 e3 ho hn'
          rw [← HEQ.out.1, ← HEQ.out.2.1, ← HEQ.out.2.2, HLN.out] at HKI
          clear HEQ
          have B5 := Lib.hid (below_up B3.out HU.out.up)
          clear HU B3
          go_wp2_with fail
          refine HKI.out.mono ?_
          rintro e w6 ⟨rfl, hb⟩
          have B6 := Lib.hid (below_up B5.out hb)
          clear hb HKI
          go_wp2
          go_ret
          exact ⟨rfl, B6.out⟩
    · have HI := Lib.hid (pb_false hg ▸ ValidGraph_impl Av k cv ys w1 HX.out)
      have HS := Lib.hid (fun W q => pb_false hg ▸ ValidGraph_spec Av k cv ys W q)
      clear hg
      go_wp2_with fail
      refine HI.out.mono ?_
      rintro e w2 ⟨rfl, hb⟩
      have B2 := Lib.hid (below_up B1.out hb)
      have HX2 := Lib.hid (HX.out.keep (Keep.below hb))
      have HS2 := Lib.hid (HS.out w2 HX2.out)
      clear hb B1 HX HI
      go_wp2_with fail
      refine HS2.out.mono ?_
      rintro e w3 ⟨rfl, hq⟩
      have B3 := Lib.hid (below_quiet B2.out hq)
      have HS3 := Lib.hid (HS.out w3 (HX2.out.keep (Keep.quiet hq)))
      clear hq B2 HX2 HS2 HS
      go_wp2_with fail
      refine HS3.out.mono ?_
      rintro e w4 ⟨rfl, hq⟩
      have B4 := Lib.hid (below_quiet B3.out hq)
      clear hq B3 HS3
      go_wp2
      go_ret
      exact ⟨rfl, B4.out⟩

set_option maxRecDepth 100000 in
theorem hFnValidGraph_lifted (os : Os) (started : os.Started) (H : Type) (enc : TypeId × Value → H) :
    ReturnsInHanded {} Try.checked os 3 .any (Rows.fnValidGraphSpec.pre6 enc Try.prog Try.f3 Rows.fnValidGraphRow.domain false) (Rows.fnValidGraphSpec.post enc Try.prog Try.f3 false true false false) := by
  refine returnsInHanded_of_change_sized (C := Try.checked) Try.own started (by kernel_rfl) Try.func3
    (ChangeSpec.witness6 (enc := enc) (C := Try.checked) false ⟨#[], #[.slice none 0 0], []⟩ 8 (by kernel_rfl) (by kernel_rfl) (by kernel_rfl) (by kernel_rfl)) ?_
  intro W base args ds gs before hval0 hW _ hwt _
  have hval : ∀ (j : Nat) t v, Try.f3.params[j]? = some t → args[j]? = some v → Value.okWide Try.prog W .any base t v := hval0
  have hA : ∃ p, DataW.TrodAll enc Try.prog W 0 (fun _ => true) true Try.f3.params.toList args.toList ds p := by obtain ⟨p, q, hA0, _⟩ := hW; exact ⟨p, hA0⟩
  obtain ⟨p, hA⟩ := hA
  have hwt' := weights_arg hwt (j := 0) (t := 22) (by rw [Try.params3]; rfl) (d := ds.getD 0 .nil)
  rw [Try.params3] at hA hval
  obtain ⟨v0, d0, rfl, rfl, h0⟩ := trodAll_one hA
  obtain ⟨A, n, c, rfl, hx⟩ := open_bytes (hval 0 22 v0 rfl rfl) h0 (hwt' rfl)
  refine (fnValidGraph_calls A n c W hx).mono fun e W' ⟨he, hb⟩ => ?_
  subst he
  exact ⟨_, rfl, law_post (F := Try.f3) rfl rfl (by rw [Try.params3]; simp only [List.mem_cons, List.not_mem_nil, or_false, forall_eq]; exact ⟨by kernel_rfl, of_decide_eq_true (by kernel_rfl)⟩) hW (fun h => by subst h; rfl) hb⟩

theorem hFnValidGraph_holds : Rows.FnValidGraphSaid :=
  OpenClaim.holds_of_wide 3 Try.f3 rfl rfl rfl rfl rfl rfl rfl ⟨rfl, rfl, rfl, rfl, rfl⟩ rfl rfl rfl rfl rfl (by kernel_rfl) Try.func3
    (by unfold joinedFacts; simp only [Bool.and_eq_true]; (repeat' apply And.intro) <;> (first | (with_reducible exact prog_enters) | ((with_reducible refine prog_lifts ?_); rfl) | ((with_reducible refine prog_make ?_); rfl) | kernel_rfl))
    (of_decide_eq_true (by kernel_rfl)) (by unfold Func.isWrapper; first | (rw [if_pos (by decide +kernel)]; kernel_rfl) | (rw [if_neg (by decide +kernel)]; exact ⟨rfl, rfl⟩))
    (fun os started H enc _ => hFnValidGraph_lifted os started H enc)

end Go.Proofs.Ytnbkifpmoegaaaa
