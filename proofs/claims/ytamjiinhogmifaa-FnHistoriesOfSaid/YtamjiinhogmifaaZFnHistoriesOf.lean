/- The law FnHistoriesOf holds: for every code, of the number that it draws, the program tells how many histories there are as the model does, of one line one, and of one line more as many times more as there are pairs. No condition. -/
import Derived.Test.YtamjiinhogmifaaQ10
namespace Go.Proofs.Ytamjiinhogmifaa
open Go.ChangeShapes Go.WideShapes Go.ChangeAt Go.RowKit Go.Deep
theorem hs_fit : ∀ k, k ≤ 8 → -9223372036854775808 ≤ hsN k ∧ hsN k ≤ 10000000 := by decide +kernel
theorem hs_facts {n : Nat} (h1 : 1 ≤ n) (h7 : n ≤ 7) : 1 ≤ hsN n ∧ hsN n ≤ 100000 ∧ (n = 1 → hsN n = 1) ∧ hsN (n + 1) = hsN n * (n : Int) * ((n : Int) + 1) / 2 := by
  have hk : n = 1 ∨ n = 2 ∨ n = 3 ∨ n = 4 ∨ n = 5 ∨ n = 6 ∨ n = 7 := by omega
  rcases hk with rfl | rfl | rfl | rfl | rfl | rfl | rfl <;> decide +kernel

set_option maxRecDepth 100000 in
set_option maxHeartbeats 3200000 in
theorem fnHistoriesOf_calls (A : Option Addr) (n c : Nat) (w : World) (hx : Bytes w A n c) :
    Calls Try.prog 6 #[.slice A n c] w fun e w' => e = .returned (.bool true) ∧ Below w.heap.size w w' := by
  have hmx := hx.max
  have H0 := Lib.hid (DrawHistoriesOf_any A n c w hx)
  clear hx
  by_cases hs : 1048576 < n
  · go_enter Try.func6, Try.ntmps6
    go_wp2
    go_ret
    exact ⟨rfl, Below.refl _ _⟩
  · go_enter Try.func6, Try.ntmps6
    go_wp2_with fail
    refine H0.out.mono ?_
    rintro e w1 ⟨n, rfl, ⟨n1, n2⟩, hb⟩
    have B1 := Lib.hid hb
    clear hb H0
    have HCI := Lib.hid (fun W => HistoriesOf_impl n W (by unfold Fit; omega))
    have HCS := Lib.hid (fun W => HistoriesOf_spec n W (by unfold Fit; omega))
    have HCM := Lib.hid (fun W => HistoriesOf_impl (n + 1) W (by unfold Fit; omega))
    by_cases hn : InR n 1 7
    · obtain ⟨n, rfl⟩ : ∃ k : Nat, n = (k : Int) := ⟨n.toNat, by omega⟩
      rw [hs_yes hn] at HCI HCS
      have hn1 : 1 ≤ n := by unfold InR at hn; omega
      have hn7 : n ≤ 7 := by unfold InR at hn; omega
      obtain ⟨p1, p2, p3, p4⟩ := hs_facts hn1 hn7
      clear hn
      by_cases h7 : n = 7
      · subst h7
        rw [show hsV (((7 : Nat) : Int) + 1) = -1 from hs_no (by unfold InR; omega)] at HCM
        clear p3 p4 hn1 hn7
        generalize hsN 7 = v at *
        go_wp2_with fail
        refine (HCI.out _).mono ?_
        rintro e w2 ⟨rfl, hb⟩
        have B2 := Lib.hid (below_up B1.out hb)
        clear hb HCI
        go_wp2_with fail
        refine (HCS.out _).mono ?_
        rintro e w3 ⟨rfl, hb⟩
        have B3 := Lib.hid (below_up B2.out hb)
        clear hb B2 HCS
        go_wp2_with fail
        refine (HCM.out _).mono ?_
        rintro e w4 ⟨rfl, hb⟩
        have B4 := Lib.hid (below_up B3.out hb)
        clear hb B3
        go_wp2
        go_ret
        exact ⟨rfl, B4.out⟩
      · have HQ := Lib.hid (show InR ((n : Int) + 1) 1 7 by unfold InR; omega)
        rw [show hsV ((n : Int) + 1) = hsN (n + 1) from by have h := hs_yes (n := n + 1) (by have := HQ.out; unfold InR at this ⊢; omega); rw [← h]; rfl] at HCM
        have HF := Lib.hid (hs_fit (n + 1) (by omega))
        have P4 := Lib.hid p4
        have P3 := Lib.hid p3
        clear p3 p4 HQ
        generalize hsN n = v at *
        generalize hsN (n + 1) = u at *
        go_wp2_with fail
        refine (HCI.out _).mono ?_
        rintro e w2 ⟨rfl, hb⟩
        have B2 := Lib.hid (below_up B1.out hb)
        clear hb HCI
        go_wp2_with fail
        refine (HCS.out _).mono ?_
        rintro e w3 ⟨rfl, hb⟩
        have B3 := Lib.hid (below_up B2.out hb)
        clear hb B2 HCS
        go_wp2_with fail
        refine (HCM.out _).mono ?_
        rintro e w4 ⟨rfl, hb⟩
        have B4 := Lib.hid (below_up B3.out hb)
        clear hb B3
        have hm1 := mulbd (x := v) (y := (n : Int)) (A := 100000) (B := 7) (by omega) (by omega)
        have hm2 := mulbd (x := v * (n : Int)) (y := (n : Int) + 1) (A := 700000) (B := 8) (by omega) (by omega)
        have hm0 : 0 ≤ v * (n : Int) := Int.mul_nonneg (by omega) (by omega)
        have hm3 : 0 ≤ v * (n : Int) * ((n : Int) + 1) := Int.mul_nonneg hm0 (by omega)
        obtain ⟨m1, m2⟩ := hm1
        obtain ⟨m3, m4⟩ := hm2
        have hu0 : ¬ u < 0 := by rw [P4.out]; omega
        by_cases h1 : n = 1
        · have hlt : decide ((1 : Int) < (n : Int)) = false := decide_eq_false (by omega)
          have hlt2 : ¬ (1 : Int) < (n : Int) := by omega
          have hv : (v == 1) = true := by rw [P3.out h1]; rfl
          have hv' : v = 1 := P3.out h1
          have hu1 : u = 1 := by rw [P4.out, hv', h1]; rfl
          clear P3
          go_wp2
          go_ret
          exact ⟨ret_bool (by simp), B4.out⟩
        · have hlt : decide ((1 : Int) < (n : Int)) = true := decide_eq_true (by omega)
          have hlt2 : (1 : Int) < (n : Int) := by omega
          clear P3
          go_wp2
          go_ret
          exact ⟨ret_bool (by rw [P4.out]; simp), B4.out⟩
    · rw [hs_no hn] at HCI HCS
      clear hn
      go_wp2_with fail
      refine (HCI.out _).mono ?_
      rintro e w2 ⟨rfl, hb⟩
      have B2 := Lib.hid (below_up B1.out hb)
      clear hb HCI
      go_wp2_with fail
      refine (HCS.out _).mono ?_
      rintro e w3 ⟨rfl, hb⟩
      have B3 := Lib.hid (below_up B2.out hb)
      clear hb B2
      go_wp2_with fail
      refine (HCS.out _).mono ?_
      rintro e w4 ⟨rfl, hb⟩
      have B4 := Lib.hid (below_up B3.out hb)
      clear hb
      go_wp2
      go_ret
      exact ⟨rfl, B4.out⟩

set_option maxRecDepth 100000 in
theorem hFnHistoriesOf_lifted (os : Os) (started : os.Started) (H : Type) (enc : TypeId × Value → H) :
    ReturnsInHanded {} Try.checked os 6 .any (Rows.fnHistoriesOfSpec.pre6 enc Try.prog Try.f6 Rows.fnHistoriesOfRow.domain false) (Rows.fnHistoriesOfSpec.post enc Try.prog Try.f6 false true false false) := by
  refine returnsInHanded_of_change_sized (C := Try.checked) Try.own started (by kernel_rfl) Try.func6
    (ChangeSpec.witness6 (enc := enc) (C := Try.checked) false ⟨#[], #[.slice none 0 0], []⟩ 8 (by kernel_rfl) (by kernel_rfl) (by kernel_rfl) (by kernel_rfl)) ?_
  intro W base args ds gs before hval0 hW _ hwt _
  have hval : ∀ (j : Nat) t v, Try.f6.params[j]? = some t → args[j]? = some v → Value.okWide Try.prog W .any base t v := hval0
  have hA : ∃ p, DataW.TrodAll enc Try.prog W 0 (fun _ => true) true Try.f6.params.toList args.toList ds p := by obtain ⟨p, q, hA0, _⟩ := hW; exact ⟨p, hA0⟩
  obtain ⟨p, hA⟩ := hA
  have hwt' := weights_arg hwt (j := 0) (t := 22) (by rw [Try.params6]; rfl) (d := ds.getD 0 .nil)
  rw [Try.params6] at hA hval
  obtain ⟨v0, d0, rfl, rfl, h0⟩ := trodAll_one hA
  obtain ⟨A, n, c, rfl, hx⟩ := open_bytes (hval 0 22 v0 rfl rfl) h0 (hwt' rfl)
  refine (fnHistoriesOf_calls A n c W hx).mono fun e W' ⟨he, hb⟩ => ?_
  subst he
  exact ⟨_, rfl, law_post (F := Try.f6) rfl rfl (by rw [Try.params6]; simp only [List.mem_cons, List.not_mem_nil, or_false, forall_eq]; exact ⟨by kernel_rfl, of_decide_eq_true (by kernel_rfl)⟩) hW (fun h => by subst h; rfl) hb⟩

theorem hFnHistoriesOf_holds : Rows.FnHistoriesOfSaid :=
  OpenClaim.holds_of_wide 6 Try.f6 rfl rfl rfl rfl rfl rfl rfl ⟨rfl, rfl, rfl, rfl, rfl⟩ rfl rfl rfl rfl rfl (by kernel_rfl) Try.func6
    (by unfold joinedFacts; simp only [Bool.and_eq_true]; (repeat' apply And.intro) <;> (first | (with_reducible exact prog_enters) | ((with_reducible refine prog_lifts ?_); rfl) | ((with_reducible refine prog_make ?_); rfl) | kernel_rfl))
    (of_decide_eq_true (by kernel_rfl)) (by unfold Func.isWrapper; first | (rw [if_pos (by decide +kernel)]; kernel_rfl) | (rw [if_neg (by decide +kernel)]; exact ⟨rfl, rfl⟩))
    (fun os started H enc _ => hFnHistoriesOf_lifted os started H enc)

end Go.Proofs.Ytamjiinhogmifaa
