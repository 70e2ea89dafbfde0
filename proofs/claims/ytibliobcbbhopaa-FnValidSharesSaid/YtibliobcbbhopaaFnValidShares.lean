/- The law FnValidShares holds: whatever the bytes, the program's ValidShares answers as the model's of what is drawn from them, and of as many things one alone is a share. No condition. -/
import Derived.Test.YtibliobcbbhopaaH2
import Derived.Test.YtibliobcbbhopaaS7
import Derived.Test.YtibliobcbbhopaaLiftC
namespace Go.Proofs.Ytibliobcbbhopaa
open Go.ChangeShapes Go.WideShapes Go.ChangeAt Go.RowKit Go.Deep

theorem onl_shares {n : Nat} (h1 : 1 ≤ n) (h3 : n ≤ 3) : VSn (onl n (n - 1)) n :=
  ⟨by omega, by omega, by rw [onl_len], fun j hj => by
    rw [onl_len] at hj
    have := onl_bd (n := n) (i := n - 1) hj
    unfold InR; omega, by rw [tot_onl (by omega)]; omega⟩

set_option maxRecDepth 100000 in
set_option maxHeartbeats 1000000 in
theorem fnValidShares_calls (A : Option Addr) (n c : Nat) (w : World) (hx : Bytes w A n c) :
    Calls Try.prog 6 #[.slice A n c] w fun e w' => e = .returned (.bool true) ∧ Below w.heap.size w w' := by
  have hmx := hx.max
  have H0 := Lib.hid (DrawValidShares_any A n c w hx)
  clear hx
  by_cases hs : 1048576 < n
  · go_enter Try.func6, Try.ntmps6
    go_wp2
    go_ret
    exact ⟨rfl, Below.refl _ _⟩
  · go_enter Try.func6, Try.ntmps6
    go_wp2_with fail
    refine H0.out.mono ?_
    rintro e w1 ⟨Av, cv, ys, k, rfl, hy5, hk4, hi, hb⟩
    have HI := Lib.hid hi
    have HB := Lib.hid hb
    clear hi hb H0
    by_cases hv : VSn ys k
    · have HC := Lib.hid (pb_true hv ▸ ValidShares_impl Av ys.length cv ys k w1 HI.out)
      have HCS := Lib.hid (fun W (q : Quiet w1 W) => (pb_true hv ▸ ValidShares_spec Av ys.length cv ys k W (HI.out.keep (Keep.quiet q))))
      have HV := Lib.hid hv
      have hk1 : 1 ≤ k := by have := hv.1; omega
      have hk3 : k ≤ 3 := by have := hv.2.1; omega
      have hlk : ((ys.length : Int) == (k : Int)) = true := by have := hv.2.2.1; simp; omega
      have HW := Lib.hid (onl_shares hk1 hk3)
      clear hv
      go_wp2_with fail
      refine HC.out.mono ?_
      rintro e w2 ⟨rfl, hq⟩
      have HB2 := Lib.hid (below_quiet HB.out hq)
      have HC2 := Lib.hid (HCS.out _ hq)
      clear hq HC HB HCS
      go_wp2_with fail
      refine HC2.out.mono ?_
      rintro e w3 ⟨rfl, hq⟩
      have HB3 := Lib.hid (below_quiet HB2.out hq)
      clear hq HC2 HB2
      have HO := Lib.hid (onlyOne_any k (k - 1) w3 (by omega) (by omega))
      have hkk : ((k - 1 : Nat) : Int) = (k : Int) - 1 := by omega
      rw [hkk] at HO
      clear hkk
      go_wp2_with fail
      refine HO.out.mono ?_
      rintro e w4 ⟨rfl, ho, hb⟩
      have HB4 := Lib.hid (below_up HB3.out hb)
      have HC3 := Lib.hid (pb_true HW.out ▸ ValidShares_impl _ _ _ _ (k : Int) w4 ho.ints)
      clear ho hb HO HB3
      go_wp2_with fail
      refine HC3.out.mono ?_
      rintro e w5 ⟨rfl, hq⟩
      have HB5 := Lib.hid (below_quiet HB4.out hq)
      clear hq HC3 HB4
      go_wp2
      go_ret
      exact ⟨rfl, HB5.out⟩
    · have HC := Lib.hid (pb_false hv ▸ ValidShares_impl Av ys.length cv ys k w1 HI.out)
      have HCS := Lib.hid (fun W (q : Quiet w1 W) => (pb_false hv ▸ ValidShares_spec Av ys.length cv ys k W (HI.out.keep (Keep.quiet q))))
      clear hv
      go_wp2_with fail
      refine HC.out.mono ?_
      rintro e w2 ⟨rfl, hq⟩
      have HB2 := Lib.hid (below_quiet HB.out hq)
      have HC2 := Lib.hid (HCS.out _ hq)
      have HQ := Lib.hid hq
      clear hq HC HB
      go_wp2_with fail
      refine HC2.out.mono ?_
      rintro e w3 ⟨rfl, hq⟩
      have HB3 := Lib.hid (below_quiet HB2.out hq)
      have HC3 := Lib.hid (HCS.out _ (HQ.out.trans hq))
      clear hq HC2 HB2 HCS HQ
      go_wp2_with fail
      refine HC3.out.mono ?_
      rintro e w4 ⟨rfl, hq⟩
      have HB4 := Lib.hid (below_quiet HB3.out hq)
      clear hq HC3 HB3
      go_wp2
      go_ret
      exact ⟨rfl, HB4.out⟩

theorem hFnValidShares_lifted (os : Os) (started : os.Started) (H : Type) (enc : TypeId × Value → H) :
    ReturnsInHanded {} Try.checked os 6 .any (Rows.fnValidSharesSpec.pre6 enc Try.prog Try.f6 Rows.fnValidSharesRow.domain false) (Rows.fnValidSharesSpec.post enc Try.prog Try.f6 false true false false) := by
  refine returnsInHanded_of_change_sized (C := Try.checked) Try.own started (by kernel_rfl) Try.func6
    (ChangeSpec.witness6 (enc := enc) (C := Try.checked) false ⟨#[], #[.slice none 0 0], []⟩ 8 (by kernel_rfl) (by kernel_rfl) (by kernel_rfl) (by kernel_rfl)) ?_
  intro W base args ds gs before hval0 hW _ hwt _
  have hval : ∀ (j : Nat) t v, Try.f6.params[j]? = some t → args[j]? = some v → Value.okWide Try.prog W .any base t v := hval0
  have hA : ∃ p, DataW.TrodAll enc Try.prog W 0 (fun _ => true) true Try.f6.params.toList args.toList ds p := by obtain ⟨p, q, hA0, _⟩ := hW; exact ⟨p, hA0⟩
  obtain ⟨p, hA⟩ := hA
  have hwt0 := weights_arg hwt (j := 0) (t := 22) (by rw [Try.params6]; rfl) (d := ds.getD 0 .nil)
  rw [Try.params6] at hA hval
  obtain ⟨v0, d0, rfl, rfl, h0⟩ := trodAll_one hA
  obtain ⟨A0, n0, c0, rfl, hx0⟩ := open_bytes (hval 0 22 v0 rfl rfl) h0 (hwt0 rfl)
  refine (fnValidShares_calls A0 n0 c0 W hx0).mono fun e W' ⟨he, hb⟩ => ?_
  subst he
  exact ⟨_, rfl, law_post (F := Try.f6) rfl rfl (by rw [Try.params6]; intro t ht; simp only [List.mem_cons, List.not_mem_nil, or_false] at ht; rcases ht with rfl <;> exact ⟨by kernel_rfl, of_decide_eq_true (by kernel_rfl)⟩) hW (fun h => by subst h; rfl) hb⟩

theorem hFnValidShares_holds : Rows.FnValidSharesSaid :=
  OpenClaim.holds_of_wide 6 Try.f6 rfl rfl rfl rfl rfl rfl rfl ⟨rfl, rfl, rfl, rfl, rfl⟩ rfl rfl rfl rfl rfl (by kernel_rfl) Try.func6 (by kernel_rfl)
    (of_decide_eq_true (by kernel_rfl)) (by unfold Func.isWrapper; first | (rw [if_pos (by decide +kernel)]; kernel_rfl) | (rw [if_neg (by decide +kernel)]; exact ⟨rfl, rfl⟩))
    (fun os started H enc _ => hFnValidShares_lifted os started H enc)

end Go.Proofs.Ytibliobcbbhopaa
