/- The law FnValidGame holds: whatever the bytes, the program's ValidGame answers as the model's of the game that is drawn from them, and if it is valid, of the game with both players exchanged too. No condition. -/
import Derived.Test.YtnonbefeomnbpaaQ5
import Derived.Deep.RegionHeld3
namespace Go.Proofs.Ytnonbefeomnbpaa
open Go.ChangeShapes Go.WideShapes Go.ChangeAt Go.RowKit Go.Deep

theorem VG.flip {a b : List (List Int)} (v : VG a b) : VG (flip b b.length (gr b 0).length) (flip a a.length (gr a 0).length) := by
  have h1 := v.tb.m1
  have h2 := v.ta.m1
  exact ⟨v.tb.flip, v.ta.flip, by rw [flip_len, flip_len]; exact v.m.symm, by rw [gr_flip h1, gr_flip h2]; simp; exact v.n.symm⟩

set_option maxRecDepth 100000 in
set_option maxHeartbeats 2000000 in
theorem fnValidGame_calls (A : Option Addr) (n c : Nat) (w : World) (hx : Bytes w A n c) :
    Calls Try.prog 4 #[.slice A n c] w fun e w' => e = .returned (.bool true) ∧ Below w.heap.size w w' := by
  have hmx := hx.max
  have H0 := Lib.hid (DrawValidGame_any A n c w hx)
  clear hx
  by_cases hs : 1048576 < n
  · go_enter Try.func4, Try.ntmps4
    go_wp2
    go_ret
    exact ⟨rfl, Below.refl _ _⟩
  go_enter Try.func4, Try.ntmps4
  go_wp2_with fail
  refine H0.out.mono ?_
  rintro e w1 ⟨Aa, na, ca, xa, Ab, nb, cb, xb, rfl, sa, sb, ra, rb, hb⟩
  have HSA := Lib.hid sa
  have HSB := Lib.hid sb
  have HLA := Lib.hid ra.len
  have HLB := Lib.hid rb.len
  have HG := Lib.hid (GW.start hb ra rb)
  clear sa sb ra rb hb H0
  have c0 := HG.out.cells.1
  have c1 := HG.out.cells.2
  by_cases hv : VG xa xb
  · have HV := Lib.hid hv
    have HC := Lib.hid (pb_true hv ▸ ValidGame_impl Aa Ab na ca nb cb xa xb _ HG.out.ra HG.out.rb)
    clear hv
    go_wp2_with fail
    generalize w1.alloc (.cells #[.slice Aa na ca, .slice Ab nb cb] 29) = W1 at *
    generalize w1.heap.size = h at *
    refine HC.out.mono ?_
    rintro e w2 ⟨rfl, hb⟩
    have HG2 := Lib.hid (HG.out.up hb)
    clear hb HC HG c0 c1
    have c0 := HG2.out.cells.1
    have c1 := HG2.out.cells.2
    have HC := Lib.hid (pb_true HV.out ▸ ValidGame_spec Aa Ab na ca nb cb xa xb w2 HG2.out.ra HG2.out.rb)
    go_wp2_with fail
    refine HC.out.mono ?_
    rintro e w3 ⟨rfl, hb⟩
    have HE := Lib.hid ((HG2.out.up hb).up ((Below.refl _ _).drew))
    clear hb HC HG2 c0 c1
    have HVF := Lib.hid HV.out.flip
    have HFB := Lib.hid (fun W (r : IntRows W Ab nb cb xb) => flipped_any Ab nb cb (gr xb 0).length xb W r HSB.out (by have := HLB.out; have := HV.out.tb.n1; omega) HV.out.tb.even)
    have HFA := Lib.hid (fun W (r : IntRows W Aa na ca xa) => flipped_any Aa na ca (gr xa 0).length xa W r HSA.out (by have := HLA.out; have := HV.out.ta.n1; omega) HV.out.ta.even)
    rw [HLB.out, HLA.out] at HVF
    go_wp2_with fail
    go_region_held3 (fun W => W.cell? ⟨h, 0, none⟩ = some (.slice Aa na ca) ∧ W.cell? ⟨h, 1, none⟩ = some (.slice Ab nb cb)) (first | exact HM.out.cells | exact HK.out.cells | exact HF.out.cells | exact HE.out.cells)
      (first
      | (go_at_call 17; refine (HFB.out _ HE.out.rb).mono ?_; rintro e w8 ⟨A2, n2, c2, g2, rfl, hn2, ho, hb⟩; have HF := Lib.hid (HE.out.up hb); have R2 := Lib.hid ho.rows; clear hn2 ho hb HE)
      | (go_at_call 17; refine (HFA.out _ HF.out.ra).mono ?_; rintro e w9 ⟨A3, n3, c3, g3, rfl, hn3, ho, hb⟩; have HK := Lib.hid (HF.out.up hb); have R3 := Lib.hid ho.rows; have R4 := Lib.hid (R2.out.keep (Keep.below hb)); clear hn3 ho hb HF R2)
      | (go_at_call 20; refine (pb_true HVF.out ▸ ValidGame_impl A2 A3 n2 c2 n3 c3 _ _ _ R4.out R3.out).mono ?_; rintro e w10 ⟨rfl, hb⟩; have HM := Lib.hid (HK.out.up hb); clear hb HK R3 R4))
    go_wp2
    go_ret
    exact ⟨rfl, HM.out.below⟩
  · have HNV := Lib.hid hv
    have HC := Lib.hid (pb_false hv ▸ ValidGame_impl Aa Ab na ca nb cb xa xb _ HG.out.ra HG.out.rb)
    clear hv
    go_wp2_with fail
    generalize w1.alloc (.cells #[.slice Aa na ca, .slice Ab nb cb] 29) = W1 at *
    generalize w1.heap.size = h at *
    refine HC.out.mono ?_
    rintro e w2 ⟨rfl, hb⟩
    have HG2 := Lib.hid (HG.out.up hb)
    clear hb HC HG c0 c1
    have c0 := HG2.out.cells.1
    have c1 := HG2.out.cells.2
    have HC := Lib.hid (pb_false HNV.out ▸ ValidGame_spec Aa Ab na ca nb cb xa xb w2 HG2.out.ra HG2.out.rb)
    go_wp2_with fail
    refine HC.out.mono ?_
    rintro e w3 ⟨rfl, hb⟩
    have HG3 := Lib.hid (HG2.out.up hb)
    clear hb HC HG2 c0 c1
    have c0 := HG3.out.cells.1
    have c1 := HG3.out.cells.2
    have HC := Lib.hid (pb_false HNV.out ▸ ValidGame_spec Aa Ab na ca nb cb xa xb w3 HG3.out.ra HG3.out.rb)
    go_wp2_with fail
    refine HC.out.mono ?_
    rintro e w4 ⟨rfl, hb⟩
    have HG4 := Lib.hid (HG3.out.up hb)
    clear hb HC HG3 c0 c1
    go_wp2
    go_ret
    exact ⟨rfl, HG4.out.below⟩

theorem hFnValidGame_lifted (os : Os) (started : os.Started) (H : Type) (enc : TypeId × Value → H) :
    ReturnsInHanded {} Try.checked os 4 .any (Rows.fnValidGameSpec.pre6 enc Try.prog Try.f4 Rows.fnValidGameRow.domain false) (Rows.fnValidGameSpec.post enc Try.prog Try.f4 false true false false) := by
  refine returnsInHanded_of_change_sized (C := Try.checked) Try.own started (by kernel_rfl) Try.func4
    (ChangeSpec.witness6 (enc := enc) (C := Try.checked) false ⟨#[], #[.slice none 0 0], []⟩ 8 (by kernel_rfl) (by kernel_rfl) (by kernel_rfl) (by kernel_rfl)) ?_
  intro W base args ds gs before hval0 hW _ hwt _
  have hval : ∀ (j : Nat) t v, Try.f4.params[j]? = some t → args[j]? = some v → Value.okWide Try.prog W .any base t v := hval0
  have hA : ∃ p, DataW.TrodAll enc Try.prog W 0 (fun _ => true) true Try.f4.params.toList args.toList ds p := by obtain ⟨p, q, hA0, _⟩ := hW; exact ⟨p, hA0⟩
  obtain ⟨p, hA⟩ := hA
  have hwt0 := weights_arg hwt (j := 0) (t := 22) (by rw [Try.params4]; rfl) (d := ds.getD 0 .nil)
  rw [Try.params4] at hA hval
  obtain ⟨v0, d0, rfl, rfl, h0⟩ := trodAll_one hA
  obtain ⟨A0, n0, c0, rfl, hx0⟩ := open_bytes (hval 0 22 v0 rfl rfl) h0 (hwt0 rfl)
  refine (fnValidGame_calls A0 n0 c0 W hx0).mono fun e W' ⟨he, hb⟩ => ?_
  subst he
  exact ⟨_, rfl, law_post (F := Try.f4) rfl rfl (by rw [Try.params4]; intro t ht; simp only [List.mem_cons, List.not_mem_nil, or_false] at ht; rcases ht with rfl <;> exact ⟨by kernel_rfl, of_decide_eq_true (by kernel_rfl)⟩) hW (fun h => by subst h; rfl) hb⟩

theorem hFnValidGame_holds : Rows.FnValidGameSaid :=
  OpenClaim.holds_of_wide 4 Try.f4 rfl rfl rfl rfl rfl rfl rfl ⟨rfl, rfl, rfl, rfl, rfl⟩ rfl rfl rfl rfl rfl (by kernel_rfl) Try.func4
    (by unfold joinedFacts; simp only [Bool.and_eq_true]; (repeat' apply And.intro) <;> (first | (with_reducible exact prog_enters) | ((with_reducible refine prog_lifts ?_); rfl) | ((with_reducible refine prog_make ?_); rfl) | kernel_rfl))
    (of_decide_eq_true (by kernel_rfl)) (by unfold Func.isWrapper; first | (rw [if_pos (by decide +kernel)]; kernel_rfl) | (rw [if_neg (by decide +kernel)]; exact ⟨rfl, rfl⟩))
    (fun os started H enc _ => hFnValidGame_lifted os started H enc)

end Go.Proofs.Ytnonbefeomnbpaa
