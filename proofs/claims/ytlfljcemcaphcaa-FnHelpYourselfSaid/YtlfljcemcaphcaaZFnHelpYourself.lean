/- The law FnHelpYourself holds: of what is drawn help pays for oneself just if the gain is more than the cost, and not for strangers. No condition. -/
import Derived.Test.YtlfljcemcaphcaaQ8
namespace Go.Proofs.Ytlfljcemcaphcaa
open Go.ChangeShapes Go.WideShapes Go.ChangeAt Go.RowKit Go.Deep

theorem frU_zero {x : Int} (h : x ≠ 0) : frU x 64 ≠ 0 := fun e => by
  have r := fr_ratio x 64
  have d := fK_d x
  rw [e, Int.zero_mul] at r
  rcases Int.mul_eq_zero.1 r.symm with h1 | h1
  · exact h h1
  · omega
theorem HOk.self {f : List (List Int)} {i : Nat} {s t : Int} (k : KOk f i i) (hs : Blw 1001 s) (ht : Blw 1001 t) : HOk f i i s t ↔ s < t := by
  obtain ⟨j, e, hj⟩ := nat_of k.i
  have e2 : i = j := by omega
  subst e2
  have hp := kK_pos k.v hj
  have ht2 : ((i : Int)).toNat = i := Int.toNat_natCast i
  constructor
  · intro h
    have hlt := h.lt
    rw [ht2] at hlt
    apply Classical.byContradiction
    intro hn
    have : kK f i i * t ≤ kK f i i * s := Int.mul_le_mul_of_nonneg_left (by omega) (by omega)
    omega
  · intro h
    refine ⟨k, hs, ht, ?_⟩
    rw [ht2]
    exact Int.mul_lt_mul_of_pos_left h (by omega)
theorem HOk.stranger {f : List (List Int)} {i j : Nat} {s t : Int} (hz : kK f i j = 0) (hs : 0 ≤ s) : ¬ HOk f i j s t := fun h => by
  have hlt := h.lt
  rw [Int.toNat_natCast, Int.toNat_natCast, hz, Int.zero_mul] at hlt
  have := (kK_bd f i i).1
  have : 0 * s ≤ kK f i i * s := Int.mul_le_mul_of_nonneg_right this hs
  omega

set_option maxRecDepth 100000 in
set_option maxHeartbeats 6400000 in
theorem fnHelpYourself_calls (A : Option Addr) (n c : Nat) (w : World) (hx : Bytes w A n c) :
    Calls Try.prog 12 #[.slice A n c] w fun e w' => e = .returned (.bool true) ∧ Below w.heap.size w w' := by
  have hmx := hx.max
  have H0 := Lib.hid (DrawHelpPays_any A n c w hx)
  clear hx
  by_cases hs : 1048576 < n
  · go_enter Try.func12, Try.ntmps12
    go_wp2
    go_ret
    exact ⟨rfl, Below.refl _ _⟩
  · go_enter Try.func12, Try.ntmps12
    go_wp2_with fail
    refine H0.out.mono ?_
    rintro e w1 ⟨Av, k, cv, xss, i, j, s, t, rfl, hbd, hr, hb⟩
    obtain ⟨⟨i0, i1⟩, ⟨j0, j1, hk6⟩, ⟨s0, s1⟩, ⟨t0, t1⟩⟩ := hbd
    have HB := Lib.hid hb
    have HX := Lib.hid hr
    have hm := hr.max
    have HLN := Lib.hid hr.len
    have FI : Fit i := ⟨by omega, by omega⟩
    have FJ : Fit j := ⟨by omega, by omega⟩
    have FS : Fit s := ⟨by omega, by omega⟩
    have FT : Fit t := ⟨by omega, by omega⟩
    have HFI := Lib.hid (And.intro FI (And.intro FJ (And.intro FS FT)))
    clear hr hb H0 FI FJ FS FT
    obtain ⟨i, rfl⟩ := Int.eq_ofNat_of_zero_le i0
    obtain ⟨b0, hb0⟩ : ∃ b0, pb (HOk xss i j s t) = b0 := ⟨_, rfl⟩
    have HPB := Lib.hid hb0
    clear hb0
    have HCI := Lib.hid (HPB.out ▸ HelpPays_impl _ _ _ xss i j s t w1 HX.out HFI.out.1 HFI.out.2.1 HFI.out.2.2.1 HFI.out.2.2.2)
    go_wp2_with fail
    refine (HCI.out).mono ?_
    rintro e w2 ⟨rfl, hb⟩
    have HB := Lib.hid (below_up HB.out hb)
    have HX := Lib.hid (HX.out.keep (Keep.below hb))
    clear hb
    have HCS := Lib.hid (HPB.out ▸ HelpPays_spec _ _ _ xss i j s t w2 HX.out HFI.out.1 HFI.out.2.1 HFI.out.2.2.1 HFI.out.2.2.2)
    go_wp2_with fail
    refine (HCS.out).mono ?_
    rintro e w3 ⟨rfl, hb⟩
    have HB := Lib.hid (below_up HB.out hb)
    have HX := Lib.hid (HX.out.keep (Keep.below hb))
    clear hb
    clear HCI HCS HPB
    by_cases hv : VPe xss
    · have HPB := Lib.hid (pb_true hv)
      have HVC := Lib.hid (HPB.out ▸ ValidFolk_impl _ _ _ xss w3 HX.out)
      go_wp2_with fail
      refine (HVC.out).mono ?_
      rintro e w4 ⟨rfl, hq⟩
      have hb := hq.below (B := w3.heap.size)
      have HB := Lib.hid (below_up HB.out hb)
      have HX := Lib.hid (HX.out.keep (Keep.below hb))
      clear hb hq
      clear HVC
      by_cases hs1 : s < 0
      · skip
        go_wp2
        go_ret
        exact ⟨rfl, HB.out⟩
      by_cases hs2 : 1000 < s
      · skip
        go_wp2
        go_ret
        exact ⟨rfl, HB.out⟩
      by_cases ht1 : t < 0
      · skip
        go_wp2
        go_ret
        exact ⟨rfl, HB.out⟩
      by_cases ht2 : 1000 < t
      · skip
        go_wp2
        go_ret
        exact ⟨rfl, HB.out⟩
      have HI := Lib.hid (show i < xss.length by rw [HLN.out]; omega)
      have HS := Lib.hid (show Blw 1001 s from ⟨by omega, by omega⟩)
      have HT := Lib.hid (show Blw 1001 t from ⟨by omega, by omega⟩)
      have HV := Lib.hid hv
      have HSELF := Lib.hid (pb_congr (HOk.self (s := s) (t := t) ⟨hv, ⟨by omega, by have := HI.out; omega⟩, ⟨by omega, by have := HI.out; omega⟩⟩ HS.out HT.out))
      clear hv
      go_wp2
      go_loopw [8] (fun j_ wr => ∃ m : Nat, m ≤ k ∧ j_ = .int .i64 m ∧ Hid (IntRows wr Av k cv xss) ∧ Hid (Below w.heap.size w wr)) (fun j_ _ => k - (intOf j_).toNat)
      case atStart => exact ⟨0, by omega, rfl, HX, HB⟩
      case round =>
        clear HX HB
        obtain ⟨m, hmk, rfl, HX, HB⟩ := hrel
        by_cases hlt : m < k
        · have hok : KOk xss i m := ⟨HV.out, ⟨by omega, by have := HI.out; omega⟩, ⟨by omega, by rw [HLN.out]; omega⟩⟩
          have HC : Hid (Calls Try.prog 19 #[.slice Av k cv, .int .i64 i, .int .i64 m] wr (Ret (.tuple #[.agg #[.int .i64 (frU (kK xss i m) 64), .int .i64 (frD (kK xss i m) 64)], .bool true]) wr)) := Lib.hid (by
            have h := KinOf_impl _ _ _ xss i m wr HX.out HFI.out.1 ⟨by omega, by omega⟩
            rw [kinF_yes hok, pb_true hok] at h
            exact h)
          by_cases hz : kK xss i m = 0
          · have HU : Hid (frU (kK xss i m) 64 = 0) := Lib.hid (by rw [hz]; decide)
            rw [HU.out] at HC
            have HP := Lib.hid (fun W (h : IntRows W Av k cv xss) => pb_false (HOk.stranger (t := t) hz HS.out.1) ▸ HelpPays_impl _ _ _ xss i m s t W h HFI.out.1 ⟨by omega, by omega⟩ HFI.out.2.2.1 HFI.out.2.2.2)
            generalize frD (kK xss i m) 64 = D at *
            clear hz hok HU
            go_wp2_with fail
            refine (HC.out).mono ?_
            rintro e w5 ⟨rfl, hb⟩
            have HB := Lib.hid (below_up HB.out hb)
            have HX := Lib.hid (HX.out.keep (Keep.below hb))
            clear hb
            clear HC
            have hb := below_alloc w5 (.cells #[.int .i64 0, .int .i64 D] 28)
            have c0 := blk_cell (blk_new w5 28 #[.int .i64 0, .int .i64 D]) (i := 0) rfl
            have HB := Lib.hid (below_up HB.out hb)
            have HX := Lib.hid (HX.out.keep (Keep.below hb))
            clear hb
            go_wp2_with fail
            generalize w5.alloc (.cells #[.int .i64 0, .int .i64 D] 28) = w6 at *
            refine (HP.out _ HX.out).mono ?_
            rintro e w7 ⟨rfl, hb⟩
            have HB := Lib.hid (below_up HB.out hb)
            have HX := Lib.hid (HX.out.keep (Keep.below hb))
            clear hb HP c0
            go_wp2
            go_roundw
            case rel => exact ⟨m + 1, by omega, by go_num, HX, HB⟩
            case measure => simp [intOf]; omega
          · have HU := Lib.hid (frU_zero hz)
            generalize frU (kK xss i m) 64 = U at *
            generalize frD (kK xss i m) 64 = D at *
            have hu : (U == 0) = false := by simp only [beq_eq_false_iff_ne, ne_eq]; exact HU.out
            clear hz hok
            go_wp2_with fail
            refine (HC.out).mono ?_
            rintro e w5 ⟨rfl, hb⟩
            have HB := Lib.hid (below_up HB.out hb)
            have HX := Lib.hid (HX.out.keep (Keep.below hb))
            clear hb
            clear HC
            have hb := below_alloc w5 (.cells #[.int .i64 U, .int .i64 D] 28)
            have c0 := blk_cell (blk_new w5 28 #[.int .i64 U, .int .i64 D]) (i := 0) rfl
            have HB := Lib.hid (below_up HB.out hb)
            have HX := Lib.hid (HX.out.keep (Keep.below hb))
            clear hb
            go_wp2
            go_roundw
            case rel => exact ⟨m + 1, by omega, by go_num, HX, HB⟩
            case measure => simp [intOf]; omega
        · obtain rfl : m = k := by omega
          have HC := Lib.hid (HSELF.out ▸ HelpPays_impl _ _ _ xss i i s t wr HX.out HFI.out.1 HFI.out.1 HFI.out.2.2.1 HFI.out.2.2.2)
          by_cases hlt2 : s < t
          · have h1 : decide (s < t) = true := by simpa using hlt2
            rw [pb_true hlt2] at HC
            go_wp2_with fail
            refine (HC.out).mono ?_
            rintro e w5 ⟨rfl, hb⟩
            have HB := Lib.hid (below_up HB.out hb)
            have HX := Lib.hid (HX.out.keep (Keep.below hb))
            clear hb
            go_wp2
            go_ret
            exact ⟨rfl, HB.out⟩
          · have h1 : decide (s < t) = false := by simpa using hlt2
            rw [pb_false hlt2] at HC
            go_wp2_with fail
            refine (HC.out).mono ?_
            rintro e w5 ⟨rfl, hb⟩
            have HB := Lib.hid (below_up HB.out hb)
            have HX := Lib.hid (HX.out.keep (Keep.below hb))
            clear hb
            go_wp2
            go_ret
            exact ⟨rfl, HB.out⟩
    · have HPB := Lib.hid (pb_false hv)
      clear hv
      have HVC := Lib.hid (HPB.out ▸ ValidFolk_impl _ _ _ xss w3 HX.out)
      go_wp2_with fail
      refine (HVC.out).mono ?_
      rintro e w4 ⟨rfl, hq⟩
      have hb := hq.below (B := w3.heap.size)
      have HB := Lib.hid (below_up HB.out hb)
      have HX := Lib.hid (HX.out.keep (Keep.below hb))
      clear hb hq
      go_wp2
      go_ret
      exact ⟨rfl, HB.out⟩

set_option maxRecDepth 100000 in
theorem hFnHelpYourself_lifted (os : Os) (started : os.Started) (H : Type) (enc : TypeId × Value → H) :
    ReturnsInHanded {} Try.checked os 12 .any (Rows.fnHelpYourselfSpec.pre6 enc Try.prog Try.f12 Rows.fnHelpYourselfRow.domain false) (Rows.fnHelpYourselfSpec.post enc Try.prog Try.f12 false true false false) := by
  refine returnsInHanded_of_change_sized (C := Try.checked) Try.own started (by kernel_rfl) Try.func12
    (ChangeSpec.witness6 (enc := enc) (C := Try.checked) false ⟨#[], #[.slice none 0 0], []⟩ 8 (by kernel_rfl) (by kernel_rfl) (by kernel_rfl) (by kernel_rfl)) ?_
  intro W base args ds gs before hval0 hW _ hwt _
  have hval : ∀ (j : Nat) t v, Try.f12.params[j]? = some t → args[j]? = some v → Value.okWide Try.prog W .any base t v := hval0
  have hA : ∃ p, DataW.TrodAll enc Try.prog W 0 (fun _ => true) true Try.f12.params.toList args.toList ds p := by obtain ⟨p, q, hA0, _⟩ := hW; exact ⟨p, hA0⟩
  obtain ⟨p, hA⟩ := hA
  have hwt' := weights_arg hwt (j := 0) (t := 38) (by rw [Try.params12]; rfl) (d := ds.getD 0 .nil)
  rw [Try.params12] at hA hval
  obtain ⟨v0, d0, rfl, rfl, h0⟩ := trodAll_one hA
  obtain ⟨A, n, c, rfl, hx⟩ := open_bytes (hval 0 38 v0 rfl rfl) h0 (hwt' rfl)
  refine (fnHelpYourself_calls A n c W hx).mono fun e W' ⟨he, hb⟩ => ?_
  subst he
  exact ⟨_, rfl, law_post (F := Try.f12) rfl rfl (by rw [Try.params12]; simp only [List.mem_cons, List.not_mem_nil, or_false, forall_eq]; exact ⟨by kernel_rfl, of_decide_eq_true (by kernel_rfl)⟩) hW (fun h => by subst h; rfl) hb⟩

theorem hFnHelpYourself_holds : Rows.FnHelpYourselfSaid :=
  OpenClaim.holds_of_wide 12 Try.f12 rfl rfl rfl rfl rfl rfl rfl ⟨rfl, rfl, rfl, rfl, rfl⟩ rfl rfl rfl rfl rfl (by kernel_rfl) Try.func12
    (by unfold joinedFacts; simp only [Bool.and_eq_true]; (repeat' apply And.intro) <;> (first | (with_reducible exact prog_enters) | ((with_reducible refine prog_lifts ?_); rfl) | ((with_reducible refine prog_make ?_); rfl) | kernel_rfl))
    (of_decide_eq_true (by kernel_rfl)) (by unfold Func.isWrapper; first | (rw [if_pos (by decide +kernel)]; kernel_rfl) | (rw [if_neg (by decide +kernel)]; exact ⟨rfl, rfl⟩))
    (fun os started H enc _ => hFnHelpYourself_lifted os started H enc)

end Go.Proofs.Ytlfljcemcaphcaa
