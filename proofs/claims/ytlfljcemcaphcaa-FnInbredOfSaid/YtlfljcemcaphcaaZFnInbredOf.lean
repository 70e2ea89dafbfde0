/- The law FnInbredOf holds: of the people that are drawn the program tells how much one is inbred as the model does: nothing where the parents are not known, less than 1, and kinship with itself is half of 1 more. No condition. -/
import Derived.Test.YtlfljcemcaphcaaQ8
namespace Go.Proofs.Ytlfljcemcaphcaa
open Go.ChangeShapes Go.WideShapes Go.ChangeAt Go.RowKit Go.Deep

theorem fracK_law (u d x : Int) (w : World) (hu : -200000 ≤ u ∧ u ≤ 200000) (hd : 1 ≤ d ∧ d ≤ 200000) (h : u * 64 = x * d) : Calls Try.prog 30 #[.int .i64 u, .int .i64 d] w (Ret (fK x) w) := by
  have k := fracOfH_any u d w (by unfold Hug; omega) (by unfold Hug; omega) hd.1
  rw [frV_K (by omega) h] at k
  exact k
theorem plusK_law (x y : Int) (w : World) (hx : -200000 ≤ x ∧ x ≤ 200000) (hy : -200000 ≤ y ∧ y ≤ 200000) : Calls Try.prog 32 #[fK x, fK y] w (Ret (fK (x + y)) w) := by
  have h1 := fK_u hx
  have h2 := fK_u hy
  have h3 := fK_d x
  have h4 := fK_d y
  have h := plusOfH_any (frU x 64) (frD x 64) (frU y 64) (frD y 64) w (by omega) (by omega) (by omega) (by omega)
  rw [fK_plus] at h
  exact h
theorem timesK_law (x y z : Int) (w : World) (hx : -200000 ≤ x ∧ x ≤ 200000) (hy : -200000 ≤ y ∧ y ≤ 200000) (hz : x * y = z * 64) : Calls Try.prog 31 #[fK x, fK y] w (Ret (fK z) w) := by
  have h1 := fK_u hx
  have h2 := fK_u hy
  have h3 := fK_d x
  have h4 := fK_d y
  have h := timesOfH_any (frU x 64) (frD x 64) (frU y 64) (frD y 64) w (by omega) (by omega) (by omega) (by omega)
  rw [fK_times hz] at h
  exact h
theorem lessK_law (x y : Int) (w : World) (hx : -200000 ≤ x ∧ x ≤ 200000) (hy : -200000 ≤ y ∧ y ≤ 200000) : Calls Try.prog 29 #[fK x, fK y] w (Ret (.bool (decide (x < y))) w) := by
  have h1 := fK_u hx
  have h2 := fK_u hy
  have h3 := fK_d x
  have h4 := fK_d y
  have h := lessOfH_any (frU x 64) (frD x 64) (frU y 64) (frD y 64) w (by omega) (by omega) (by omega) (by omega)
  rw [fK_less] at h
  exact h

set_option maxRecDepth 100000 in
set_option maxHeartbeats 6400000 in
theorem fnInbredOf_calls (A : Option Addr) (n c : Nat) (w : World) (hx : Bytes w A n c) :
    Calls Try.prog 9 #[.slice A n c] w fun e w' => e = .returned (.bool true) ∧ Below w.heap.size w w' := by
  have hmx := hx.max
  have H0 := Lib.hid (DrawInbredOf_any A n c w hx)
  clear hx
  by_cases hs : 1048576 < n
  · go_enter Try.func9, Try.ntmps9
    go_wp2
    go_ret
    exact ⟨rfl, Below.refl _ _⟩
  · go_enter Try.func9, Try.ntmps9
    go_wp2_with fail
    refine H0.out.mono ?_
    rintro e w1 ⟨Av, k, cv, xss, i, rfl, hbd, hr, hb⟩
    have HB := Lib.hid hb
    have HX := Lib.hid hr
    have hm := hr.max
    have HLN := Lib.hid hr.len
    have HFI := Lib.hid (show Fit i from ⟨by omega, by omega⟩)
    clear hr hb H0
    by_cases hok : IOk xss i
    · have hv := hok.v
      obtain ⟨i, rfl, hi⟩ := nat_of hok.i
      have HCI : Hid (∀ W, IntRows W Av k cv xss → Calls Try.prog 22 #[.slice Av k cv, .int .i64 i] W (Ret (.tuple #[.agg #[.int .i64 (frU (bK xss i) 64), .int .i64 (frD (bK xss i) 64)], .bool true]) W)) := Lib.hid (fun W hx => by
        have h := InbredOf_impl _ _ _ xss i W hx HFI.out
        rw [inbF_yes hok, pb_true hok] at h
        exact h)
      have HCS : Hid (∀ W, IntRows W Av k cv xss → Calls Try.prog 21 #[.slice Av k cv, .int .i64 i] W (Ret (.tuple #[.agg #[.int .i64 (frU (bK xss i) 64), .int .i64 (frD (bK xss i) 64)], .bool true]) W)) := Lib.hid (fun W hx => by
        have h := InbredOf_spec _ _ _ xss i W hx HFI.out
        rw [inbF_yes hok, pb_true hok] at h
        exact h)
      have hko : KOk xss i i := ⟨hv, hok.i, hok.i⟩
      have HCK : Hid (∀ W, IntRows W Av k cv xss → Calls Try.prog 19 #[.slice Av k cv, .int .i64 i, .int .i64 i] W (Ret (.tuple #[.agg #[.int .i64 (frU (kK xss i i) 64), .int .i64 (frD (kK xss i i) 64)], .bool true]) W)) := Lib.hid (fun W hx => by
        have h := KinOf_impl _ _ _ xss i i W hx HFI.out HFI.out
        rw [kinF_yes hko, pb_true hko] at h
        exact h)
      have hbb := bK_bd xss i
      have hself := kK_bK hv hi
      have hkk := kK_bd xss i i
      have HF1 := Lib.hid (fun W => fracK_law 1 1 64 W (by omega) (by omega) rfl)
      have HF2 := Lib.hid (fun W => fracK_law 1 2 32 W (by omega) (by omega) rfl)
      have HLS : Hid (∀ W, Calls Try.prog 29 #[.agg #[.int .i64 (frU (bK xss i) 64), .int .i64 (frD (bK xss i) 64)], fK 64] W (Ret (.bool true) W)) := Lib.hid (fun W => by
        have h := lessK_law (bK xss i) 64 W (by omega) (by omega)
        rw [decide_eq_true (by omega)] at h
        exact h)
      have HPL : Hid (∀ W, Calls Try.prog 32 #[fK 64, .agg #[.int .i64 (frU (bK xss i) 64), .int .i64 (frD (bK xss i) 64)]] W (Ret (fK (64 + bK xss i)) W)) := Lib.hid (fun W => plusK_law 64 (bK xss i) W (by omega) (by omega))
      have HTM : Hid (∀ W, Calls Try.prog 31 #[fK 32, fK (64 + bK xss i)] W (Ret (.agg #[.int .i64 (frU (kK xss i i) 64), .int .i64 (frD (kK xss i i) 64)]) W)) := Lib.hid (fun W => timesK_law 32 (64 + bK xss i) (kK xss i i) W (by omega) (by omega) (by omega))
      have hU0 : 0 ≤ frU (bK xss i) 64 := (frU_le (u := bK xss i) (d := 64) (B := 64) (by omega) hbb.1 (by omega)).1
      have HN0 : Hid (g2 xss i 0 < 0 → frU (bK xss i) 64 = 0) := Lib.hid (fun h => by
        have e : bK xss i = 0 := by unfold bK; rw [if_pos h]
        rw [e]; decide)
      have HTWO := Lib.hid (hv.two hi)
      have hik : i < k := by rw [← HLN.out]; exact hi
      have hk6 : k ≤ 6 := by rw [← HLN.out]; exact hv.n6
      clear hok hv hi hko hbb hself hkk hbd
      generalize fK (64 + bK xss i) = VS at *
      generalize frU (bK xss i) 64 = U at *
      generalize frD (bK xss i) 64 = D at *
      generalize frU (kK xss i i) 64 = U2 at *
      generalize frD (kK xss i i) 64 = D2 at *
      go_wp2_with fail
      refine (HCI.out _ HX.out).mono ?_
      rintro e w2 ⟨rfl, hb⟩
      have HB := Lib.hid (below_up HB.out hb)
      have HX := Lib.hid (HX.out.keep (Keep.below hb))
      clear hb
      have hb := below_alloc w2 (.cells #[.int .i64 U, .int .i64 D] 28)
      have HB5 := Lib.hid (blk_new w2 28 #[.int .i64 U, .int .i64 D])
      have HB := Lib.hid (below_up HB.out hb)
      have HX := Lib.hid (HX.out.keep (Keep.below hb))
      clear hb
      go_wp2_with fail
      generalize w2.alloc (.cells #[.int .i64 U, .int .i64 D] 28) = wa at *
      generalize w2.heap.size = h5 at *
      refine (HCS.out _ HX.out).mono ?_
      rintro e w3 ⟨rfl, hb⟩
      have HB := Lib.hid (below_up HB.out hb)
      have HX := Lib.hid (HX.out.keep (Keep.below hb))
      have HB5 := Lib.hid (blk_below HB5.out hb)
      clear hb HCI HCS
      have hb := below_alloc w3 (.cells #[.int .i64 U, .int .i64 D] 28)
      have HB7 := Lib.hid (blk_new w3 28 #[.int .i64 U, .int .i64 D])
      have HB := Lib.hid (below_up HB.out hb)
      have HX := Lib.hid (HX.out.keep (Keep.below hb))
      have HB5 := Lib.hid (blk_below HB5.out hb)
      clear hb
      have c0 := blk_cell HB5.out (i := 0) rfl
      have c1 := blk_cell HB5.out (i := 1) rfl
      have c2 := blk_cell HB7.out (i := 0) rfl
      have c3 := blk_cell HB7.out (i := 1) rfl
      go_wp2_with fail
      clear c0 c1 c2 c3
      generalize w3.alloc (.cells #[.int .i64 U, .int .i64 D] 28) = wb at *
      generalize w3.heap.size = h7 at *
      refine (HCK.out _ HX.out).mono ?_
      rintro e w4 ⟨rfl, hb⟩
      have HB := Lib.hid (below_up HB.out hb)
      have HX := Lib.hid (HX.out.keep (Keep.below hb))
      have HB5 := Lib.hid (blk_below HB5.out hb)
      have HB7 := Lib.hid (blk_below HB7.out hb)
      clear hb HCK
      have hb := below_alloc w4 (.cells #[.int .i64 U2, .int .i64 D2] 28)
      have HB9 := Lib.hid (blk_new w4 28 #[.int .i64 U2, .int .i64 D2])
      have HB := Lib.hid (below_up HB.out hb)
      have HX := Lib.hid (HX.out.keep (Keep.below hb))
      have HB5 := Lib.hid (blk_below HB5.out hb)
      have HB7 := Lib.hid (blk_below HB7.out hb)
      clear hb
      obtain ⟨b, o, rfl, hc⟩ := HX.out.at_ (by omega)
      obtain ⟨R, cc, r1, hR⟩ := hc i hik
      have hlen := HTWO.out
      rw [hlen] at r1 hR
      obtain ⟨b2, o2, rfl, hc2⟩ := hR.at_ (by omega)
      have r2 := hc2 0 (by omega)
      simp only [Nat.add_zero] at r2
      replace r2 : (w4.alloc (.cells #[.int .i64 U2, .int .i64 D2] 28)).cell? ⟨b2, o2, none⟩ = some (.int .i64 (g2 xss i 0)) := r2
      have c0 := blk_cell HB5.out (i := 0) rfl
      have c1 := blk_cell HB5.out (i := 1) rfl
      clear hc hc2 hR hlen HTWO HX HB7
      have HSW := Lib.hid (fun W' (k : Below (w4.alloc (.cells #[.int .i64 U2, .int .i64 D2] 28)).heap.size (w4.alloc (.cells #[.int .i64 U2, .int .i64 D2] 28)) W') => show (W'.cell? ⟨h5, 0, none⟩ = some (.int .i64 U) ∧ W'.cell? ⟨h5, 1, none⟩ = some (.int .i64 D)) ∧ (W'.cell? ⟨w4.heap.size, 0, none⟩ = some (.int .i64 U2) ∧ W'.cell? ⟨w4.heap.size, 1, none⟩ = some (.int .i64 D2)) from
        ⟨⟨blk_cell (blk_below HB5.out k) (i := 0) rfl, blk_cell (blk_below HB5.out k) (i := 1) rfl⟩, ⟨blk_cell (blk_below HB9.out k) (i := 0) rfl, blk_cell (blk_below HB9.out k) (i := 1) rfl⟩⟩)
      have hdec : decide (0 ≤ U) = true := by simpa using hU0
      generalize hg : g2 xss i 0 = G at *
      clear hg
      by_cases hg0 : G < 0
      · have hu0 := HN0.out hg0
        subst hu0
        go_wp2
        generalize w4.alloc (.cells #[.int .i64 U2, .int .i64 D2] 28) = wc at *
        generalize w4.heap.size = h9 at *
        have DX := Lib.hid (Below.refl wc.heap.size wc)
        have SX := Lib.hid (HSW.out _ DX.out)
        clear c0 c1 r1 r2
        go_region_held3 (fun W => (W.cell? ⟨h5, 0, none⟩ = some (.int .i64 0) ∧ W.cell? ⟨h5, 1, none⟩ = some (.int .i64 D)) ∧ (W.cell? ⟨h9, 0, none⟩ = some (.int .i64 U2) ∧ W.cell? ⟨h9, 1, none⟩ = some (.int .i64 D2)))
          (first | exact SX.out | exact HSW.out _ DX.out | exact HSW.out _ DX.out.drew | go_keep)
          (first
          | (go_at_call 30; (with_reducible refine (HF1.out _).mono ?_); rintro e v1 ⟨rfl, hb⟩; have DX := Lib.hid (show Below wc.heap.size wc v1 from by first | exact below_up DX.out hb | exact below_up DX.out.drew hb); have SX := Lib.hid (HSW.out _ DX.out); clear hb)
          | (go_at_call 30; (with_reducible refine (HF2.out _).mono ?_); rintro e v1 ⟨rfl, hb⟩; have DX := Lib.hid (show Below wc.heap.size wc v1 from by first | exact below_up DX.out hb | exact below_up DX.out.drew hb); have SX := Lib.hid (HSW.out _ DX.out); clear hb)
          | (go_at_call 29; (with_reducible refine (HLS.out _).mono ?_); rintro e v1 ⟨rfl, hb⟩; have DX := Lib.hid (show Below wc.heap.size wc v1 from by first | exact below_up DX.out hb | exact below_up DX.out.drew hb); have SX := Lib.hid (HSW.out _ DX.out); clear hb)
          | (go_at_call 32; (with_reducible refine (HPL.out _).mono ?_); rintro e v1 ⟨rfl, hb⟩; have DX := Lib.hid (show Below wc.heap.size wc v1 from by first | exact below_up DX.out hb | exact below_up DX.out.drew hb); have SX := Lib.hid (HSW.out _ DX.out); clear hb)
          | (go_at_call 31; (with_reducible refine (HTM.out _).mono ?_); rintro e v1 ⟨rfl, hb⟩; have DX := Lib.hid (show Below wc.heap.size wc v1 from by first | exact below_up DX.out hb | exact below_up DX.out.drew hb); have SX := Lib.hid (HSW.out _ DX.out); clear hb)
          | fail)
        all_goals
          have HEE := Lib.hid (below_up HB.out DX.out)
          clear SX DX
          go_wp2
          go_ret
          exact ⟨rfl, HEE.out⟩
      · go_wp2
        generalize w4.alloc (.cells #[.int .i64 U2, .int .i64 D2] 28) = wc at *
        generalize w4.heap.size = h9 at *
        have DX := Lib.hid (Below.refl wc.heap.size wc)
        have SX := Lib.hid (HSW.out _ DX.out)
        clear c0 c1 r1 r2
        go_region_held3 (fun W => (W.cell? ⟨h5, 0, none⟩ = some (.int .i64 U) ∧ W.cell? ⟨h5, 1, none⟩ = some (.int .i64 D)) ∧ (W.cell? ⟨h9, 0, none⟩ = some (.int .i64 U2) ∧ W.cell? ⟨h9, 1, none⟩ = some (.int .i64 D2)))
          (first | exact SX.out | exact HSW.out _ DX.out | exact HSW.out _ DX.out.drew | go_keep)
          (first
          | (go_at_call 30; (with_reducible refine (HF1.out _).mono ?_); rintro e v1 ⟨rfl, hb⟩; have DX := Lib.hid (show Below wc.heap.size wc v1 from by first | exact below_up DX.out hb | exact below_up DX.out.drew hb); have SX := Lib.hid (HSW.out _ DX.out); clear hb)
          | (go_at_call 30; (with_reducible refine (HF2.out _).mono ?_); rintro e v1 ⟨rfl, hb⟩; have DX := Lib.hid (show Below wc.heap.size wc v1 from by first | exact below_up DX.out hb | exact below_up DX.out.drew hb); have SX := Lib.hid (HSW.out _ DX.out); clear hb)
          | (go_at_call 29; (with_reducible refine (HLS.out _).mono ?_); rintro e v1 ⟨rfl, hb⟩; have DX := Lib.hid (show Below wc.heap.size wc v1 from by first | exact below_up DX.out hb | exact below_up DX.out.drew hb); have SX := Lib.hid (HSW.out _ DX.out); clear hb)
          | (go_at_call 32; (with_reducible refine (HPL.out _).mono ?_); rintro e v1 ⟨rfl, hb⟩; have DX := Lib.hid (show Below wc.heap.size wc v1 from by first | exact below_up DX.out hb | exact below_up DX.out.drew hb); have SX := Lib.hid (HSW.out _ DX.out); clear hb)
          | (go_at_call 31; (with_reducible refine (HTM.out _).mono ?_); rintro e v1 ⟨rfl, hb⟩; have DX := Lib.hid (show Below wc.heap.size wc v1 from by first | exact below_up DX.out hb | exact below_up DX.out.drew hb); have SX := Lib.hid (HSW.out _ DX.out); clear hb)
          | fail)
        all_goals
          have HEE := Lib.hid (below_up HB.out DX.out)
          clear SX DX
          go_wp2
          go_ret
          exact ⟨rfl, HEE.out⟩
    · have HCI : Hid (∀ W, IntRows W Av k cv xss → Calls Try.prog 22 #[.slice Av k cv, .int .i64 i] W (Ret (.tuple #[.agg #[.int .i64 0, .int .i64 0], .bool false]) W)) := Lib.hid (fun W hx => by
        have h := InbredOf_impl _ _ _ xss i W hx HFI.out
        rw [inbF_no hok, pb_false hok] at h
        exact h)
      have HCS : Hid (∀ W, IntRows W Av k cv xss → Calls Try.prog 21 #[.slice Av k cv, .int .i64 i] W (Ret (.tuple #[.agg #[.int .i64 0, .int .i64 0], .bool false]) W)) := Lib.hid (fun W hx => by
        have h := InbredOf_spec _ _ _ xss i W hx HFI.out
        rw [inbF_no hok, pb_false hok] at h
        exact h)
      clear hok
      go_wp2_with fail
      refine (HCI.out _ HX.out).mono ?_
      rintro e w2 ⟨rfl, hb⟩
      have HB := Lib.hid (below_up HB.out hb)
      have HX := Lib.hid (HX.out.keep (Keep.below hb))
      clear hb
      have hb := below_alloc w2 (.cells #[.int .i64 0, .int .i64 0] 28)
      have HB5 := Lib.hid (blk_new w2 28 #[.int .i64 0, .int .i64 0])
      have HB := Lib.hid (below_up HB.out hb)
      have HX := Lib.hid (HX.out.keep (Keep.below hb))
      clear hb
      go_wp2_with fail
      generalize w2.alloc (.cells #[.int .i64 0, .int .i64 0] 28) = wa at *
      generalize w2.heap.size = h5 at *
      refine (HCS.out _ HX.out).mono ?_
      rintro e w3 ⟨rfl, hb⟩
      have HB := Lib.hid (below_up HB.out hb)
      have HX := Lib.hid (HX.out.keep (Keep.below hb))
      have HB5 := Lib.hid (blk_below HB5.out hb)
      clear hb HCI HCS
      have hb := below_alloc w3 (.cells #[.int .i64 0, .int .i64 0] 28)
      have HB7 := Lib.hid (blk_new w3 28 #[.int .i64 0, .int .i64 0])
      have HB := Lib.hid (below_up HB.out hb)
      have HX := Lib.hid (HX.out.keep (Keep.below hb))
      have HB5 := Lib.hid (blk_below HB5.out hb)
      clear hb
      have c0 := blk_cell HB5.out (i := 0) rfl
      have c1 := blk_cell HB5.out (i := 1) rfl
      have c2 := blk_cell HB7.out (i := 0) rfl
      have c3 := blk_cell HB7.out (i := 1) rfl
      go_wp2
      go_ret
      exact ⟨rfl, HB.out⟩

set_option maxRecDepth 100000 in
theorem hFnInbredOf_lifted (os : Os) (started : os.Started) (H : Type) (enc : TypeId × Value → H) :
    ReturnsInHanded {} Try.checked os 9 .any (Rows.fnInbredOfSpec.pre6 enc Try.prog Try.f9 Rows.fnInbredOfRow.domain false) (Rows.fnInbredOfSpec.post enc Try.prog Try.f9 false true false false) := by
  refine returnsInHanded_of_change_sized (C := Try.checked) Try.own started (by kernel_rfl) Try.func9
    (ChangeSpec.witness6 (enc := enc) (C := Try.checked) false ⟨#[], #[.slice none 0 0], []⟩ 8 (by kernel_rfl) (by kernel_rfl) (by kernel_rfl) (by kernel_rfl)) ?_
  intro W base args ds gs before hval0 hW _ hwt _
  have hval : ∀ (j : Nat) t v, Try.f9.params[j]? = some t → args[j]? = some v → Value.okWide Try.prog W .any base t v := hval0
  have hA : ∃ p, DataW.TrodAll enc Try.prog W 0 (fun _ => true) true Try.f9.params.toList args.toList ds p := by obtain ⟨p, q, hA0, _⟩ := hW; exact ⟨p, hA0⟩
  obtain ⟨p, hA⟩ := hA
  have hwt' := weights_arg hwt (j := 0) (t := 38) (by rw [Try.params9]; rfl) (d := ds.getD 0 .nil)
  rw [Try.params9] at hA hval
  obtain ⟨v0, d0, rfl, rfl, h0⟩ := trodAll_one hA
  obtain ⟨A, n, c, rfl, hx⟩ := open_bytes (hval 0 38 v0 rfl rfl) h0 (hwt' rfl)
  refine (fnInbredOf_calls A n c W hx).mono fun e W' ⟨he, hb⟩ => ?_
  subst he
  exact ⟨_, rfl, law_post (F := Try.f9) rfl rfl (by rw [Try.params9]; simp only [List.mem_cons, List.not_mem_nil, or_false, forall_eq]; exact ⟨by kernel_rfl, of_decide_eq_true (by kernel_rfl)⟩) hW (fun h => by subst h; rfl) hb⟩

theorem hFnInbredOf_holds : Rows.FnInbredOfSaid :=
  OpenClaim.holds_of_wide 9 Try.f9 rfl rfl rfl rfl rfl rfl rfl ⟨rfl, rfl, rfl, rfl, rfl⟩ rfl rfl rfl rfl rfl (by kernel_rfl) Try.func9
    (by unfold joinedFacts; simp only [Bool.and_eq_true]; (repeat' apply And.intro) <;> (first | (with_reducible exact prog_enters) | ((with_reducible refine prog_lifts ?_); rfl) | ((with_reducible refine prog_make ?_); rfl) | kernel_rfl))
    (of_decide_eq_true (by kernel_rfl)) (by unfold Func.isWrapper; first | (rw [if_pos (by decide +kernel)]; kernel_rfl) | (rw [if_neg (by decide +kernel)]; exact ⟨rfl, rfl⟩))
    (fun os started H enc _ => hFnInbredOf_lifted os started H enc)

end Go.Proofs.Ytlfljcemcaphcaa
