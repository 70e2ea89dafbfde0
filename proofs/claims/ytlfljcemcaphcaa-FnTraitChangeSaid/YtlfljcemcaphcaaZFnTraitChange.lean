/- The law FnTraitChange holds: of the rows that are drawn the program tells both numbers as the model does, and together they are the mean trait of all children less that of all rows. No condition. -/
import Derived.Test.YtlfljcemcaphcaaQ8
namespace Go.Proofs.Ytlfljcemcaphcaa
open Go.ChangeShapes Go.WideShapes Go.ChangeAt Go.RowKit Go.Deep

def tlF (a : List (List Int)) : Nat → Int := sf (fun i => g2 a i 1 * g2 a i 2)
theorem tl_sum (a : List (List Int)) : ∀ k, tlF a k = tpF a k + tdF a k
  | 0 => rfl
  | k + 1 => by
    have h := tl_sum a k
    show tlF a k + g2 a k 1 * g2 a k 2 = (tpF a k + g2 a k 0 * g2 a k 1) + (tdF a k + (g2 a k 2 - g2 a k 0) * g2 a k 1)
    grind
theorem VTr.prod2 {a : List (List Int)} (v : VTr a) {i : Nat} (hi : i < a.length) : -81 ≤ g2 a i 1 * g2 a i 2 ∧ g2 a i 1 * g2 a i 2 ≤ 81 := by
  obtain ⟨_, h1, h2⟩ := v.row hi
  have a1 := xy_bd (A := 9) h2 h1 (by omega)
  rw [Int.mul_comm]
  omega
theorem VTr.sum2 {a : List (List Int)} (v : VTr a) {k : Nat} (hk : k ≤ a.length) : -486 ≤ tlF a k ∧ tlF a k ≤ 486 := by
  have n6 := v.n6
  have h1 := sf_bd (g := fun i => g2 a i 1 * g2 a i 2) (lo := -81) (hi := 81) (k := k) (fun j hj => v.prod2 (by omega))
  unfold tlF
  omega
/-- Both numbers together, in one fraction. -/
theorem tr_both {P Z W D L n : Int} (hn : 0 < n) (hw : 0 < W) (hl : L = P + D) :
    frV (frU (P * n - Z * W) (n * W) * frD D W + frU D W * frD (P * n - Z * W) (n * W)) (frD (P * n - Z * W) (n * W) * frD D W) = frV (L * n + -Z * W) (W * n) ∧
    frV (frU L W * frD (-Z) n + frU (-Z) n * frD L W) (frD L W * frD (-Z) n) = frV (L * n + -Z * W) (W * n) := by
  have hnw : 0 < n * W := Int.mul_pos hn hw
  have hwn : 0 < W * n := Int.mul_pos hw hn
  obtain ⟨a1, a2⟩ := fr_add (u := P * n - Z * W) (d := n * W) (v := D) (e := W) hnw hw
  obtain ⟨b1, b2⟩ := fr_add (u := L) (d := W) (v := -Z) (e := n) hw hn
  obtain ⟨c1, c2⟩ := fr_eq (u := (P * n - Z * W) * W + D * (n * W)) (d := n * W * W) (v := L * n + -Z * W) (e := W * n) (Int.mul_pos hnw hw) hwn (by subst hl; grind)
  unfold frV
  rw [a1, a2, b1, b2, c1, c2]
  exact ⟨rfl, rfl⟩

set_option maxRecDepth 100000 in
set_option maxHeartbeats 6400000 in
theorem fnTraitChange_calls (A : Option Addr) (n c : Nat) (w : World) (hx : Bytes w A n c) :
    Calls Try.prog 11 #[.slice A n c] w fun e w' => e = .returned (.bool true) ∧ Below w.heap.size w w' := by
  have hmx := hx.max
  have H0 := Lib.hid (DrawTraitChange_any A n c w hx)
  clear hx
  by_cases hs : 1048576 < n
  · go_enter Try.func11, Try.ntmps11
    go_wp2
    go_ret
    exact ⟨rfl, Below.refl _ _⟩
  · go_enter Try.func11, Try.ntmps11
    go_wp2_with fail
    refine H0.out.mono ?_
    rintro e w1 ⟨Av, k, cv, xss, rfl, hr, hb⟩
    have HB := Lib.hid hb
    have HX := Lib.hid hr
    have hm := hr.max
    have HLN := Lib.hid hr.len
    clear hr hb H0
    by_cases hv : VTr xss
    · have hy := tr_yes hv HLN.out
      have hk6 : k ≤ 6 := by rw [← HLN.out]; exact hv.n6
      have hk1 : 1 ≤ k := by rw [← HLN.out]; exact hv.n1
      obtain ⟨⟨fp1, fp2⟩, ⟨fz1, fz2⟩, ⟨fn1, fn2⟩, fw⟩ := hv.fin HLN.out
      obtain ⟨⟨ft1, ft2⟩, ⟨_, fw2⟩, ⟨fq1, fq2⟩, ⟨fd1, fd2⟩⟩ := hv.sums (k := k) (by rw [HLN.out]; exact Nat.le_refl _)
      obtain ⟨fl1, fl2⟩ := hv.sum2 (k := k) (by rw [HLN.out]; exact Nat.le_refl _)
      obtain ⟨e1, e2⟩ := tr_both (P := tpF xss k) (Z := tzF xss k) (W := twF xss k) (D := tdF xss k) (L := tlF xss k) (n := k) (by omega) (by omega) (tl_sum xss k)
      have u1 := frU_bd (u := tpF xss k * k - tzF xss k * twF xss k) (d := k * twF xss k) (B := 10000) (by omega) (by omega)
      have u2 := frD_bd (u := tpF xss k * k - tzF xss k * twF xss k) (d := k * twF xss k) (B := 10000) (by omega) (by omega)
      have u3 := frU_bd (u := tdF xss k) (d := twF xss k) (B := 10000) (by omega) (by omega)
      have u4 := frD_bd (u := tdF xss k) (d := twF xss k) (B := 10000) (by omega) (by omega)
      have u5 := frU_bd (u := tlF xss k) (d := twF xss k) (B := 10000) (by omega) (by omega)
      have u6 := frD_bd (u := tlF xss k) (d := twF xss k) (B := 10000) (by omega) (by omega)
      have u7 := frU_bd (u := -tzF xss k) (d := (k : Int)) (B := 10000) (by omega) (by omega)
      have u8 := frD_bd (u := -tzF xss k) (d := (k : Int)) (B := 10000) (by omega) (by omega)
      have hp1 := fun W => plusOfH_any (frU (tpF xss k * k - tzF xss k * twF xss k) (k * twF xss k)) (frD (tpF xss k * k - tzF xss k * twF xss k) (k * twF xss k)) (frU (tdF xss k) (twF xss k)) (frD (tdF xss k) (twF xss k)) W (by omega) (by omega) (by omega) (by omega)
      have hp2 := fun W => plusOfH_any (frU (tlF xss k) (twF xss k)) (frD (tlF xss k) (twF xss k)) (frU (-tzF xss k) (k : Int)) (frD (-tzF xss k) (k : Int)) W (by omega) (by omega) (by omega) (by omega)
      rw [e1] at hp1
      rw [e2] at hp2
      obtain ⟨X, Y, hxy⟩ : ∃ X Y, frV (tlF xss k * k + -tzF xss k * twF xss k) (twF xss k * k) = .agg #[.int .i64 X, .int .i64 Y] := ⟨_, _, rfl⟩
      rw [hxy] at hp1 hp2
      have HP1 := Lib.hid hp1
      have HP2 : Hid (∀ W, Calls Try.prog 32 #[frV (tlF xss k) (twF xss k), frV (-tzF xss k) (k : Int)] W (Ret (.agg #[.int .i64 X, .int .i64 Y]) W)) := Lib.hid hp2
      have HF1 := Lib.hid (fun W => fracOfH_any (tlF xss k) (twF xss k) W (by unfold Hug; omega) (by unfold Hug; omega) fw)
      have HF2 := Lib.hid (fun W => fracOfH_any (-tzF xss k) (k : Int) W (by unfold Hug; omega) (by unfold Hug; omega) (by omega))
      have HCI : Hid (∀ W, IntRows W Av k cv xss → Calls Try.prog 26 #[.slice Av k cv] W (Ret (.tuple #[.agg #[.int .i64 (frU (tpF xss k * k - tzF xss k * twF xss k) (k * twF xss k)), .int .i64 (frD (tpF xss k * k - tzF xss k * twF xss k) (k * twF xss k))], .agg #[.int .i64 (frU (tdF xss k) (twF xss k)), .int .i64 (frD (tdF xss k) (twF xss k))], .bool true]) W)) := Lib.hid (fun W hx => by
        have h := TraitChange_impl _ _ _ xss W hx
        rw [hy.1, hy.2, pb_true hv] at h
        exact h)
      have HCS : Hid (∀ W, IntRows W Av k cv xss → Calls Try.prog 25 #[.slice Av k cv] W (Ret (.tuple #[.agg #[.int .i64 (frU (tpF xss k * k - tzF xss k * twF xss k) (k * twF xss k)), .int .i64 (frD (tpF xss k * k - tzF xss k * twF xss k) (k * twF xss k))], .agg #[.int .i64 (frU (tdF xss k) (twF xss k)), .int .i64 (frD (tdF xss k) (twF xss k))], .bool true]) W)) := Lib.hid (fun W hx => by
        have h := TraitChange_spec _ _ _ xss W hx
        rw [hy.1, hy.2, pb_true hv] at h
        exact h)
      have HV := Lib.hid hv
      clear hy hv e1 e2 u1 u2 u3 u4 u5 u6 u7 u8 hp1 hp2 hxy fp1 fp2 fz1 fz2 fn1 fn2 fq1 fq2 fd1 fd2
      generalize frU (tpF xss k * k - tzF xss k * twF xss k) (k * twF xss k) = U at *
      generalize frD (tpF xss k * k - tzF xss k * twF xss k) (k * twF xss k) = D at *
      generalize frU (tdF xss k) (twF xss k) = V at *
      generalize frD (tdF xss k) (twF xss k) = E at *
      go_wp2_with fail
      refine (HCI.out _ HX.out).mono ?_
      rintro e w2 ⟨rfl, hb⟩
      have HB := Lib.hid (below_up HB.out hb)
      have HX := Lib.hid (HX.out.keep (Keep.below hb))
      clear hb
      have hb := below_up (below_alloc w2 (.cells #[.int .i64 U, .int .i64 D] 28)) (below_alloc (w2.alloc (.cells #[.int .i64 U, .int .i64 D] 28)) (.cells #[.int .i64 V, .int .i64 E] 28))
      have HPa := Lib.hid (blk_old (blk_new w2 28 #[.int .i64 U, .int .i64 D]) (.cells #[.int .i64 V, .int .i64 E] 28))
      have HPb := Lib.hid (show Blk ((w2.alloc (.cells #[.int .i64 U, .int .i64 D] 28)).alloc (.cells #[.int .i64 V, .int .i64 E] 28)) (w2.heap.size + 1) 28 #[.int .i64 V, .int .i64 E] from by have h := blk_new (w2.alloc (.cells #[.int .i64 U, .int .i64 D] 28)) 28 #[.int .i64 V, .int .i64 E]; rw [World.size_alloc] at h; exact h)
      have HB := Lib.hid (below_up HB.out hb)
      have HX := Lib.hid (HX.out.keep (Keep.below hb))
      clear hb
      go_wp2_with fail
      generalize (w2.alloc (.cells #[.int .i64 U, .int .i64 D] 28)).alloc (.cells #[.int .i64 V, .int .i64 E] 28) = wa at *
      generalize w2.heap.size = h4 at *
      refine (HCS.out _ HX.out).mono ?_
      rintro e w3 ⟨rfl, hb⟩
      have HB := Lib.hid (below_up HB.out hb)
      have HX := Lib.hid (HX.out.keep (Keep.below hb))
      have HPa := Lib.hid (blk_below HPa.out hb)
      have HPb := Lib.hid (blk_below HPb.out hb)
      clear hb HCI HCS
      have hb := below_up (below_alloc w3 (.cells #[.int .i64 U, .int .i64 D] 28)) (below_alloc (w3.alloc (.cells #[.int .i64 U, .int .i64 D] 28)) (.cells #[.int .i64 V, .int .i64 E] 28))
      have HQa := Lib.hid (blk_old (blk_new w3 28 #[.int .i64 U, .int .i64 D]) (.cells #[.int .i64 V, .int .i64 E] 28))
      have HQb := Lib.hid (show Blk ((w3.alloc (.cells #[.int .i64 U, .int .i64 D] 28)).alloc (.cells #[.int .i64 V, .int .i64 E] 28)) (w3.heap.size + 1) 28 #[.int .i64 V, .int .i64 E] from by have h := blk_new (w3.alloc (.cells #[.int .i64 U, .int .i64 D] 28)) 28 #[.int .i64 V, .int .i64 E]; rw [World.size_alloc] at h; exact h)
      have HB := Lib.hid (below_up HB.out hb)
      have HX := Lib.hid (HX.out.keep (Keep.below hb))
      have HPa := Lib.hid (blk_below HPa.out hb)
      have HPb := Lib.hid (blk_below HPb.out hb)
      clear hb
      have c0 := blk_cell HPa.out (i := 0) rfl
      have c1 := blk_cell HPa.out (i := 1) rfl
      have c2 := blk_cell HPb.out (i := 0) rfl
      have c3 := blk_cell HPb.out (i := 1) rfl
      have c4 := blk_cell HQa.out (i := 0) rfl
      have c5 := blk_cell HQa.out (i := 1) rfl
      have c6 := blk_cell HQb.out (i := 0) rfl
      have c7 := blk_cell HQb.out (i := 1) rfl
      go_wp2
      clear c0 c1 c2 c3 c4 c5 c6 c7
      generalize (w3.alloc (.cells #[.int .i64 U, .int .i64 D] 28)).alloc (.cells #[.int .i64 V, .int .i64 E] 28) = w5 at *
      clear HQa HQb
      go_loopw [10, 11, 12, 13] (fun z s t i_ wr => ∃ m : Nat, m ≤ k ∧ i_ = .int .i64 m ∧ z = .int .i64 (tzF xss m) ∧ s = .int .i64 (twF xss m) ∧ t = .int .i64 (tlF xss m) ∧ Quiet w5 wr) (fun _ _ _ i_ _ => k - (intOf i_).toNat)
      case atStart => exact ⟨0, Nat.zero_le _, rfl, rfl, rfl, rfl, Quiet.refl _⟩
      case round =>
        obtain ⟨m, hmk, rfl, rfl, rfl, rfl, q, rfl⟩ := hrel
        by_cases hlt : m < k
        · obtain ⟨b, o, rfl, hc⟩ := HX.out.at_ (by omega)
          obtain ⟨R, cc, c1, hR⟩ := hc m hlt
          have hka : m < xss.length := by rw [HLN.out]; exact hlt
          have hlen := (HV.out.rows m hka).1
          rw [hlen] at c1 hR
          obtain ⟨b2, o2, rfl, hc2⟩ := hR.at_ (by omega)
          have c20 := hc2 0 (by omega)
          have c21 := hc2 1 (by omega)
          have c22 := hc2 2 (by omega)
          simp only [Nat.add_zero] at c20
          replace c20 : w5.cell? ⟨b2, o2, none⟩ = some (.int .i64 (g2 xss m 0)) := c20
          replace c21 : w5.cell? ⟨b2, o2 + 1, none⟩ = some (.int .i64 (g2 xss m 1)) := c21
          replace c22 : w5.cell? ⟨b2, o2 + 2, none⟩ = some (.int .i64 (g2 xss m 2)) := c22
          obtain ⟨⟨x1, x2⟩, ⟨y1, y2⟩, ⟨z1, z2⟩⟩ := HV.out.row hka
          obtain ⟨p1, p2⟩ := HV.out.prod2 hka
          obtain ⟨⟨s1, s2⟩, ⟨s3, s4⟩, _, _⟩ := HV.out.sums (k := m) (by omega)
          obtain ⟨s5, s6⟩ := HV.out.sum2 (k := m) (by omega)
          have HS : Hid ((tzF xss (m + 1) = tzF xss m + g2 xss m 0 ∧ twF xss (m + 1) = twF xss m + g2 xss m 1) ∧ tlF xss (m + 1) = tlF xss m + g2 xss m 1 * g2 xss m 2) := Lib.hid ⟨⟨rfl, rfl⟩, rfl⟩
          clear hc hc2 hR hlen hka
          generalize g2 xss m 0 = x at *
          generalize g2 xss m 1 = y at *
          generalize g2 xss m 2 = z at *
          generalize tzF xss m = TZ at *
          generalize twF xss m = TW at *
          generalize tlF xss m = TL at *
          go_wp2
          go_quiet (fail)
          go_wp2
          go_roundw
          case rel => exact ⟨m + 1, by omega, by go_num, by rw [HS.out.1.1], by rw [HS.out.1.2], by rw [HS.out.2], by first | exact ⟨_, rfl⟩ | exact Quiet.two _ _ _⟩
          case measure => simp [intOf]; omega
        · obtain rfl : m = k := by omega
          have hb := Quiet.below (B := w5.heap.size) (w := w5) (w' := w5.drewN q) ⟨q, rfl⟩
          have HB := Lib.hid (below_up HB.out hb)
          have c0 := blk_cell (blk_below HPa.out hb) (i := 0) rfl
          have c1 := blk_cell (blk_below HPa.out hb) (i := 1) rfl
          have c2 := blk_cell (blk_below HPb.out hb) (i := 0) rfl
          have c3 := blk_cell (blk_below HPb.out hb) (i := 1) rfl
          clear hb HX HPa HPb HV
          generalize w5.drewN q = w6 at *
          generalize hTZ : tzF xss m = TZ at *
          generalize hTW : twF xss m = TW at *
          generalize hTL : tlF xss m = TL at *
          clear hTZ hTW hTL
          go_wp2_with fail
          refine (HP1.out _).mono ?_
          rintro e w7 ⟨rfl, hb⟩
          have HB := Lib.hid (below_up HB.out hb)
          clear hb HP1 c0 c1 c2 c3
          go_wp2_with fail
          refine (HF1.out _).mono ?_
          rintro e w8 ⟨rfl, hb⟩
          have HB := Lib.hid (below_up HB.out hb)
          clear hb HF1
          go_wp2_with fail
          refine (HF2.out _).mono ?_
          rintro e w9 ⟨rfl, hb⟩
          have HB := Lib.hid (below_up HB.out hb)
          clear hb HF2
          go_wp2_with fail
          refine (HP2.out _).mono ?_
          rintro e w10 ⟨rfl, hb⟩
          have HB := Lib.hid (below_up HB.out hb)
          clear hb HP2
          go_wp2
          go_ret
          exact ⟨rfl, HB.out⟩
    · have hy := tr_no hv
      have HCI : Hid (∀ W, IntRows W Av k cv xss → Calls Try.prog 26 #[.slice Av k cv] W (Ret (.tuple #[.agg #[.int .i64 0, .int .i64 0], .agg #[.int .i64 0, .int .i64 0], .bool false]) W)) := Lib.hid (fun W hx => by
        have h := TraitChange_impl _ _ _ xss W hx
        rw [hy.1, hy.2, pb_false hv] at h
        exact h)
      have HCS : Hid (∀ W, IntRows W Av k cv xss → Calls Try.prog 25 #[.slice Av k cv] W (Ret (.tuple #[.agg #[.int .i64 0, .int .i64 0], .agg #[.int .i64 0, .int .i64 0], .bool false]) W)) := Lib.hid (fun W hx => by
        have h := TraitChange_spec _ _ _ xss W hx
        rw [hy.1, hy.2, pb_false hv] at h
        exact h)
      clear hy hv
      go_wp2_with fail
      refine (HCI.out _ HX.out).mono ?_
      rintro e w2 ⟨rfl, hb⟩
      have HB := Lib.hid (below_up HB.out hb)
      have HX := Lib.hid (HX.out.keep (Keep.below hb))
      clear hb
      have hb := below_up (below_alloc w2 (.cells #[.int .i64 0, .int .i64 0] 28)) (below_alloc (w2.alloc (.cells #[.int .i64 0, .int .i64 0] 28)) (.cells #[.int .i64 0, .int .i64 0] 28))
      have HPa := Lib.hid (blk_old (blk_new w2 28 #[.int .i64 0, .int .i64 0]) (.cells #[.int .i64 0, .int .i64 0] 28))
      have HPb := Lib.hid (show Blk ((w2.alloc (.cells #[.int .i64 0, .int .i64 0] 28)).alloc (.cells #[.int .i64 0, .int .i64 0] 28)) (w2.heap.size + 1) 28 #[.int .i64 0, .int .i64 0] from by have h := blk_new (w2.alloc (.cells #[.int .i64 0, .int .i64 0] 28)) 28 #[.int .i64 0, .int .i64 0]; rw [World.size_alloc] at h; exact h)
      have HB := Lib.hid (below_up HB.out hb)
      have HX := Lib.hid (HX.out.keep (Keep.below hb))
      clear hb
      go_wp2_with fail
      generalize (w2.alloc (.cells #[.int .i64 0, .int .i64 0] 28)).alloc (.cells #[.int .i64 0, .int .i64 0] 28) = wa at *
      generalize w2.heap.size = h4 at *
      refine (HCS.out _ HX.out).mono ?_
      rintro e w3 ⟨rfl, hb⟩
      have HB := Lib.hid (below_up HB.out hb)
      have HX := Lib.hid (HX.out.keep (Keep.below hb))
      have HPa := Lib.hid (blk_below HPa.out hb)
      have HPb := Lib.hid (blk_below HPb.out hb)
      clear hb HCI HCS
      have hb := below_up (below_alloc w3 (.cells #[.int .i64 0, .int .i64 0] 28)) (below_alloc (w3.alloc (.cells #[.int .i64 0, .int .i64 0] 28)) (.cells #[.int .i64 0, .int .i64 0] 28))
      have HQa := Lib.hid (blk_old (blk_new w3 28 #[.int .i64 0, .int .i64 0]) (.cells #[.int .i64 0, .int .i64 0] 28))
      have HQb := Lib.hid (show Blk ((w3.alloc (.cells #[.int .i64 0, .int .i64 0] 28)).alloc (.cells #[.int .i64 0, .int .i64 0] 28)) (w3.heap.size + 1) 28 #[.int .i64 0, .int .i64 0] from by have h := blk_new (w3.alloc (.cells #[.int .i64 0, .int .i64 0] 28)) 28 #[.int .i64 0, .int .i64 0]; rw [World.size_alloc] at h; exact h)
      have HB := Lib.hid (below_up HB.out hb)
      have HX := Lib.hid (HX.out.keep (Keep.below hb))
      have HPa := Lib.hid (blk_below HPa.out hb)
      have HPb := Lib.hid (blk_below HPb.out hb)
      clear hb
      have c0 := blk_cell HPa.out (i := 0) rfl
      have c1 := blk_cell HPa.out (i := 1) rfl
      have c2 := blk_cell HPb.out (i := 0) rfl
      have c3 := blk_cell HPb.out (i := 1) rfl
      have c4 := blk_cell HQa.out (i := 0) rfl
      have c5 := blk_cell HQa.out (i := 1) rfl
      have c6 := blk_cell HQb.out (i := 0) rfl
      have c7 := blk_cell HQb.out (i := 1) rfl
      go_wp2
      go_ret
      exact ⟨rfl, HB.out⟩

set_option maxRecDepth 100000 in
theorem hFnTraitChange_lifted (os : Os) (started : os.Started) (H : Type) (enc : TypeId × Value → H) :
    ReturnsInHanded {} Try.checked os 11 .any (Rows.fnTraitChangeSpec.pre6 enc Try.prog Try.f11 Rows.fnTraitChangeRow.domain false) (Rows.fnTraitChangeSpec.post enc Try.prog Try.f11 false true false false) := by
  refine returnsInHanded_of_change_sized (C := Try.checked) Try.own started (by kernel_rfl) Try.func11
    (ChangeSpec.witness6 (enc := enc) (C := Try.checked) false ⟨#[], #[.slice none 0 0], []⟩ 8 (by kernel_rfl) (by kernel_rfl) (by kernel_rfl) (by kernel_rfl)) ?_
  intro W base args ds gs before hval0 hW _ hwt _
  have hval : ∀ (j : Nat) t v, Try.f11.params[j]? = some t → args[j]? = some v → Value.okWide Try.prog W .any base t v := hval0
  have hA : ∃ p, DataW.TrodAll enc Try.prog W 0 (fun _ => true) true Try.f11.params.toList args.toList ds p := by obtain ⟨p, q, hA0, _⟩ := hW; exact ⟨p, hA0⟩
  obtain ⟨p, hA⟩ := hA
  have hwt' := weights_arg hwt (j := 0) (t := 38) (by rw [Try.params11]; rfl) (d := ds.getD 0 .nil)
  rw [Try.params11] at hA hval
  obtain ⟨v0, d0, rfl, rfl, h0⟩ := trodAll_one hA
  obtain ⟨A, n, c, rfl, hx⟩ := open_bytes (hval 0 38 v0 rfl rfl) h0 (hwt' rfl)
  refine (fnTraitChange_calls A n c W hx).mono fun e W' ⟨he, hb⟩ => ?_
  subst he
  exact ⟨_, rfl, law_post (F := Try.f11) rfl rfl (by rw [Try.params11]; simp only [List.mem_cons, List.not_mem_nil, or_false, forall_eq]; exact ⟨by kernel_rfl, of_decide_eq_true (by kernel_rfl)⟩) hW (fun h => by subst h; rfl) hb⟩

theorem hFnTraitChange_holds : Rows.FnTraitChangeSaid :=
  OpenClaim.holds_of_wide 11 Try.f11 rfl rfl rfl rfl rfl rfl rfl ⟨rfl, rfl, rfl, rfl, rfl⟩ rfl rfl rfl rfl rfl (by kernel_rfl) Try.func11
    (by unfold joinedFacts; simp only [Bool.and_eq_true]; (repeat' apply And.intro) <;> (first | (with_reducible exact prog_enters) | ((with_reducible refine prog_lifts ?_); rfl) | ((with_reducible refine prog_make ?_); rfl) | kernel_rfl))
    (of_decide_eq_true (by kernel_rfl)) (by unfold Func.isWrapper; first | (rw [if_pos (by decide +kernel)]; kernel_rfl) | (rw [if_neg (by decide +kernel)]; exact ⟨rfl, rfl⟩))
    (fun os started H enc _ => hFnTraitChange_lifted os started H enc)

end Go.Proofs.Ytlfljcemcaphcaa
