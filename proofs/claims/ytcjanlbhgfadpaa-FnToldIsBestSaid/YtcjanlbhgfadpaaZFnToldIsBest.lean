/- The law FnToldIsBest holds: for all bytes at each of TalkRests at which both types say different things who hears has the most that there is for each type, and the program's TalkRests answers as the model's. No condition. -/
import Derived.Test.YtcjanlbhgfadpaaQ12
namespace Go.Proofs.Ytcjanlbhgfadpaa
open Go.ChangeShapes Go.WideShapes Go.ChangeAt Go.RowKit Go.Deep

set_option maxRecDepth 100000 in
set_option maxHeartbeats 3200000 in
theorem fnToldIsBest_calls (A : Option Addr) (n c : Nat) (w : World) (hx : Bytes w A n c) :
    Calls Try.prog 8 #[.slice A n c] w fun e w' => e = .returned (.bool true) ∧ Below w.heap.size w w' := by
  have hmx := hx.max
  have H0 := Lib.hid (DrawTalkRests_any A n c w hx)
  clear hx
  by_cases hs : 1048576 < n
  · go_enter Try.func8, Try.ntmps8
    go_wp2
    go_ret
    exact ⟨rfl, Below.refl _ _⟩
  · go_enter Try.func8, Try.ntmps8
    go_wp2_with fail
    refine H0.out.mono ?_
    rintro e w1 ⟨A1, c1, A2, c2, A3, c3, A4, c4, xs, ss, hs, ks, rfl, h, hb⟩
    clear H0
    have hal := below_alloc w1 (.cells #[.slice A1 2 c1, .slice A2 2 c2, .slice A3 2 c3, .slice A4 2 c4] 26)
    have Z := Lib.hid hal
    have K := Lib.hid (blk_new w1 26 #[.slice A1 2 c1, .slice A2 2 c2, .slice A3 2 c3, .slice A4 2 c4])
    have H0 := Lib.hid h
    have BB := Lib.hid hb
    clear hal h hb
    have HE := Lib.hid (show eqRR (trF xs ss hs ks) (trF xs ss hs ks) = true by simp [eqRR])
    go_wp2_with fail
    generalize w1.alloc (.cells #[.slice A1 2 c1, .slice A2 2 c2, .slice A3 2 c3, .slice A4 2 c4] 26) = w1a at *
    have SX := Lib.hid (show w1a.cell? ⟨w1.heap.size, 0, none⟩ = some (.slice A1 2 c1) ∧ w1a.cell? ⟨w1.heap.size, 1, none⟩ = some (.slice A2 2 c2) ∧ w1a.cell? ⟨w1.heap.size, 2, none⟩ = some (.slice A3 2 c3) ∧ w1a.cell? ⟨w1.heap.size, 3, none⟩ = some (.slice A4 2 c4) from ⟨blk_cell K.out rfl, blk_cell K.out rfl, blk_cell K.out rfl, blk_cell K.out rfl⟩)
    have Dx9 := Lib.hid (show Below w1.heap.size w1 w1a.drew from Z.out.drew)
    have Kx9 := Lib.hid (blk_below K.out ((Below.refl w1a.heap.size w1a).drew))
    have HC := Lib.hid (TalkRests_impl A1 A2 A3 A4 2 c1 2 c2 2 c3 2 c4 xs ss hs ks w1a.drew (H0.out.keep (Keep.below Dx9.out)))
    clear Z K
    go_region_held3 (fun W => W.cell? ⟨w1.heap.size, 0, none⟩ = some (.slice A1 2 c1) ∧ W.cell? ⟨w1.heap.size, 1, none⟩ = some (.slice A2 2 c2) ∧ W.cell? ⟨w1.heap.size, 2, none⟩ = some (.slice A3 2 c3) ∧ W.cell? ⟨w1.heap.size, 3, none⟩ = some (.slice A4 2 c4))
      (first | exact SX.out | go_keep)
      (first
      | (go_at_call 23; (with_reducible refine HC.out.mono ?_); rintro e v1 ⟨Ar, nr, cr, gr_, rfl, hnr, hor, hb⟩; subst hnr; have R_ := Lib.hid hor.rows; have SX := Lib.hid (And.intro (Keep.below hb _ _ SX.out.1) (And.intro (Keep.below hb _ _ SX.out.2.1) (And.intro (Keep.below hb _ _ SX.out.2.2.1) (Keep.below hb _ _ SX.out.2.2.2)))); have Dx9 := Lib.hid (below_up Dx9.out hb); have Kx9 := Lib.hid (blk_below Kx9.out hb); have HC2 := Lib.hid (TalkRests_spec A1 A2 A3 A4 2 c1 2 c2 2 c3 2 c4 xs ss hs ks v1 (H0.out.keep (Keep.below Dx9.out))); have HC3 := Lib.hid (TalkRests_spec A1 A2 A3 A4 2 c1 2 c2 2 c3 2 c4 xs ss hs ks v1.drew (H0.out.keep (Keep.below Dx9.out.drew))); clear hb hor HC)
      | (go_at_call 25; (first | (with_reducible refine HC2.out.mono ?_) | (with_reducible refine HC3.out.mono ?_)); rintro e v2 ⟨As, ns, cs, gs, rfl, hns, hos, hb⟩; subst hns; have S_ := Lib.hid hos.rows; have SX := Lib.hid (And.intro (Keep.below hb _ _ SX.out.1) (And.intro (Keep.below hb _ _ SX.out.2.1) (And.intro (Keep.below hb _ _ SX.out.2.2.1) (Keep.below hb _ _ SX.out.2.2.2)))); have R_ := Lib.hid (R_.out.keep (Keep.below hb)); have Dx9 := Lib.hid (below_up Dx9.out hb); have Kx9 := Lib.hid (blk_below Kx9.out hb); have HCE := Lib.hid (HE.out ▸ equalRows_any _ _ _ _ _ _ (trF xs ss hs ks) (trF xs ss hs ks) v2 R_.out S_.out); clear hb hos HC2 HC3)
      | (go_at_call 24; (with_reducible refine HCE.out.mono ?_); rintro e v3 ⟨rfl, hq⟩; have hb := hq.below (B := v2.heap.size); have SX := Lib.hid (And.intro (Keep.below hb _ _ SX.out.1) (And.intro (Keep.below hb _ _ SX.out.2.1) (And.intro (Keep.below hb _ _ SX.out.2.2.1) (Keep.below hb _ _ SX.out.2.2.2)))); have Dx9 := Lib.hid (below_up Dx9.out hb); have Kx9 := Lib.hid (blk_below Kx9.out hb); clear hb hq HCE R_ S_))
    clear SX
    have q0 := blk_cell Kx9.out (i := 0) rfl
    have q1 := blk_cell Kx9.out (i := 1) rfl
    have q2 := blk_cell Kx9.out (i := 2) rfl
    have q3 := blk_cell Kx9.out (i := 3) rfl
    have HC := Lib.hid (TalkRests_impl _ _ _ _ _ _ _ _ _ _ _ _ xs ss hs ks v3 (H0.out.keep (Keep.below Dx9.out)))
    go_wp2_with fail
    clear q0 q1 q2 q3
    refine HC.out.mono ?_
    rintro e w4 ⟨ArR_, nr, crR_, grR_, rfl, hnr, hor, hb⟩
    have Z_4 := Lib.hid (below_up Dx9.out hb)
    have K_4 := Lib.hid (blk_below Kx9.out hb)
    subst hnr
    have R_ := Lib.hid hor.rows
    clear hor
    clear hb HC  Dx9 Kx9
    by_cases v : VTk xs ss hs ks
    rotate_left
    · have hn := trF_no v
      skip
      have hN := Lib.hid (show (trF xs ss hs ks).length = 0 by rw [hn]; rfl)
      generalize trF xs ss hs ks = F at *
      have hz : F.length = 0 := hN.out
      rw [hz]
      go_wp2
      go_loopw [5] (fun i wr => i = .int .i64 0 ∧ Hid (Below w4.heap.size w4 wr)) (fun _ _ => 0)
      case atStart => exact ⟨rfl, Lib.hid (Below.refl _ _)⟩
      case round =>
        obtain ⟨rfl, HB⟩ := hrel
        go_wp2
        go_ret
        exact ⟨rfl, below_up BB.out (below_up Z_4.out HB.out)⟩
    obtain ⟨p, ⟨rfl, rfl, rfl, rfl⟩, -, ⟨rfl, rfl, rfl, rfl⟩, hv⟩ := H0.out.tv v
    have HV := Lib.hid hv
    clear hv
    have HR := Lib.hid (fun k (hk : k < (trF xs ss hs ks).length) => trF_rest v hk)
    have HL := Lib.hid (trF_len xs ss hs ks)
    have HLW := Lib.hid (show LW p w1 xs ss hs ks ArR_ (trF xs ss hs ks).length crR_ (trF xs ss hs ks) w4 from ⟨Z_4.out, K_4.out, R_.out⟩)
    clear Z_4 K_4 R_ HE
    generalize trF xs ss hs ks = F at *
    have hl16 := HL.out
    go_wp2
    go_loopw [5] (fun i wr => ∃ k : Nat, k ≤ F.length ∧ i = .int .i64 k ∧ Hid (LW p w1 xs ss hs ks ArR_ F.length crR_ F wr)) (fun i _ => F.length - (intOf i).toNat)
    case atStart => exact ⟨0, Nat.zero_le _, rfl, HLW⟩
    case round =>
      clear HLW
      obtain ⟨k, hk, rfl, HLW⟩ := hrel
      by_cases hlt : k < F.length
      · obtain ⟨s, r, hs4, hr4, hg, hT⟩ := HR.out k hlt
        have HT := Lib.hid hT
        have HG := Lib.hid hg
        clear hT hg
        obtain ⟨b, o, b2, o2, cc, eA, r1, d0, d1⟩ := row_at HLW.out.R hlt HG.out
        subst eA
        by_cases hs12 : s = 1 ∨ s = 2
        rotate_left
        · have m0 : s = 0 ∨ s = 3 := by omega
          have m1 : Int.tmod (s : Int) 3 = 0 := by rcases m0 with rfl | rfl <;> rfl
          clear m0
          have m2 : (s : Int) % 3 = 0 := by omega
          clear hs12 hs4 hr4
          go_wp2
          go_roundw
          case rel => exact ⟨k + 1, by omega, by go_num, HLW⟩
          case measure => simp [intOf]; omega
        have m1 : Int.tmod (s : Int) 3 = s := by rcases hs12 with rfl | rfl <;> rfl
        have m2 : (s : Int) % 3 = s := by omega
        have m3 : ((s : Int) == 0) = false := by simp; omega
        have m4 : ¬ (s : Int) = 0 := by omega
        have HBT := Lib.hid (told_best v hs12 hr4 HT.out)
        have HD := Lib.hid (HLW.out.up ((Below.refl _ _).drew))
        clear hs12 HT
        have q0 := blk_cell HLW.out.K (i := 0) rfl
        have q1 := blk_cell HLW.out.K (i := 1) rfl
        have q2 := blk_cell HLW.out.K (i := 2) rfl
        have q3 := blk_cell HLW.out.K (i := 3) rfl
        clear HLW
        go_wp2
        clear m1 m2 m3 m4
        have SX := Lib.hid (show wr.cell? ⟨w1.heap.size, 0, none⟩ = some (.slice (some ⟨p.b1, p.o1, none⟩) 2 p.c1) ∧ wr.cell? ⟨w1.heap.size, 1, none⟩ = some (.slice (some ⟨p.b2, p.o2, none⟩) 2 p.c2) ∧ wr.cell? ⟨w1.heap.size, 2, none⟩ = some (.slice (some ⟨p.b3, p.o3, none⟩) 2 p.c3) ∧ wr.cell? ⟨w1.heap.size, 3, none⟩ = some (.slice (some ⟨p.b4, p.o4, none⟩) 2 p.c4) ∧ wr.cell? ⟨b, o + k, none⟩ = some (.slice (some ⟨b2, o2, none⟩) 2 cc) ∧ wr.cell? ⟨b2, o2, none⟩ = some (.int .i64 (s : Int)) ∧ wr.cell? ⟨b2, o2 + 1, none⟩ = some (.int .i64 (r : Int)) from (And.intro q0 (And.intro q1 (And.intro q2 (And.intro q3 (And.intro r1 (And.intro d0 d1)))))))
        have HC := Lib.hid (TalkPays_at wr.drew (H0.out.keep (Keep.below HD.out.Z)) v hs4 hr4)
        go_region_held3 (fun W => W.cell? ⟨w1.heap.size, 0, none⟩ = some (.slice (some ⟨p.b1, p.o1, none⟩) 2 p.c1) ∧ W.cell? ⟨w1.heap.size, 1, none⟩ = some (.slice (some ⟨p.b2, p.o2, none⟩) 2 p.c2) ∧ W.cell? ⟨w1.heap.size, 2, none⟩ = some (.slice (some ⟨p.b3, p.o3, none⟩) 2 p.c3) ∧ W.cell? ⟨w1.heap.size, 3, none⟩ = some (.slice (some ⟨p.b4, p.o4, none⟩) 2 p.c4) ∧ W.cell? ⟨b, o + k, none⟩ = some (.slice (some ⟨b2, o2, none⟩) 2 cc) ∧ W.cell? ⟨b2, o2, none⟩ = some (.int .i64 (s : Int)) ∧ W.cell? ⟨b2, o2 + 1, none⟩ = some (.int .i64 (r : Int)))
          (first | exact SX.out | go_keep)
          ((go_at_call 18; (with_reducible refine HC.out.mono ?_); rintro e w20 ⟨Ap, cp, gp, rfl, hop, -, hb⟩; have SX := Lib.hid (And.intro (Keep.below hb _ _ SX.out.1) (And.intro (Keep.below hb _ _ SX.out.2.1) (And.intro (Keep.below hb _ _ SX.out.2.2.1) (And.intro (Keep.below hb _ _ SX.out.2.2.2.1) (And.intro (Keep.below hb _ _ SX.out.2.2.2.2.1) (And.intro (Keep.below hb _ _ SX.out.2.2.2.2.2.1) (Keep.below hb _ _ SX.out.2.2.2.2.2.2))))))); have HP := Lib.hid (HD.out.up hb); clear hb hop HC))
        clear SX q0 q1 q2 q3 r1 d0 d1
        clear HD
        rw [HBT.out]
        generalize [spk ss ks s r 0, spk ss ks s r 1] = L4 at *
        go_wp2
        go_loopw [8, 9] (fun g i wr => ∃ x : Nat, x ≤ 2 ∧ i = .int .i64 x ∧ g = .int .i64 (bst2 xs hs x) ∧ Hid (LW p w1 xs ss hs ks (some ⟨b, o, none⟩) F.length crR_ F wr)) (fun _ i _ => 2 - (intOf i).toNat)
        case atStart => exact ⟨0, by omega, rfl, rfl, HP⟩
        case round =>
          clear HP
          obtain ⟨x, hx, rfl, rfl, HP⟩ := hrel
          by_cases hx2 : x < 2
          · have hxi : (x : Int) < 2 := by omega
            have HT := Lib.hid (HV.out.keep (Keep.below HP.out.Z))
            have q0 := blk_cell HP.out.K (i := 0) rfl
            have q2 := blk_cell HP.out.K (i := 2) rfl
            have y0 := HT.out.x x hx2
            have y2 := HT.out.t3.row x hx2
            have z0 := HT.out.t3.cell x 0 hx2 (by omega)
            have z1 := HT.out.t3.cell x 1 hx2 (by omega)
            simp only [Nat.add_zero] at z0
            have HS := Lib.hid (show bst2 xs hs (x + 1) = bst2 xs hs x + gi xs x * (if g2 hs x 0 < g2 hs x 1 then g2 hs x 1 else g2 hs x 0) from rfl)
            have l1 := v.2.2.1.bd (i := x) (j := 0) hx2 (by omega)
            have l2 := v.2.2.1.bd (i := x) (j := 1) hx2 (by omega)
            have l3 := v.x hx2
            have l4 := bst2_bd v (k := x) hx
            generalize gi xs x = X at *
            generalize g2 hs x 0 = P at *
            generalize g2 hs x 1 = Q at *
            generalize hmx' : (if P < Q then Q else P) = M at *
            have l5 := mul9 l3 (show -9 ≤ M ∧ M ≤ 9 by rw [← hmx']; split <;> omega)
            generalize bst2 xs hs x = E at *
            have w2' : IntKind.i64.wrap (X * M) = X * M := wrapIn (by omega)
            have w3' : IntKind.i64.wrap (E + X * M) = E + X * M := wrapIn (by omega)
            clear HT l1 l2 l3 l4 l5
            go_wp2
            go_quiet (fail)
            clear q0 q2 y0 y2 z0 z1 hmx' w2' w3'
            have HP2 := Lib.hid (HP.out.up (Quiet.below ⟨nq, rfl⟩))
            go_wp2
            go_roundw
            case rel => exact ⟨x + 1, by omega, by go_num, by rw [HS.out], HP2⟩
            case measure => simp [intOf]; omega
          · obtain rfl : x = 2 := by omega
            generalize bst2 xs hs 2 = E at *
            have hee : (E != E) = false := by simp
            go_wp2
            go_roundw
            case rel => exact ⟨k + 1, by omega, by go_num, HP⟩
            case measure => simp [intOf]; omega
      · obtain rfl : k = F.length := by omega
        go_wp2
        go_ret
        exact ⟨rfl, below_up BB.out HLW.out.Z⟩

set_option maxRecDepth 100000 in
theorem hFnToldIsBest_lifted (os : Os) (started : os.Started) (H : Type) (enc : TypeId × Value → H) :
    ReturnsInHanded {} Try.checked os 8 .any (Rows.fnToldIsBestSpec.pre6 enc Try.prog Try.f8 Rows.fnToldIsBestRow.domain false) (Rows.fnToldIsBestSpec.post enc Try.prog Try.f8 false true false false) := by
  refine returnsInHanded_of_change_sized (C := Try.checked) Try.own started (by kernel_rfl) Try.func8
    (ChangeSpec.witness6 (enc := enc) (C := Try.checked) false ⟨#[], #[.slice none 0 0], []⟩ 8 (by kernel_rfl) (by kernel_rfl) (by kernel_rfl) (by kernel_rfl)) ?_
  intro W base args ds gs before hval0 hW _ hwt _
  have hval : ∀ (j : Nat) t v, Try.f8.params[j]? = some t → args[j]? = some v → Value.okWide Try.prog W .any base t v := hval0
  have hA : ∃ p, DataW.TrodAll enc Try.prog W 0 (fun _ => true) true Try.f8.params.toList args.toList ds p := by obtain ⟨p, q, hA0, _⟩ := hW; exact ⟨p, hA0⟩
  obtain ⟨p, hA⟩ := hA
  have hwt' := weights_arg hwt (j := 0) (t := 22) (by rw [Try.params8]; rfl) (d := ds.getD 0 .nil)
  rw [Try.params8] at hA hval
  obtain ⟨v0, d0, rfl, rfl, h0⟩ := trodAll_one hA
  obtain ⟨A, n, c, rfl, hx⟩ := open_bytes (hval 0 22 v0 rfl rfl) h0 (hwt' rfl)
  refine (fnToldIsBest_calls A n c W hx).mono fun e W' ⟨he, hb⟩ => ?_
  subst he
  exact ⟨_, rfl, law_post (F := Try.f8) rfl rfl (by rw [Try.params8]; simp only [List.mem_cons, List.not_mem_nil, or_false, forall_eq]; exact ⟨by kernel_rfl, of_decide_eq_true (by kernel_rfl)⟩) hW (fun h => by subst h; rfl) hb⟩

theorem hFnToldIsBest_holds : Rows.FnToldIsBestSaid :=
  OpenClaim.holds_of_wide 8 Try.f8 rfl rfl rfl rfl rfl rfl rfl ⟨rfl, rfl, rfl, rfl, rfl⟩ rfl rfl rfl rfl rfl (by kernel_rfl) Try.func8
    (by unfold joinedFacts; simp only [Bool.and_eq_true]; (repeat' apply And.intro) <;> (first | (with_reducible exact prog_enters) | ((with_reducible refine prog_lifts ?_); rfl) | ((with_reducible refine prog_make ?_); rfl) | kernel_rfl))
    (of_decide_eq_true (by kernel_rfl)) (by unfold Func.isWrapper; first | (rw [if_pos (by decide +kernel)]; kernel_rfl) | (rw [if_neg (by decide +kernel)]; exact ⟨rfl, rfl⟩))
    (fun os started H enc _ => hFnToldIsBest_lifted os started H enc)

end Go.Proofs.Ytcjanlbhgfadpaa
