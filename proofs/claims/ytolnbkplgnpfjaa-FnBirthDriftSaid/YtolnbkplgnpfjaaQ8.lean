/- Texts merged: N4 N2 N5 N3 N6 N14 Math31 Math51 Ones F1 FU Mix Math52 N15. -/
import Derived.Test.YtolnbkplgnpfjaaQ7
import Derived.LaidEqlPtr
/- Places: whether all are one another's neighbours, by the program. -/
namespace Go.Proofs.Ytolnbkplgnpfjaa
open Go.RowKit

/-- A list of pointers to places. -/
structure Ptrs (W : World) (B : Nat) (A : Option Addr) (l : List Nat) : Prop where
  at_ : 0 < l.length → ∃ b, A = some ⟨b, 0, none⟩ ∧ ∀ j, j < l.length → W.cell? ⟨b, j, none⟩ = some (.pointer (some ⟨B + 1 + l.getD j 0, 0, none⟩))
theorem ptrs_of {W : World} {B base : Nat} {v : Value} {l : List Nat} (h : W.ownsRow base 95 1 v l.length (l.map (pv B))) : ∃ A c, v = .slice A l.length c ∧ Ptrs W B A l := by
  rcases h.2 with ⟨rfl, h0⟩ | ⟨g, cap, cur, rfl, hb, hg, hnc, _, hcs, htake⟩
  · exact ⟨none, 0, by rw [h0], ⟨fun h => absurd h (by omega)⟩⟩
  · refine ⟨_, cap, rfl, ⟨fun _ => ⟨g, rfl, fun j hj => ?_⟩⟩⟩
    have e : (l.map (pv B))[j]? = some (pv B (l.getD j 0)) := by
      rw [List.getElem?_map, List.getElem?_eq_getElem hj]
      simp [List.getD, List.getElem?_eq_getElem hj]
    rw [← htake, List.getElem?_take, if_pos (by omega)] at e
    have : W.cell? ⟨g, j, none⟩ = some (pv B (l.getD j 0)) := by simp [World.cell?, hg]; simpa using e
    exact this
theorem Ptrs.keep {W W' : World} {B A l} (h : Ptrs W B A l) (k : Keep W W') : Ptrs W' B A l := ⟨fun hl => let ⟨b, e, hc⟩ := h.at_ hl; ⟨b, e, fun j hj => k _ _ (hc j hj)⟩⟩
theorem PLr.near {B n L s c R W} (h : PLr B n L s c R W) {v : Nat} (hv : v < n) : ∃ A k, R v = .slice A (L v).length k ∧ Ptrs W B A (L v) := ptrs_of (h.own v hv)
theorem PLr.quiet {B n L s c R W W'} (h : PLr B n L s c R W) (k : Quiet W W') : PLr B n L s c R W' := h.next k.below
theorem Try.info_pl : (Try.prog.info? 97).map (fun i => i.size) = some 3 := by kernel_rfl
theorem eqp_same (W : World) (a : Addr) : (binOp .eql 95 (.pointer (some a)) (.pointer (some a))).run Try.prog W = .ok (.bool true) W := by
  obtain ⟨j, hj, _⟩ := Option.map_eq_some_iff.1 Try.info_pl
  exact run_eql_ptr_same W a Try.underlying95 hj
theorem PLr.eqp {B n L s c R W} (h : PLr B n L s c R W) {u v : Nat} (hu : u < n) (hv : v < n) (hne : u ≠ v) :
    (binOp .eql 95 (.pointer (some ⟨B + 1 + u, 0, none⟩)) (.pointer (some ⟨B + 1 + v, 0, none⟩))).run Try.prog W = .ok (.bool false) W := by
  obtain ⟨j, hj, hz⟩ := Option.map_eq_some_iff.1 Try.info_pl
  exact run_eql_ptr_other W Try.underlying95 hj (by omega) (fun e => by injection e; omega) (h.bl u hu) (h.bl v hv)
theorem getD_mem {l : List Nat} {j : Nat} (h : j < l.length) : l.getD j 0 ∈ l := by simp [List.getD, List.getElem?_eq_getElem h]
set_option maxRecDepth 100000 in
set_option maxHeartbeats 800000 in
theorem indexP_any (B : Nat) (A : Option Addr) (n k : Nat) (l : List Nat) (v : Nat) (w : World) (hp : Ptrs w B A l) (hn : l.length = n) (h5 : n ≤ 100) {N : Nat} {L : Nat → List Nat} {s c : Nat → Int} {R : Nat → Value} (hP : PLr B N L s c R w) (hl : ∀ u, u ∈ l → u < N) (hv : v < N) :
    Calls Try.prog 136 #[.slice A n k, .pointer (some ⟨B + 1 + v, 0, none⟩)] w fun e w' => ∃ r : Int, e = .returned (.int .i64 r) ∧ (0 ≤ r ↔ v ∈ l) ∧ -1 ≤ r ∧ r ≤ 100 ∧ Quiet w w' := by
  have HP := Lib.hid hp
  have HN := Lib.hid hn
  have HQ := Lib.hid hP
  have HLN := Lib.hid hl
  have HSM := Lib.hid (fun W => eqp_same W ⟨B + 1 + v, 0, none⟩)
  clear hp hn hP hl
  go_enter Try.func136, Try.ntmps136
  go_wp2
  go_loopw [8] (fun i wr => ∃ j : Nat, j ≤ n ∧ i = .int .i64 j ∧ Hid (∀ i, i < j → l.getD i 0 ≠ v) ∧ Quiet w wr) (fun i _ => n - (intOf i).toNat)
  case atStart => exact ⟨0, Nat.zero_le _, rfl, Lib.hid (fun _ h => absurd h (by omega)), Quiet.refl _⟩
  case round =>
    obtain ⟨j, hj, rfl, HJ, q, rfl⟩ := hrel
    by_cases hlt : j < n
    · obtain ⟨b, rfl, hc⟩ := HP.out.at_ (by rw [HN.out]; omega)
      have c1 := hc j (by rw [HN.out]; omega)
      have HM := Lib.hid (getD_mem (l := l) (j := j) (by rw [HN.out]; omega))
      clear hc
      generalize hu : l.getD j 0 = u at *
      have HU := Lib.hid hu
      clear hu
      by_cases he : u = v
      · have HV : Hid (v ∈ l) := Lib.hid (he ▸ HM.out)
        subst he
        have hes := HSM.out
        go_wp2
        go_ret
        exact ⟨_, rfl, ⟨fun _ => HV.out, fun _ => by omega⟩, by omega, by omega, ⟨_, rfl⟩⟩
      · have HE := Lib.hid he
        have hes := fun m => (HQ.out.quiet (W' := w.drewN m) ⟨m, rfl⟩).eqp hv (HLN.out u HM.out) (fun e => HE.out e.symm)
        go_wp2
        go_roundw
        case rel => exact ⟨j + 1, by omega, by go_num, Lib.hid (fun i hi => by
          by_cases hij : i < j
          · exact HJ.out i hij
          · obtain rfl : i = j := by omega
            rw [HU.out]; exact HE.out), ⟨_, rfl⟩⟩
        case measure => simp [intOf]; omega
    · obtain rfl : j = n := by omega
      go_wp2
      go_ret
      exact ⟨-1, rfl, ⟨fun h => absurd h (by omega), fun h => by
        obtain ⟨i, hi, e⟩ := List.mem_iff_getElem.1 h
        exact absurd (show l.getD i 0 = v by simp [List.getD, List.getElem?_eq_getElem hi, e]) (HJ.out i (by rw [← HN.out]; exact hi))⟩, by omega, by omega, ⟨_, rfl⟩⟩
theorem containsP_any (B : Nat) (A : Option Addr) (n k : Nat) (l : List Nat) (v : Nat) (w : World) (hp : Ptrs w B A l) (hn : l.length = n) (h5 : n ≤ 100) {N : Nat} {L : Nat → List Nat} {s c : Nat → Int} {R : Nat → Value} (hP : PLr B N L s c R w) (hl : ∀ u, u ∈ l → u < N) (hv : v < N) :
    Calls Try.prog 133 #[.slice A n k, .pointer (some ⟨B + 1 + v, 0, none⟩)] w fun e w' => e = .returned (.bool (decide (v ∈ l))) ∧ Quiet w w' := by
  have HC := Lib.hid (indexP_any B A n k l v w hp hn h5 hP hl hv)
  clear hp hn hP hl
  go_enter Try.func133, Try.ntmps133
  go_wp2_with fail
  refine HC.out.mono ?_
  rintro e w1 ⟨r, rfl, hr, h1, h2, hq⟩
  have HR : Hid (decide (v ∈ l) = decide (0 ≤ r)) := Lib.hid (by simp [hr])
  clear hr
  go_wp2
  go_ret
  exact ⟨ret_bool (by rw [HR.out]), hq⟩
def MutP (L : Nat → List Nat) (n : Nat) : Prop := ∀ v, v < n → ∀ u, u ∈ L v → u ≠ v ∧ v ∈ L u
theorem Mut_no {L : Nat → List Nat} {n v u : Nat} (hv : v < n) (hu : u ∈ L v) (h : ¬ (u ≠ v ∧ v ∈ L u)) : pb (MutP L n) = false := pb_false fun k => h (k v hv u hu)
set_option maxRecDepth 100000 in
set_option maxHeartbeats 1600000 in
theorem areMutual_any (B n : Nat) (L : Nat → List Nat) (s c : Nat → Int) (R : Nat → Value) (w : World) (h : PLr B n L s c R w) (h5 : n ≤ 5) (hL : ∀ v, v < n → (L v).length ≤ 5 ∧ ∀ u, u ∈ L v → u < n) :
    Calls Try.prog 123 #[.slice (some ⟨B, 0, none⟩) n n] w fun e w' => e = .returned (.bool (pb (MutP L n))) ∧ Quiet w w' := by
  have HP := Lib.hid h
  have HL := Lib.hid hL
  clear h hL
  go_enter Try.func123, Try.ntmps123
  go_wp2
  go_loopw [9] (fun i wr => ∃ v : Nat, v ≤ n ∧ i = .int .i64 v ∧ Hid (∀ x, x < v → ∀ u, u ∈ L x → u ≠ x ∧ x ∈ L u) ∧ Quiet w wr) (fun i _ => n - (intOf i).toNat)
  case atStart => exact ⟨0, Nat.zero_le _, rfl, Lib.hid (fun _ h => absurd h (by omega)), Quiet.refl _⟩
  case round =>
    obtain ⟨v, hv, rfl, HJ, q, rfl⟩ := hrel
    by_cases hlt : v < n
    · have c1 : w.cell? ⟨B, v, none⟩ = some (.pointer (some ⟨B + 1 + v, 0, none⟩)) := HP.out.row.cell hlt
      obtain ⟨A, k, hR, hN⟩ := HP.out.near hlt
      have HN := Lib.hid hN
      have c2 := blk_cell (HP.out.bl v hlt) (i := 0) rfl
      rw [hR] at c2
      obtain ⟨hl5, hlu⟩ := HL.out v hlt
      have HU := Lib.hid hlu
      clear hR hN hlu
      generalize hm : (L v).length = m at *
      have HM := Lib.hid hm
      clear hm
      go_wp2
      go_loopw [18] (fun i wi => ∃ j : Nat, j ≤ m ∧ i = .int .i64 j ∧ Hid (∀ x, x < j → (L v).getD x 0 ≠ v ∧ v ∈ L ((L v).getD x 0)) ∧ Quiet w wi) (fun i _ => m - (intOf i).toNat)
      case atStart => exact ⟨0, Nat.zero_le _, rfl, Lib.hid (fun _ h => absurd h (by omega)), ⟨_, rfl⟩⟩
      case round =>
        clear c1 c2
        obtain ⟨j, hj, rfl, HI, q2, rfl⟩ := hrel
        by_cases hjm : j < m
        · obtain ⟨b, rfl, hc⟩ := HN.out.at_ (by rw [HM.out]; omega)
          have c3 := hc j (by rw [HM.out]; omega)
          have HUM := Lib.hid (getD_mem (l := L v) (j := j) (by rw [HM.out]; omega))
          have hun := HU.out _ HUM.out
          clear hc
          have HUE : ∃ u, u = (L v).getD j 0 := ⟨_, rfl⟩
          obtain ⟨u, hu⟩ := HUE
          rw [← hu] at c3 HUM hun
          have HUE := Lib.hid hu
          clear hu
          obtain ⟨A2, k2, hR2, hN2⟩ := HP.out.near hun
          have c4 := blk_cell (HP.out.bl u hun) (i := 0) rfl
          rw [hR2] at c4
          obtain ⟨hl52, _⟩ := HL.out u hun
          by_cases he : u = v
          · have HE := Lib.hid (Mut_no hlt HUM.out (fun h => h.1 he))
            subst he
            clear hR2 hN2
            have hes := fun W => eqp_same W ⟨B + 1 + u, 0, none⟩
            go_wp2
            go_ret
            exact ⟨ret_bool HE.out.symm, ⟨_, rfl⟩⟩
          · have hes := (HP.out.quiet (W' := w.drewN q2) ⟨q2, rfl⟩).eqp hun hlt he
            have HEQ := Lib.hid he
            by_cases hvu : v ∈ L u
            · have HC := Lib.hid ((show decide (v ∈ L u) = true from decide_eq_true hvu) ▸ containsP_any B A2 (L u).length k2 (L u) v (w.drewN q2) (hN2.keep (Keep.drewN _ _)) rfl (by omega) (HP.out.quiet ⟨_, rfl⟩) (HL.out u hun).2 hlt)
              have HV := Lib.hid hvu
              clear hR2 hN2 hvu he
              go_wp2_with fail
              refine HC.out.mono ?_
              rintro e w1 ⟨rfl, q3, rfl⟩
              clear HC
              go_wp2
              go_roundw
              case rel => exact ⟨j + 1, by omega, by go_num, Lib.hid (fun x hx => by
                by_cases hxj : x < j
                · exact HI.out x hxj
                · obtain rfl : x = j := by omega
                  rw [← HUE.out]; exact ⟨HEQ.out, HV.out⟩), ⟨_, rfl⟩⟩
              case measure => simp [intOf]; omega
            · have HC := Lib.hid ((show decide (v ∈ L u) = false from decide_eq_false hvu) ▸ containsP_any B A2 (L u).length k2 (L u) v (w.drewN q2) (hN2.keep (Keep.drewN _ _)) rfl (by omega) (HP.out.quiet ⟨_, rfl⟩) (HL.out u hun).2 hlt)
              have HE := Lib.hid (Mut_no hlt HUM.out (fun h => hvu h.2))
              clear hR2 hN2 hvu he
              go_wp2_with fail
              refine HC.out.mono ?_
              rintro e w1 ⟨rfl, q3, rfl⟩
              clear HC
              go_wp2
              go_ret
              exact ⟨ret_bool HE.out.symm, ⟨_, rfl⟩⟩
        · obtain rfl : j = m := by omega
          go_wp2
          go_roundw
          case rel => exact ⟨v + 1, by omega, by go_num, Lib.hid (fun x hx u hu => by
            by_cases hxv : x < v
            · exact HJ.out x hxv u hu
            · obtain rfl : x = v := by omega
              obtain ⟨i, hi, e⟩ := List.mem_iff_getElem.1 hu
              have e2 : (L x).getD i 0 = u := by simp [List.getD, List.getElem?_eq_getElem hi, e]
              have := HI.out i (by rw [← HM.out]; exact hi)
              rwa [e2] at this), ⟨_, rfl⟩⟩
          case measure => simp [intOf]; omega
    · obtain rfl : v = n := by omega
      have HE := Lib.hid (pb_true (p := MutP L v) (fun x hx => HJ.out x hx))
      go_wp2
      go_ret
      exact ⟨ret_bool HE.out.symm, ⟨_, rfl⟩⟩
end Go.Proofs.Ytolnbkplgnpfjaa

/- Valid graphs, by the model. -/
namespace Go.Proofs.Ytolnbkplgnpfjaa
open Go.RowKit

def RowG (g : List Int) (v : Nat) : Prop := InR (gi g v) 0 (2 ^ g.length - 1) ∧ bt g v v = 0 ∧ ∀ u, u < v → bt g v u = bt g u v
theorem GR.row {g : List Int} (h : GR g) {v : Nat} (hv : v < g.length) : RowG g v := ⟨h.b.inn v hv, h.b.sym v hv⟩
theorem GR_no {g : List Int} {v : Nat} (hv : v < g.length) (h : ¬ RowG g v) : pb (GR g) = false := pb_false fun k => h (k.row hv)
theorem GB.of {g : List Int} (h : ∀ v, v < g.length → RowG g v) (h2 : 2 ≤ g.length) (h5 : g.length ≤ 5) : GB g := ⟨fun v hv => (h v hv).1, fun v hv => (h v hv).2, h2, h5⟩
/-- The bound that the model asks. -/
def pwB (n : Nat) : Int := wrap64 (pwF n - 1)
theorem pwB5 : ∀ n, n < 6 → pwB n = 2 ^ n - 1 := by decide +kernel
set_option maxRecDepth 100000 in
set_option maxHeartbeats 1600000 in
theorem validGraph_any (A : Option Addr) (n c : Nat) (g : List Int) (w : World) (hx : Ints w A n c g) :
    Calls Try.prog 93 #[.slice A n c] w fun e w' => e = .returned (.bool (pb (GR g))) ∧ Quiet w w' := by
  have HX := Lib.hid hx
  have HL := Lib.hid hx.len
  have hmx := hx.max
  have HPW := Lib.hid (fun W => power_any n W hmx)
  have hpb := pw_bd n
  have HPB : Hid (wrap64 (pwF n - 1) = pwB n) := Lib.hid rfl
  have HP5 := Lib.hid (pwB5 n)
  clear hx
  generalize pwF n = p at *
  obtain ⟨hp1, hp2⟩ := hpb
  go_enter Try.func93, Try.ntmps93
  go_wp2
  go_loopw [3] (fun i wr => ∃ v : Nat, v ≤ n ∧ i = .int .i64 v ∧ Hid (∀ j, j < v → 0 ≤ gi g j) ∧ Hid (n ≤ 5 → ∀ j, j < v → RowG g j) ∧ Quiet w wr) (fun i _ => n - (intOf i).toNat)
  case atStart => exact ⟨0, Nat.zero_le _, rfl, Lib.hid (fun _ h => absurd h (by omega)), Lib.hid (fun _ _ h => absurd h (by omega)), Quiet.refl _⟩
  case round =>
    obtain ⟨v, hv, rfl, HNN, HRW, q, rfl⟩ := hrel
    by_cases hlt : v < n
    · obtain ⟨b, o, rfl, hc⟩ := HX.out.at_ (by omega)
      have c1 := hc v hlt
      have HC := Lib.hid hc
      have HWF := Lib.hid (fun j (hj : j < n) => HX.out.wf _ (gi_mem (xs := g) (k := j) (by rw [HL.out]; exact hj)))
      have hvl : v < g.length := by rw [HL.out]; exact hlt
      clear hc
      by_cases hin : InR (gi g v) 0 (pwB n)
      · have h0 := hin.1
        have HIN := Lib.hid (fun W => pb_true hin ▸ inRange_any (gi g v) 0 (pwB n) W)
        rw [← HPB.out] at HIN
        have HB := Lib.hid (fun W => bit_of h0 (HWF.out v hlt).2 (by omega : v ≤ 17592186044416) W)
        have HBT := bt_lt g v v
        by_cases hb1 : bt g v v = 1
        · have HE := Lib.hid (GR_no hvl (fun h => by rw [h.2.1] at hb1; cases hb1))
          rw [hb1] at HB
          clear hin hb1 HBT
          generalize gi g v = x at *
          go_wp2
          go_quiet (first
            | (go_at_call 81; (with_reducible refine same_fit (HPW.out _) (fun m => ?_)); (first | exact drewN_to1 _ _ _ | exact drewN_to2 _ _ _ _))
            | (go_at_call 74; (with_reducible refine same_fit (HIN.out _) (fun m => ?_)); (first | exact drewN_to1 _ _ _ | exact drewN_to2 _ _ _ _))
            | (go_at_call 122; (with_reducible refine same_fit (HB.out _) (fun m => ?_)); (first | exact drewN_to1 _ _ _ | exact drewN_to2 _ _ _ _)))
          go_wp2
          go_ret
          exact ⟨ret_bool HE.out.symm, Quiet.two _ _ _⟩
        · have hb0 : bt g v v = 0 := by omega
          have HB0 := Lib.hid hb0
          have HR5 := Lib.hid (fun h5 : n ≤ 5 => show InR (gi g v) 0 (2 ^ g.length - 1) by rw [HL.out, ← HP5.out (by omega)]; exact hin)
          have H0 := Lib.hid h0
          rw [hb0] at HB
          clear hin hb1 HBT hb0
          generalize hgx : gi g v = x at *
          have HGX := Lib.hid hgx
          clear hgx
          go_wp2
          go_quiet (first
            | (go_at_call 81; (with_reducible refine same_fit (HPW.out _) (fun m => ?_)); (first | exact drewN_to1 _ _ _ | exact drewN_to2 _ _ _ _))
            | (go_at_call 74; (with_reducible refine same_fit (HIN.out _) (fun m => ?_)); (first | exact drewN_to1 _ _ _ | exact drewN_to2 _ _ _ _))
            | (go_at_call 122; (with_reducible refine same_fit (HB.out _) (fun m => ?_)); (first | exact drewN_to1 _ _ _ | exact drewN_to2 _ _ _ _)))
          clear HB HIN
          rw [← HGX.out] at c1 h0
          go_wp2
          go_loopw [4] (fun i wi => ∃ u : Nat, u ≤ v ∧ i = .int .i64 u ∧ Hid (∀ j, j < u → bt g v j = bt g j v) ∧ Quiet w wi) (fun i _ => v - (intOf i).toNat)
          case atStart => exact ⟨0, Nat.zero_le _, rfl, Lib.hid (fun _ h => absurd h (by omega)), Quiet.two _ _ _⟩
          case round =>
            obtain ⟨u, hu, rfl, HSY, q2, rfl⟩ := hrel
            by_cases hul : u < v
            · have c2 := HC.out u (by omega)
              have HB1 := Lib.hid (fun W => bit_of h0 (HWF.out v hlt).2 (by omega : u ≤ 17592186044416) W)
              have HB2 := Lib.hid (fun W => bit_of (HNN.out u hul) (HWF.out u (by omega)).2 (by omega : v ≤ 17592186044416) W)
              by_cases he : bt g v u = bt g u v
              · have HS1 : Hid (∀ j, j < u + 1 → bt g v j = bt g j v) := Lib.hid (fun j hj => by
                  by_cases hjk : j < u
                  · exact HSY.out j hjk
                  · obtain rfl : j = u := by omega
                    exact he)
                rw [he] at HB1
                clear he
                generalize bt g u v = t at *
                clear HGX
                generalize gi g v = x1 at *
                generalize gi g u = x2 at *
                go_wp2
                go_quiet (first
                  | (go_at_call 122; (with_reducible refine same_fit (HB1.out _) (fun m => ?_)); (first | exact drewN_to1 _ _ _ | exact drewN_to2 _ _ _ _))
                  | (go_at_call 122; (with_reducible refine same_fit (HB2.out _) (fun m => ?_)); (first | exact drewN_to1 _ _ _ | exact drewN_to2 _ _ _ _)))
                go_wp2
                go_roundw
                case rel => exact ⟨u + 1, by omega, by go_num, HS1, ⟨_, rfl⟩⟩
                case measure => simp [intOf]; omega
              · have HE := Lib.hid (GR_no hvl (fun h => he (h.2.2 u hul)))
                have hne : (((bt g v u : Nat) : Int) != ((bt g u v : Nat) : Int)) = true := by simp; omega
                clear he
                generalize bt g v u = t1 at *
                generalize bt g u v = t2 at *
                clear HGX
                generalize gi g v = x1 at *
                generalize gi g u = x2 at *
                go_wp2
                go_quiet (first
                  | (go_at_call 122; (with_reducible refine same_fit (HB1.out _) (fun m => ?_)); (first | exact drewN_to1 _ _ _ | exact drewN_to2 _ _ _ _))
                  | (go_at_call 122; (with_reducible refine same_fit (HB2.out _) (fun m => ?_)); (first | exact drewN_to1 _ _ _ | exact drewN_to2 _ _ _ _)))
                go_wp2
                go_ret
                exact ⟨ret_bool HE.out.symm, Quiet.two _ _ _⟩
            · obtain rfl : u = v := by omega
              have HR := Lib.hid (fun h5 : n ≤ 5 => show RowG g u from ⟨by rw [HGX.out]; exact HR5.out h5, HB0.out, HSY.out⟩)
              rw [← HGX.out] at H0
              go_wp2
              go_roundw
              case rel => exact ⟨u + 1, by omega, by go_num, Lib.hid (fun j hj => by
                by_cases hjk : j < u
                · exact HNN.out j hjk
                · obtain rfl : j = u := by omega
                  exact H0.out), Lib.hid (fun h5 j hj => by
                by_cases hjk : j < u
                · exact HRW.out h5 j hjk
                · obtain rfl : j = u := by omega
                  exact HR.out h5), ⟨_, rfl⟩⟩
              case measure => simp [intOf]; omega
      · have HIN := Lib.hid (fun W => pb_false hin ▸ inRange_any (gi g v) 0 (pwB n) W)
        rw [← HPB.out] at HIN
        have HE := Lib.hid (show pb (GR g) = false from pb_false fun k => hin (by
          have h := k.b.inn v hvl
          rw [HP5.out (by rw [← HL.out]; have := k.b.n5; omega), ← HL.out]; exact h))
        clear hin
        generalize gi g v = x at *
        go_wp2
        go_quiet (first
          | (go_at_call 81; (with_reducible refine same_fit (HPW.out _) (fun m => ?_)); (first | exact drewN_to1 _ _ _ | exact drewN_to2 _ _ _ _))
          | (go_at_call 74; (with_reducible refine same_fit (HIN.out _) (fun m => ?_)); (first | exact drewN_to1 _ _ _ | exact drewN_to2 _ _ _ _)))
        go_wp2
        go_ret
        exact ⟨ret_bool HE.out.symm, Quiet.two _ _ _⟩
    · obtain rfl : v = n := by omega
      by_cases h25 : InR (v : Int) 2 5
      · have hb : GB g := GB.of (fun j hj => HRW.out (by unfold InR at h25; omega) j (by rw [← HL.out]; exact hj)) (by rw [HL.out]; unfold InR at h25; omega) (by rw [HL.out]; unfold InR at h25; omega)
        have HIN := Lib.hid (fun W => pb_true h25 ▸ inRange_any (v : Int) 2 5 W)
        have HLK := Lib.hid (linked_any A v c g (w.drewN q) (HX.out.keep (Keep.drewN _ _)) hb)
        have HV := Lib.hid (show pb (GR g) = (((lnk g : Nat) : Int) == pwB v) by
          have e5 := HP5.out (by unfold InR at h25; omega)
          have e2 : ((2 ^ v : Nat) : Int) = (2 : Int) ^ v := by simp
          have e1 := Nat.one_le_two_pow (n := v)
          by_cases e : lnk g = 2 ^ g.length - 1
          · rw [pb_true ⟨hb, e⟩, e5, e, HL.out]; simp; omega
          · rw [pb_false (fun k => e k.all), e5]; rw [HL.out] at e; simp; omega)
        rw [← HPB.out] at HV
        clear hb h25 HP5
        generalize lnk g = m at *
        go_wp2_with (first
          | (go_at_call 74; refine (HIN.out _).mono ?_; rintro e w' ⟨rfl, rfl⟩)
          | (go_at_call 126; refine HLK.out.mono ?_; rintro e w' ⟨rfl, q2, rfl⟩)
          | (go_at_call 81; refine (HPW.out _).mono ?_; rintro e w' ⟨rfl, rfl⟩))
        go_ret
        exact ⟨ret_bool HV.out.symm, ⟨_, rfl⟩⟩
      · have HIN := Lib.hid (fun W => pb_false h25 ▸ inRange_any (v : Int) 2 5 W)
        have HE := Lib.hid (show pb (GR g) = false from pb_false fun k => h25 (by
          have h1 := k.b.n2; have h2 := k.b.n5; rw [HL.out] at h1 h2; unfold InR; omega))
        clear h25
        go_wp2_with (go_at_call 74; refine (HIN.out _).mono ?_; rintro e w' ⟨rfl, rfl⟩)
        go_ret
        exact ⟨ret_bool HE.out.symm, ⟨_, rfl⟩⟩
end Go.Proofs.Ytolnbkplgnpfjaa

/- Places: whether all are reached, by the program; valid graphs by the program. -/
namespace Go.Proofs.Ytolnbkplgnpfjaa
open Go.RowKit

/-- The list of places that are reached, as it lies. -/
structure RU (w : World) (B : Nat) (v : Value) (l : List Nat) (W : World) : Prop where
  own : W.ownsRow w.heap.size 95 1 v l.length (l.map (pv B))
  up : Below w.heap.size w W
theorem RU.next {w B v l W W'} (h : RU w B v l W) (k : Below W.heap.size W W') : RU w B v l W' := ⟨blk_kept h.own fun g hg => k.block g (h.own.lt g hg).2, below_up h.up k⟩
theorem RU.start (w : World) (B u : Nat) : RU w B (.slice (some ⟨w.heap.size, 0, none⟩) 1 1) [u] (w.alloc (.cells #[pv B u] 95)) :=
  ⟨⟨rfl, .inr ⟨w.heap.size, 1, _, rfl, Nat.le_refl _, heap_alloc_new w _, Nat.le_refl _, by unfold maxLen; omega, rfl, rfl⟩⟩, below_alloc _ _⟩
theorem RU.push {w B v v' l u W W' X} (h : RU w B v l W) (hown : W'.ownsRow w.heap.size 95 1 v' (l.length + 1) (l.map (pv B) ++ [pv B u])) (hgrow : (W.alloc X).grownBy W' v.ownBlock) : RU w B v' (l ++ [u]) W' := by
  have hsz := hgrow.size
  simp only [World.size_alloc] at hsz
  have hs := h.up.size
  refine ⟨by rw [List.length_append, List.length_singleton, List.map_append]; exact hown, ⟨hgrow.os.trans h.up.os, hgrow.tape.trans h.up.tape, hgrow.output.trans h.up.output, by omega, fun k hk => ?_⟩⟩
  exact ((hgrow.block k (by simp; omega) (fun e => by have := (h.own.lt k e.symm).1; omega)).trans (Below.heap_alloc _ _ _ (by omega))).trans (h.up.block k hk)
theorem addN_yes {R : List Nat} {x : Nat} (h : x ∈ R) : addN R x = R := if_pos (by simpa using h)
theorem addN_no {R : List Nat} {x : Nat} (h : x ∉ R) : addN R x = R ++ [x] := if_neg (by simpa using h)
theorem addN_len (R : List Nat) (x : Nat) : R.length ≤ (addN R x).length := by unfold addN; split <;> simp
theorem rIn_len (R : List Nat) (ms : List Int) : ∀ k j, (rIn R ms j).length ≤ (rIn R ms (j + k)).length
  | 0, _ => Nat.le_refl _
  | k + 1, j => Nat.le_trans (rIn_len R ms k j) (addN_len _ _)
theorem rIn_mem (R : List Nat) (ms : List Int) {n : Nat} (h : ∀ y, y ∈ R → y < n) (hm : ∀ j, j < ms.length → (gi ms j).toNat < n) : ∀ j, j ≤ ms.length → ∀ y, y ∈ rIn R ms j → y < n
  | 0, _, y, hy => h y hy
  | j + 1, hj, y, hy => by
    rw [rIn] at hy
    unfold addN at hy
    split at hy
    · exact rIn_mem R ms h hm j (by omega) y hy
    · rcases List.mem_append.1 hy with hy | hy
      · exact rIn_mem R ms h hm j (by omega) y hy
      · rw [List.mem_singleton.1 hy]; exact hm j (by omega)
theorem rO_facts {g : List Int} (h : GB g) : (∀ i, i < 7 → (rO g i).length ≤ g.length ∧ (∀ x, x ∈ rO g i → x < g.length) ∧ 1 ≤ (rO g i).length) ∧ rO g 6 = rO g 5 ∧ ((rO g 5).length = g.length ↔ lnk g = 2 ^ g.length - 1) := by
  have t := List.all_eq_true.1 lk_table g (mem_graphs h)
  simp only [Bool.and_eq_true, rOk, List.all_eq_true, List.mem_range, decide_eq_true_eq, beq_iff_eq] at t
  refine ⟨fun i hi => ⟨(t.2.1.1 i hi).1.1, (t.2.1.1 i hi).1.2, (t.2.1.1 i hi).2⟩, t.2.1.2, ?_⟩
  have q := t.2.2
  by_cases e : (rO g 5).length = g.length <;> by_cases e2 : lnk g = 2 ^ g.length - 1 <;> simp [e, e2] at q ⊢
theorem rO_stay {g : List Int} {i : Nat} (h : (rO g i).length ≤ i) : ∀ d, rO g (i + d) = rO g i
  | 0 => rfl
  | d + 1 => by
    show (if i + d < (rO g (i + d)).length then _ else rO g (i + d)) = _
    rw [rO_stay h d, if_neg (by omega)]
theorem rO_next {g : List Int} {i : Nat} (h : i < (rO g i).length) : rO g (i + 1) = rIn (rO g i) (nb g ((rO g i).getD i 0)) (nb g ((rO g i).getD i 0)).length := if_pos h
set_option maxRecDepth 100000 in
set_option maxHeartbeats 3200000 in
theorem areReached_any (B : Nat) (g : List Int) (n : Nat) (s c : Nat → Int) (R : Nat → Value) (w : World) (hp : PLr B n (nn g) s c R w) (hl : g.length = n) (hb : GB g) :
    Calls Try.prog 124 #[.slice (some ⟨B, 0, none⟩) n n] w (Ret (.bool (decide (lnk g = 2 ^ g.length - 1))) w) := by
  have HP := Lib.hid hp
  have h5 : n ≤ 5 := by rw [← hl]; exact hb.n5
  have hn0 : 0 < n := by have := hb.n2; omega
  obtain ⟨HF, H6, HEND⟩ := rO_facts hb
  have HF := Lib.hid (show ∀ i, i < 7 → (rO g i).length ≤ n ∧ (∀ x, x ∈ rO g i → x < n) ∧ 1 ≤ (rO g i).length by rw [← hl]; exact HF)
  have H6 := Lib.hid H6
  have HEND := Lib.hid (show (rO g 5).length = n ↔ lnk g = 2 ^ g.length - 1 by rw [← hl] at *; exact HEND)
  have HNB := Lib.hid (fun v (hv : v < n) j (hj : j < (nb g v).length) => show gi (nb g v) j = (((nn g v).getD j 0 : Nat) : Int) ∧ (nn g v).getD j 0 < n by
    have := gi_nb hb.inn (by omega) (v := v) (by omega) hj; rwa [hl] at this)
  have HNL := Lib.hid (fun v (hv : v < n) => show (nb g v).length ≤ 5 from memL_le _ 5)
  have HS0 := Lib.hid (RU.start w B 0)
  have c1 : w.cell? ⟨B, 0, none⟩ = some (.pointer (some ⟨B + 1 + 0, 0, none⟩)) := HP.out.row.cell hn0
  clear hp hl
  have HGB := Lib.hid hb
  clear hb
  go_enter Try.func124, Try.ntmps124
  go_wp2
  go_loopg [3, 4] 7 (fun gh v i wr => ∃ k : Nat, k + gh = 7 ∧ k ≤ (rO g k).length ∧ i = .int .i64 k ∧ Hid (RU w B v (rO g k) wr))
  case atStart => exact ⟨0, by omega, Nat.zero_le _, rfl, HS0⟩
  case round =>
    clear HS0 c1
    obtain ⟨k, hkg, hkl, rfl, HR⟩ := hrel
    have hk5 : k ≤ 5 := by
      rcases Nat.lt_or_ge k 7 with h | h
      · have := (HF.out k h).1; omega
      · have h7 : rO g 7 = rO g 6 := rO_stay (by have := (HF.out 6 (by omega)).1; omega) 1
        have : k = 7 := by omega
        subst this
        have := (HF.out 6 (by omega)).1
        rw [h7] at hkl; omega
    obtain ⟨Av, cv, rfl, hPV⟩ := ptrs_of HR.out.own
    have HPV := Lib.hid hPV
    clear hPV
    by_cases hlt : k < (rO g k).length
    · obtain ⟨bv, rfl, hcv⟩ := HPV.out.at_ (by omega)
      have c2 := hcv k hlt
      have HX := Lib.hid (show (rO g k).getD k 0 < n from (HF.out k (by omega)).2.1 _ (getD_mem hlt))
      have HN1 := Lib.hid (rO_next hlt)
      have HLE := Lib.hid (show (rO g (k + 1)).length ≤ n from (HF.out (k + 1) (by omega)).1)
      have HK1 := Lib.hid (show k + 1 ≤ (rO g (k + 1)).length from by
        rw [rO_next hlt]
        have := rIn_len (rO g k) (nb g ((rO g k).getD k 0)) (nb g ((rO g k).getD k 0)).length 0
        rw [Nat.zero_add] at this
        have e : (rIn (rO g k) (nb g ((rO g k).getD k 0)) 0).length = (rO g k).length := rfl
        omega)
      have HRS : Hid (rIn (rO g k) (nb g ((rO g k).getD k 0)) 0 = rO g k) := Lib.hid rfl
      have HMB := Lib.hid (show ∀ x, x ∈ rO g k → x < n from (HF.out k (by omega)).2.1)
      have hlen := (HF.out k (by omega)).1
      have HMEM := Lib.hid (rIn_mem (rO g k) (nb g ((rO g k).getD k 0)) (n := n) (fun y hy => (HF.out k (by omega)).2.1 y hy) (fun j hj => by
        have h1 := (HNB.out _ HX.out j hj)
        rw [h1.1, Int.toNat_natCast]; exact h1.2))
      clear hcv
      generalize (rO g k).getD k 0 = x at *
      obtain ⟨A, kc, hRx, hN⟩ := HP.out.near HX.out
      have HNX := Lib.hid hN
      have c3 := blk_cell ((HP.out.next HR.out.up).bl x HX.out) (i := 0) rfl
      rw [hRx] at c3
      have HNI := Lib.hid (HNB.out x HX.out)
      have HLX := Lib.hid (nn_len g x)
      have hl5 := HNL.out x HX.out
      clear hN
      rw [HLX.out] at c3 hRx
      generalize hR0 : rO g k = R0 at *
      have HR0 := Lib.hid hR0
      clear hR0
      generalize hm : (nb g x).length = m at *
      have HM := Lib.hid hm
      clear hm
      go_wp2
      go_step3
      go_wp2
      go_step3
      go_wp2
      go_loopg [3, 27] m (fun g2 v j wi => ∃ l : Nat, l + g2 = m ∧ j = .int .i64 l ∧ Hid (RU w B v (rIn R0 (nb g x) l) wi))
      case atStart => exact ⟨0, by omega, rfl, Lib.hid (by rw [HRS.out]; exact HR.out)⟩
      case round =>
        clear HRS HR
        obtain ⟨l, hlg, rfl, HR⟩ := hrel
        obtain ⟨Av, cv, rfl, hPV⟩ := ptrs_of HR.out.own
        have HPV := Lib.hid hPV
        clear hPV c3
        by_cases hll : l < m
        · obtain ⟨bm, rfl, hcm⟩ := (HNX.out.keep (Keep.below HR.out.up)).at_ (by rw [HLX.out]; omega)
          have c4 := hcm l (by rw [HLX.out]; exact hll)
          obtain ⟨e1, hun⟩ := HNI.out l hll
          have HSN : Hid (rIn R0 (nb g x) (l + 1) = addN (rIn R0 (nb g x) l) ((nn g x).getD l 0)) := Lib.hid (by rw [rIn, e1, Int.toNat_natCast])
          have HLB := Lib.hid (show (rIn R0 (nb g x) l).length ≤ n from by
            have h1 := rIn_len R0 (nb g x) (m - l) l
            rw [show l + (m - l) = m by omega] at h1
            have h2 := HLE.out
            rw [HN1.out] at h2
            omega)
          have HMB2 := Lib.hid (show ∀ y, y ∈ rIn R0 (nb g x) l → y < n from HMEM.out l (by omega))
          clear hcm e1
          generalize (nn g x).getD l 0 = u at *
          generalize rIn R0 (nb g x) l = R1 at *
          generalize hr1 : R1.length = r1 at *
          have HR1 := Lib.hid hr1
          clear hr1
          have HPW := Lib.hid (HP.out.next HR.out.up)
          have hr5 := HLB.out
          go_wp2
          go_loopg [33] r1 (fun g3 j wi => ∃ y : Nat, y + g3 = r1 ∧ j = .int .i64 y ∧ Hid (∀ z, z < y → R1.getD z 0 ≠ u) ∧ wi = wr)
          case atStart => exact ⟨0, by omega, rfl, Lib.hid (fun _ h => absurd h (by omega)), rfl⟩
          case round =>
            obtain ⟨y, hyg, rfl, HY, rfl⟩ := hrel
            by_cases hyl : y < r1
            · obtain ⟨bv2, rfl, hcv2⟩ := HPV.out.at_ (by rw [HR1.out]; omega)
              have c5 := hcv2 y (by rw [HR1.out]; exact hyl)
              have HMY := Lib.hid (getD_mem (l := R1) (j := y) (by rw [HR1.out]; exact hyl))
              clear hcv2
              have hzz : ∃ z, z = R1.getD y 0 := ⟨_, rfl⟩
              obtain ⟨z, hz⟩ := hzz
              rw [← hz] at c5 HMY
              have HZ := Lib.hid hz
              clear hz
              by_cases he : z = u
              · subst he
                have HAD := Lib.hid (HSN.out.trans (addN_yes HMY.out))
                have hes := fun W => eqp_same W ⟨B + 1 + z, 0, none⟩
                go_wp2
                go_roundg (m - (l + 1))
                case measure => omega
                case rel => exact ⟨l + 1, by omega, by go_num, Lib.hid (by rw [HAD.out]; exact HR.out)⟩
              · have hes := HPW.out.eqp (HMB2.out z HMY.out) hun he
                have HEE := Lib.hid he
                go_wp2
                go_roundg (r1 - (y + 1))
                case measure => omega
                case rel => exact ⟨y + 1, by omega, by go_num, Lib.hid (fun i hi => by
                  by_cases hiy : i < y
                  · exact HY.out i hiy
                  · obtain rfl : i = y := by omega
                    rw [← HZ.out]; exact HEE.out), rfl⟩
            · obtain rfl : y = r1 := by omega
              have HAD := Lib.hid (HSN.out.trans (addN_no (x := u) (fun h => by
                obtain ⟨i, hi, e⟩ := List.mem_iff_getElem.1 h
                exact HY.out i (by rw [← HR1.out]; exact hi) (by simp [List.getD, List.getElem?_eq_getElem hi, e]))))
              have HB4 := Lib.hid (HR.out.own.alloc (.cells #[.pointer (some ⟨B + 1 + u, 0, none⟩)] 95))
              rw [HR1.out] at HB4
              have HNC := Lib.hid (cell_one_new wr (.pointer (some ⟨B + 1 + u, 0, none⟩)) 95)
              have hwz := HR.out.up.size
              have hy5 : y ≤ 5 := by omega
              obtain ⟨i0, hi0, hz0, hz1, hz2⟩ := info_parts Try.info_pp
              go_wp2_with (at_builtin; refine wpList_append_own_at _ rfl _ _ 93 rfl w.heap.size 95 i0 (.pointer none) 1 8 Try.underlying93 hi0 hz0 hz1 hz2 rfl (by decide) _ y (R1.map (pv B)) rfl HB4.out ⟨wr.heap.size, 0, none⟩ 1 1 [.pointer (some ⟨B + 1 + u, 0, none⟩)] rfl rfl ?c1 ?c2 ?c3 ?c4 ?c5 ?_)
              case c1 => exact HNC.out
              case c2 => intro u hu; simp at hu; subst hu; rfl
              case c3 => unfold maxLen; omega
              case c4 => omega
              case c5 => simp; omega
              intro v' w5 hown' hgrow _ hat
              have HE := Lib.hid (show RU w B v' (rIn R0 (nb g x) (l + 1)) w5 from by
                rw [HAD.out]
                exact HR.out.push (by rw [HR1.out]; exact hown') hgrow)
              clear HB4 HNC hown' hgrow hat HR
              go_wp2
              go_roundg (m - (l + 1))
              case measure => omega
              case rel => exact ⟨l + 1, by omega, by go_num, HE⟩
        · obtain rfl : l = m := by omega
          have HE := Lib.hid (show RU w B _ (rO g (k + 1)) _ from by rw [HN1.out]; exact HR.out)
          go_wp2
          rw [Exit.noGoto_normal]
          go_wp2
          go_roundg (7 - (k + 1))
          case measure => omega
          case rel => exact ⟨k + 1, by omega, HK1.out, by go_num, HE⟩
    · have hk : (rO g k).length = k := by omega
      have HE := Lib.hid (show (((k : Int) == (n : Int)) = decide (lnk g = 2 ^ g.length - 1)) from by
        have h5e : rO g 5 = rO g k := by have := rO_stay (g := g) (i := k) (by omega) (5 - k); rwa [show k + (5 - k) = 5 by omega] at this
        have := HEND.out
        rw [h5e, hk] at this
        by_cases e : k = n
        · rw [decide_eq_true (this.1 e), e]; simp
        · rw [decide_eq_false (fun h => e (this.2 h))]; simp; omega)
      have HB := Lib.hid HR.out.up
      rw [hk]
      clear HR hk HPV
      go_wp2
      go_ret
      exact ⟨ret_bool HE.out, HB.out⟩
end Go.Proofs.Ytolnbkplgnpfjaa

/- Places as the program makes them: placesOf. -/
namespace Go.Proofs.Ytolnbkplgnpfjaa
open Go.RowKit

set_option maxRecDepth 100000 in
set_option maxHeartbeats 3200000 in
theorem placesOf_any (A : Option Addr) (n c : Nat) (g : List Int) (w : World) (hx : Ints w A n c g) (hi : InG g) (h5 : n ≤ 5) :
    Calls Try.prog 91 #[.slice A n c] w (NewPl w n (nn g)) := by
  have HX := Lib.hid hx
  have hl := hx.len
  have HG := Lib.hid (fun v (hv : v < n) => show gi g v = ((gi g v).toNat : Int) ∧ (gi g v).toNat < 32 by
    have h1 := hi v (by omega)
    unfold InR at h1
    have h6 : ((2 ^ g.length : Nat) : Int) = (2 : Int) ^ g.length := by simp
    have h7 : 2 ^ g.length ≤ 2 ^ 5 := Nat.pow_le_pow_right (by omega) (by omega)
    omega)
  have HNB := Lib.hid (fun v (hv : v < n) j (hj : j < (nb g v).length) => show gi (nb g v) j = (((nn g v).getD j 0 : Nat) : Int) ∧ (nn g v).getD j 0 < n by
    have := gi_nb hi (by omega) (v := v) (by omega) hj; rwa [hl] at this)
  have HS0 := Lib.hid (PA.start w n)
  have hmk := run_make_row' (P := Try.prog) 93 95 (.pointer none) 8 Try.underlying93 Try.info_pp rfl .i64 .i64 n (by omega) (by omega)
  clear hx hi hl
  go_enter Try.func91, Try.ntmps91
  go_wp2
  clear hmk
  go_loopw [14] (fun i wr => ∃ k : Nat, k ≤ n ∧ i = .int .i64 k ∧ Hid (PA w n k wr)) (fun i _ => n - (intOf i).toNat)
  case atStart => exact ⟨0, Nat.zero_le _, rfl, HS0⟩
  case round =>
    clear HS0
    obtain ⟨k, hk, rfl, HA⟩ := hrel
    by_cases hlt : k < n
    · have HA1 := Lib.hid (HA.out.step hlt)
      have c0 := (HA.out.row.alloc (.cells #[.slice none 0 0, .int .i64 0, .int .i64 0] 97)).cell hlt
      have f0 := (HA.out.row.alloc (.cells #[.slice none 0 0, .int .i64 0, .int .i64 0] 97)).frozen k
      rw [if_neg (Nat.lt_irrefl k)] at c0
      clear HA
      go_wp2
      go_roundw
      case rel => exact ⟨k + 1, by omega, by go_num, HA1⟩
      case measure => simp [intOf]; omega
    · obtain rfl : k = n := by omega
      have HP0 := Lib.hid (show PO w k 0 (Lst g 0 0) wr from ⟨HA.out.done.1, _, HA.out.done.2.congr (fun v _ => by unfold Lst; simp) (fun _ _ => rfl) (fun _ _ => rfl), fun _ _ _ => rfl⟩)
      clear HA
      go_wp2
      go_loopw [25] (fun i wr2 => ∃ m : Nat, m ≤ k ∧ i = .int .i64 m ∧ Hid (PO w k m (Lst g m 0) wr2)) (fun i _ => k - (intOf i).toNat)
      case atStart => exact ⟨0, Nat.zero_le _, rfl, HP0⟩
      case round =>
        clear HP0
        obtain ⟨i, hik, rfl, HP⟩ := hrel
        by_cases hil : i < k
        · obtain ⟨b, o, rfl, hc⟩ := (HX.out.keep (Keep.below HP.out.up)).at_ (by omega)
          have c1 := hc i hil
          obtain ⟨e1, e2⟩ := HG.out i hil
          rw [e1] at c1
          have HC := Lib.hid (fun W => membersOf5_any (gi g i).toNat W e2)
          have HNI := Lib.hid (HNB.out i hil)
          have HLN := Lib.hid (show memL (gi g i).toNat 5 = nb g i from rfl)
          rw [HLN.out] at HC
          have HLL := Lib.hid (show (nb g i).length ≤ 5 from memL_le _ 5)
          clear hc e1 e2 HLN
          generalize (gi g i).toNat = s at *
          go_wp2_with fail
          refine (HC.out _).mono ?_
          rintro e w2 ⟨Am, m, cm, gm, rfl, hm, ho, hb⟩
          have HM := Lib.hid ho
          have hm5 : m ≤ 5 := by rw [hm]; exact HLL.out
          have HML := Lib.hid hm
          have HLO := Lib.hid (show w.heap.size + 1 + i < wr.heap.size by
            obtain ⟨R, q, _⟩ := HP.out.ex
            have := q.sz; omega)
          have HI0 := Lib.hid ((HP.out.next hb).start hil)
          clear HC hb HP ho hm c1
          go_wp2
          go_loopw [33] (fun j wi => ∃ l : Nat, l ≤ m ∧ j = .int .i64 l ∧ Hid (PI7 w w2 k i (Lst g i l) wi)) (fun j _ => m - (intOf j).toNat)
          case atStart => exact ⟨0, Nat.zero_le _, rfl, HI0⟩
          case round =>
            clear HI0
            obtain ⟨l, hlm, rfl, HI⟩ := hrel
            by_cases hll : l < m
            · obtain ⟨bm, om, rfl, hcm⟩ := (HI.out.ints HM.out HLO.out).at_ (by omega)
              have c2 := hcm l hll
              obtain ⟨e1, e2⟩ := HNI.out l (by rw [← HML.out]; exact hll)
              rw [e1] at c2
              have HLX := Lib.hid (fun v => Lst_next (g := g) (i := i) (j := l) (by rw [← HML.out]; exact hll) v)
              have HLL2 := Lib.hid (show (Lst g i l i).length ≤ 5 by rw [Lst_i, List.length_take]; omega)
              clear hcm e1
              generalize hu : (nn g i).getD l 0 = u at *
              clear hu
              obtain ⟨R, hPL, hR⟩ := HI.out.ex
              have HPL := Lib.hid hPL
              have HR := Lib.hid hR
              have p1 : wr.cell? ⟨w.heap.size, i, none⟩ = some (.pointer (some ⟨w.heap.size + 1 + i, 0, none⟩)) := HPL.out.row.cell hil
              have p2 : wr.cell? ⟨w.heap.size, u, none⟩ = some (.pointer (some ⟨w.heap.size + 1 + u, 0, none⟩)) := HPL.out.row.cell e2
              have p3 := blk_cell (HPL.out.bl i hil) (i := 0) rfl
              have HOW := Lib.hid (HPL.out.own i hil)
              have HSZ := Lib.hid (Nat.le_trans (Nat.le_refl (w.heap.size + 1 + k)) HPL.out.sz)
              clear hPL hR
              skip
              have HP2 := Lib.hid (And.intro p1 p2)
              obtain ⟨i0, hi0, hz0, hz1, hz2⟩ := info_parts Try.info_pp
              have al1 := below_alloc wr (.cells #[.pointer (some ⟨w.heap.size + 1 + u, 0, none⟩)] 95)
              have a1 := Keep.below al1 _ _ p1
              have a2 := Keep.below al1 _ _ p2
              have a3 := Keep.below al1 _ _ p3
              clear al1
              go_wp2
              apply region_put [37, 38, 39, 40, 41, 42, 43, 44, 45, 46, 47, 48, 49, 50, 51, 52, 53, 54, 55] (fun us v => ∃ (u37 u38 u39 u40 u41 u42 u43 u44 u45 u46 u47 u48 u49 u50 u51 u52 u53 u54 u55 : Value), us = [u37, u38, u39, u40, u41, u42, u43, u44, u45, u46, u47, u48, u49, u50, u51, u52, u53, u54, u55] ∧ Hid (PI7 w w2 k i (Lst g i (l + 1)) v))
              · go_region_law (
                  (first
                  | (refine step_append_lies _ (by rfl) _ _ _ (by rfl) (w.heap.size + 1 + k) 95 i0 _ 1 8 Try.underlying93 hi0 hz0 hz1 hz2 rfl (by omega) (R i) (Lst g i l i).length ((Lst g i l i).map (pv w.heap.size)) (by rfl) ((HOW.out.alloc _).drew) ⟨wr.heap.size, 0, none⟩ 1 1 [.pointer (some ⟨w.heap.size + 1 + u, 0, none⟩)] (by rfl) (by rfl) (World.news_of_block (w := (wr.alloc (.cells #[.pointer (some ⟨w.heap.size + 1 + u, 0, none⟩)] 95)).drew) (cs := #[.pointer (some ⟨w.heap.size + 1 + u, 0, none⟩)]) (t := 95) (fr := (0, 0)) (heap_alloc_new wr _)) (by simp [Value.oneCell']) (by omega) (by have := HLL2.out; unfold maxLen; omega) (by have := HLL2.out; omega) (by have := HSZ.out; simp; omega) (wr.heap.size + 1) (by simp) ?_; intro gg cap w1 hown1 hgrow hat hlt1; have HP3 := Lib.hid (show w1.cell? ⟨w.heap.size, i, none⟩ = some (.pointer (some ⟨w.heap.size + 1 + i, 0, none⟩)) ∧ w1.cell? ⟨w.heap.size, u, none⟩ = some (.pointer (some ⟨w.heap.size + 1 + u, 0, none⟩)) from (have q := HPL.out.low hil hgrow _ (by omega : w.heap.size < w.heap.size + 1 + k); And.intro ((World.cell?_of_block q).trans HP2.out.1) ((World.cell?_of_block q).trans HP2.out.2))); have HBK := (show Blk w1 (w.heap.size + 1 + i) 97 #[R i, .int .i64 0, .int .i64 0] from (HPL.out.low hil hgrow _ (by omega : w.heap.size + 1 + i < w.heap.size + 1 + k)).trans (HPL.out.bl i hil)); have b0 := blk_cell HBK (i := 0) rfl; have b2 := HP3.out.1; have b3 := HP3.out.2; have b1 := blk_frozen HBK 0; have HE := Lib.hid (PI7.congr (PI7.push HI.out (quiet_drew _) HPL.out HR.out hil (u := u) hown1 hgrow (hat.elim (fun h => .inl h.symm) (fun h => .inr (congrArg some h)))) (fun v _ => HLX.out v)); clear hown1 hgrow hat hlt1 HBK)
                  | fail))
                all_goals first
                  | exact PutQ.mk _ (by simp only [frmL, Act.put, List.setIfInBounds_toArray, List.set_cons_zero, List.set_cons_succ]; rfl) ⟨_, _, _, _, _, _, _, _, _, _, _, _, _, _, _, _, _, _, _, rfl, HE⟩
                  | fail
              · rintro _ v ⟨x37, x38, x39, x40, x41, x42, x43, x44, x45, x46, x47, x48, x49, x50, x51, x52, x53, x54, x55, rfl, HE⟩
                simp only [frmL, Act.put, List.setIfInBounds_toArray, List.set_cons_zero, List.set_cons_succ]
                clear HI HPL HR p1 p2 p3 HOW HP2 a1 a2 a3
                go_wp2
                go_roundw
                case rel => exact ⟨l + 1, by omega, by go_num, HE⟩
                case measure => simp [intOf]; omega
            · obtain rfl : l = m := by omega
              have HP1 := Lib.hid (HI.out.done (L' := Lst g (i + 1) 0) (fun v _ => by rw [HML.out]; exact Lst_up g i v))
              clear HI HM
              go_wp2
              go_roundw
              case rel => exact ⟨i + 1, by omega, by go_num, HP1⟩
              case measure => simp [intOf]; omega
        · obtain rfl : i = k := by omega
          have HE := Lib.hid (HP.out.done.congr (L' := nn g) (fun v hv => by unfold Lst; rw [if_pos hv]) (fun _ _ => rfl) (fun _ _ => rfl))
          clear HP
          go_wp2
          go_ret
          exact ⟨rfl, HE.out⟩
end Go.Proofs.Ytolnbkplgnpfjaa

/- Valid graphs, by the program. -/
namespace Go.Proofs.Ytolnbkplgnpfjaa
open Go.RowKit

theorem mem_memL (s : Nat) : ∀ k (x : Int), x ∈ memL s k ↔ ∃ j, j < k ∧ x = (j : Int) ∧ s / 2 ^ j % 2 = 1
  | 0, x => by simp [memL]
  | k + 1, x => by
    by_cases h : s / 2 ^ k % 2 = 1
    · rw [memL_yes h, List.mem_append, mem_memL s k x, List.mem_singleton]
      constructor
      · rintro (⟨j, hj, e, hb⟩ | rfl)
        · exact ⟨j, by omega, e, hb⟩
        · exact ⟨k, by omega, rfl, h⟩
      · rintro ⟨j, hj, e, hb⟩
        by_cases hjk : j < k
        · exact .inl ⟨j, hjk, e, hb⟩
        · obtain rfl : j = k := by omega
          exact .inr e
    · rw [memL_no h, mem_memL s k x]
      constructor
      · rintro ⟨j, hj, e, hb⟩; exact ⟨j, by omega, e, hb⟩
      · rintro ⟨j, hj, e, hb⟩
        by_cases hjk : j < k
        · exact ⟨j, hjk, e, hb⟩
        · obtain rfl : j = k := by omega
          exact absurd hb h
theorem mem_nn {g : List Int} {v u : Nat} : u ∈ nn g v ↔ u < 5 ∧ bt g v u = 1 := by
  unfold nn
  rw [List.mem_map]
  constructor
  · rintro ⟨x, hx, rfl⟩
    obtain ⟨j, hj, rfl, hb⟩ := (mem_memL _ 5 x).1 hx
    exact ⟨by rw [Int.toNat_natCast]; exact hj, by rw [Int.toNat_natCast]; exact hb⟩
  · rintro ⟨h5, hb⟩
    exact ⟨(u : Int), (mem_memL _ 5 _).2 ⟨u, h5, rfl, hb⟩, Int.toNat_natCast _⟩
theorem bt_in {g : List Int} (hi : InG g) {v u : Nat} (hv : v < g.length) (hb : bt g v u = 1) : u < g.length := by
  have h1 := hi v hv
  unfold InR at h1
  have h6 : ((2 ^ g.length : Nat) : Int) = (2 : Int) ^ g.length := by simp
  rcases Nat.lt_or_ge u g.length with h | h
  · exact h
  · have h2 : 2 ^ g.length ≤ 2 ^ u := Nat.pow_le_pow_right (by omega) h
    have h3 : (gi g v).toNat / 2 ^ u = 0 := Nat.div_eq_of_lt (by omega)
    unfold bt at hb
    rw [h3] at hb; cases hb
theorem mut_sym {g : List Int} (hi : InG g) (h5 : g.length ≤ 5) : MutP (nn g) g.length ↔ SyG g := by
  constructor
  · intro h v hv
    have key : ∀ v u, v < g.length → bt g v u = 1 → u ≠ v ∧ bt g u v = 1 := fun v u hv hb =>
      have hu := bt_in hi hv hb
      have q := h v hv u (mem_nn.2 ⟨by omega, hb⟩)
      ⟨q.1, (mem_nn.1 q.2).2⟩
    have lt := bt_lt g v v
    refine ⟨?_, fun u hu => ?_⟩
    · rcases Nat.eq_zero_or_pos (bt g v v) with h0 | h0
      · exact h0
      · exact absurd rfl (key v v hv (by omega)).1
    · have l1 := bt_lt g v u
      have l2 := bt_lt g u v
      by_cases e : bt g v u = 1
      · rw [e, (key v u hv e).2]
      · by_cases e2 : bt g u v = 1
        · exact absurd (key u v (by omega) e2).2 e
        · omega
  · intro h v hv u hu
    have hb := (mem_nn.1 hu).2
    have hul := bt_in hi hv hb
    have hne : u ≠ v := fun e => by rw [e, (h v hv).1] at hb; cases hb
    refine ⟨hne, mem_nn.2 ⟨by omega, ?_⟩⟩
    rcases Nat.lt_or_gt_of_ne hne with hlt | hgt
    · rw [← (h v hv).2 u hlt]; exact hb
    · rw [(h u hul).2 v hgt]; exact hb
theorem shl5 : ∀ n : Nat, n < 6 → wrap64 ((1 : Int) * 2 ^ n) = 2 ^ n := by decide +kernel
theorem pow5 : ∀ n : Nat, n < 6 → 1 ≤ (2 : Int) ^ n ∧ (2 : Int) ^ n ≤ 32 := by decide +kernel
set_option maxHeartbeats 400000 in
theorem isSetOf_any (n : Nat) (x : Int) (w : World) (h5 : n ≤ 5) : Calls Try.prog 120 #[.int .i64 n, .int .i64 x] w fun e w' => e = .returned (.bool (pb (InR x 0 (2 ^ n - 1)))) ∧ w = w' := by
  have hs := shl5 n (by omega)
  obtain ⟨p1, p2⟩ := pow5 n (by omega)
  by_cases h0 : 0 ≤ x
  · have d0 : decide (0 ≤ x) = true := decide_eq_true h0
    have HD : Hid (decide (x < (2 : Int) ^ n) = pb (InR x 0 (2 ^ n - 1))) := Lib.hid (by
      by_cases h : x < (2 : Int) ^ n
      · rw [pb_true ⟨h0, by omega⟩, decide_eq_true h]
      · rw [pb_false (fun k => h (by have := k.2; omega)), decide_eq_false h])
    go_enter Try.func120, Try.ntmps120
    go_wp2
    go_ret
    exact ⟨ret_bool HD.out, rfl⟩
  · have d0 : decide (0 ≤ x) = false := decide_eq_false h0
    have HD := Lib.hid (pb_false (p := InR x 0 (2 ^ n - 1)) (fun k => h0 k.1))
    go_enter Try.func120, Try.ntmps120
    go_wp2
    go_ret
    exact ⟨ret_bool HD.out.symm, rfl⟩
theorem GR.inn_no {g : List Int} {v : Nat} (hv : v < g.length) (h : ¬ InR (gi g v) 0 (2 ^ g.length - 1)) : pb (GR g) = false := pb_false fun k => h (k.b.inn v hv)
set_option maxRecDepth 100000 in
set_option maxHeartbeats 1600000 in
theorem ValidGraph_impl (A : Option Addr) (n c : Nat) (g : List Int) (w : World) (hx : Ints w A n c g) :
    Calls Try.prog 90 #[.slice A n c] w (Ret (.bool (pb (GR g))) w) := by
  have HX := Lib.hid hx
  have HL := Lib.hid hx.len
  have hmx := hx.max
  have HWF := Lib.hid (fun j (hj : j < n) => hx.wf _ (gi_mem (xs := g) (k := j) (by rw [hx.len]; exact hj)))
  clear hx
  by_cases h2 : n < 2
  · have HE := Lib.hid (show pb (GR g) = false from pb_false fun k => by have := k.b.n2; rw [HL.out] at this; omega)
    have d2 : decide ((n : Int) < 2) = true := decide_eq_true (by omega)
    go_enter Try.func90, Try.ntmps90
    go_wp2
    go_ret
    exact ⟨ret_bool HE.out.symm, Below.refl _ _⟩
  · by_cases h5 : n ≤ 5
    · have d2 : decide ((n : Int) < 2) = false := decide_eq_false (by omega)
      have d5 : decide (5 < (n : Int)) = false := decide_eq_false (by omega)
      go_enter Try.func90, Try.ntmps90
      go_wp2
      clear d2 d5
      go_loop [16] (fun i => ∃ v : Nat, v ≤ n ∧ i = .int .i64 v ∧ Hid (∀ j, j < v → InR (gi g j) 0 (2 ^ g.length - 1))) (fun i => n - (intOf i).toNat)
      case atStart => exact ⟨0, Nat.zero_le _, rfl, Lib.hid (fun _ h => absurd h (by omega))⟩
      case round =>
        obtain ⟨v, hv, rfl, HI⟩ := hrel
        by_cases hlt : v < n
        · obtain ⟨b, o, rfl, hc⟩ := HX.out.at_ (by omega)
          have c1 := hc v hlt
          clear hc
          by_cases hin : InR (gi g v) 0 (2 ^ n - 1)
          · have HC := Lib.hid (fun W => pb_true hin ▸ isSetOf_any n (gi g v) W h5)
            have HN := Lib.hid (show ∀ j, j < v + 1 → InR (gi g j) 0 (2 ^ g.length - 1) from fun j hj => by
              by_cases hjv : j < v
              · exact HI.out j hjv
              · obtain rfl : j = v := by omega
                rw [HL.out]; exact hin)
            clear hin
            go_wp2_with (go_at_call 120; refine (HC.out _).mono ?_; rintro e w' ⟨rfl, rfl⟩)
            go_round
            case rel => exact ⟨v + 1, by omega, by go_num, HN⟩
            case measure => simp [intOf]; omega
          · have HC := Lib.hid (fun W => pb_false hin ▸ isSetOf_any n (gi g v) W h5)
            have HE := Lib.hid (GR.inn_no (g := g) (v := v) (by rw [HL.out]; exact hlt) (by rw [HL.out]; exact hin))
            clear hin
            go_wp2_with (go_at_call 120; refine (HC.out _).mono ?_; rintro e w' ⟨rfl, rfl⟩)
            go_ret
            exact ⟨ret_bool HE.out.symm, Below.refl _ _⟩
        · obtain rfl : v = n := by omega
          have HIN := Lib.hid (show InG g from fun j hj => HI.out j (by rw [← HL.out]; exact hj))
          have HC := Lib.hid (placesOf_any A v c g w HX.out HIN.out h5)
          go_wp2_with fail
          refine HC.out.mono ?_
          rintro e w1 ⟨rfl, hpw⟩
          have HB1 := Lib.hid hpw.up
          obtain ⟨R, hpl⟩ := hpw.ex
          have HPL := Lib.hid hpl
          have HLL := Lib.hid (show ∀ x, x < v → (nn g x).length ≤ 5 ∧ ∀ u, u ∈ nn g x → u < v from fun x hx => ⟨by rw [nn_len]; exact memL_le _ 5, fun u hu => by rw [← HL.out] at hx ⊢; exact bt_in HIN.out hx (mem_nn.1 hu).2⟩)
          have HM := Lib.hid (areMutual_any _ v (nn g) _ _ R w1 hpl h5 HLL.out)
          clear HC hpw hpl
          by_cases hsy : SyG g
          · have HMT := Lib.hid (pb_true (by rw [← HL.out]; exact (mut_sym HIN.out (by rw [HL.out]; exact h5)).2 hsy : MutP (nn g) v))
            rw [HMT.out] at HM
            have HGB := Lib.hid (show GB g from ⟨HIN.out, hsy, by rw [HL.out]; omega, by rw [HL.out]; exact h5⟩)
            have HE : Hid (pb (GR g) = decide (lnk g = 2 ^ g.length - 1)) := Lib.hid (by
              by_cases e : lnk g = 2 ^ g.length - 1
              · rw [decide_eq_true e]; exact pb_true ⟨HGB.out, e⟩
              · rw [decide_eq_false e]; exact pb_false fun k => e k.all)
            clear HMT hsy
            go_wp2_with fail
            refine HM.out.mono ?_
            rintro e w2 ⟨rfl, hq⟩
            have HR := Lib.hid (areReached_any _ g v _ _ R w2 (HPL.out.quiet hq) HL.out HGB.out)
            have HB2 := Lib.hid (below_quiet HB1.out hq)
            clear hq HM HB1
            generalize decide (lnk g = 2 ^ g.length - 1) = r at *
            go_wp2_with fail
            refine HR.out.mono ?_
            rintro e w3 ⟨rfl, hb⟩
            have HB3 := Lib.hid (below_up HB2.out hb)
            clear hb HR HB2
            go_wp2
            go_ret
            exact ⟨ret_bool HE.out.symm, HB3.out⟩
          · have HMT := Lib.hid (pb_false (fun k => hsy ((mut_sym HIN.out (by rw [HL.out]; exact h5)).1 (by rw [HL.out]; exact k)) : ¬ MutP (nn g) v))
            rw [HMT.out] at HM
            have HE := Lib.hid (show pb (GR g) = false from pb_false fun k => hsy k.b.sym)
            clear HMT hsy
            go_wp2_with fail
            refine HM.out.mono ?_
            rintro e w2 ⟨rfl, hq⟩
            have HB2 := Lib.hid (below_quiet HB1.out hq)
            clear hq HM HB1
            go_wp2
            go_ret
            exact ⟨ret_bool HE.out.symm, HB2.out⟩
    · have HE := Lib.hid (show pb (GR g) = false from pb_false fun k => by have := k.b.n5; rw [HL.out] at this; omega)
      have d2 : decide ((n : Int) < 2) = false := decide_eq_false (by omega)
      have d5 : decide (5 < (n : Int)) = true := decide_eq_true (by omega)
      go_enter Try.func90, Try.ntmps90
      go_wp2
      go_ret
      exact ⟨ret_bool HE.out.symm, Below.refl _ _⟩
end Go.Proofs.Ytolnbkplgnpfjaa

/- Draws of graphs; whole graphs. -/
namespace Go.Proofs.Ytolnbkplgnpfjaa
open Go.RowKit

set_option maxHeartbeats 400000 in
theorem lpower_any (n : Nat) (w : World) (hn : n ≤ 17592186044416) : Calls Try.prog 29 #[.int .i64 n] w fun e w' => e = .returned (.int .i64 (pwF n)) ∧ w = w' := by
  go_enter Try.func29, Try.ntmps29
  go_wp2
  go_loop [0, 3] (fun t s => ∃ i k : Nat, i + k = n ∧ t = .int .i64 k ∧ s = .int .i64 (pwF i)) (fun t _ => (intOf t).toNat)
  case atStart => exact ⟨0, n, by omega, rfl, rfl⟩
  case round =>
    obtain ⟨i, k, hik, rfl, rfl⟩ := hrel
    have HS : Hid (pwF (i + 1) = wrap64 (2 * pwF i)) := Lib.hid rfl
    have HI := Lib.hid hik
    have hk1 : k ≤ 17592186044416 := by omega
    clear hik
    by_cases hk : 0 < k
    · have hk' : (0 : Int) < (k : Int) := by omega
      generalize pwF i = v at *
      go_wp2
      go_round
      case rel => exact ⟨i + 1, k - 1, by have := HI.out; omega, by go_num, by rw [HS.out]⟩
      case measure => simp [intOf]; omega
    · obtain rfl : k = 0 := by omega
      go_wp2
      go_ret
      exact ⟨ret_int (congrArg pwF (by have h1 := HI.out; omega)), rfl⟩
/-- The graph of n places that are all neighbours. -/
def kV (n v : Nat) : Int := pwF n - 1 - pwF v
def kL (n : Nat) : List Int := (List.range n).map (kV n)
theorem kL_ok : ((List.range 6).all fun n => decide (n < 2) || ((List.range n).all fun v => decide (0 ≤ gi (kL n) v) && decide (gi (kL n) v ≤ 2 ^ n - 1) && bt (kL n) v v == 0 && (List.range v).all fun u => bt (kL n) v u == bt (kL n) u v) && lnk (kL n) == 2 ^ n - 1) = true := by decide +kernel
theorem kL_len (n : Nat) : (kL n).length = n := by simp [kL]
theorem GR_kL {n : Nat} (h2 : 2 ≤ n) (h5 : n ≤ 5) : GR (kL n) := by
  have t := kL_ok
  simp only [List.all_eq_true, List.mem_range, Bool.and_eq_true, Bool.or_eq_true, decide_eq_true_eq, beq_iff_eq] at t
  have q := (t n (by omega)).resolve_left (by omega)
  refine ⟨⟨fun v hv => ?_, fun v hv => ?_, by rw [kL_len]; exact h2, by rw [kL_len]; exact h5⟩, by rw [kL_len]; exact q.2⟩
  · rw [kL_len] at hv ⊢
    exact ⟨(q.1 v hv).1.1.1, (q.1 v hv).1.1.2⟩
  · rw [kL_len] at hv
    exact ⟨(q.1 v hv).1.2, fun u hu => (q.1 v hv).2 u hu⟩
/-- A graph, or none, that was drawn. -/
def DrawnGr (w : World) (e : Ending) (w' : World) : Prop := ∃ Av n cv ys, e = .returned (.slice Av n cv) ∧ n ≤ 5 ∧ B32 ys ∧ Ints w' Av n cv ys ∧ Below w.heap.size w w'

end Go.Proofs.Ytolnbkplgnpfjaa

/- Small crowds, in plain Lean: the numbers of the steps, their sums, and chances. -/
namespace Go.Proofs.Ytolnbkplgnpfjaa

/-- The product of the first k numbers; of the last t up to m. -/
def upP (g : Nat → Int) : Nat → Int
  | 0 => 1
  | k + 1 => upP g k * g (k + 1)
def dnP (f : Nat → Int) (m : Nat) : Nat → Int
  | 0 => 1
  | t + 1 => dnP f m t * f (m - t)
/-- The numbers whose sums the chance is of. -/
def numP (f g : Nat → Int) (m k : Nat) : Int := upP g k * dnP f m (m - k)
def numL (f g : Nat → Int) (m : Nat) : List Int := (List.range (m + 1)).map (numP f g m)
theorem numL_len (f g : Nat → Int) (m : Nat) : (numL f g m).length = m + 1 := by simp [numL]
theorem gi_numL {f g : Nat → Int} {m k : Nat} (h : k ≤ m) : gi (numL f g m) k = numP f g m k := by
  rw [gi_get (by rw [numL_len]; omega)]; simp [numL]
theorem dnP_top (f : Nat → Int) (m : Nat) : ∀ t, t ≤ m → dnP f (m + 1) (t + 1) = f (m + 1) * dnP f m t
  | 0, _ => by simp [dnP]
  | t + 1, h => by
    rw [dnP, dnP_top f m t (by omega), dnP, Int.mul_assoc]
    congr 3
    omega
theorem up_dn (f : Nat → Int) (m : Nat) : ∀ t, t ≤ m → upP f m = upP f (m - t) * dnP f m t
  | 0, _ => by simp [dnP]
  | t + 1, h => by
    rw [up_dn f m t (by omega), dnP]
    have e : m - t = (m - (t + 1)) + 1 := by omega
    rw [e, upP, ← e]
    grind
/-- The sum of the first i of the numbers of k steps. -/
def SS (f g : Nat → Int) (i k : Nat) : Int := sm (numL f g k) (min i (k + 1))
theorem sm_numL {f g : Nat → Int} {m : Nat} : ∀ {k}, k ≤ m + 1 → sm (numL f g (m + 1)) k = sm (numL f g m) k * f (m + 1)
  | 0, _ => by simp [sm]
  | k + 1, h => by
    rw [sm, sm, sm_numL (by omega), gi_numL (by omega), gi_numL (by omega), numP, numP]
    have e : m + 1 - k = (m - k) + 1 := by omega
    rw [e, dnP_top f m (m - k) (by omega)]
    grind
theorem SS_zero (f g : Nat → Int) (i : Nat) : SS f g i 0 = if 0 < i then 1 else 0 := by
  unfold SS
  by_cases h : 0 < i
  · rw [show min i (0 + 1) = 1 by omega, if_pos h, sm, gi_numL (Nat.le_refl 0)]; simp [sm, numP, upP, dnP]
  · rw [show min i (0 + 1) = 0 by omega, if_neg h]; rfl
theorem SS_succ (f g : Nat → Int) (i k : Nat) : SS f g i (k + 1) = SS f g i k * f (k + 1) + if k + 1 < i then upP g (k + 1) else 0 := by
  unfold SS
  by_cases h : k + 1 < i
  · rw [if_pos h, show min i (k + 1 + 1) = (k + 1) + 1 by omega, show min i (k + 1) = k + 1 by omega, sm, sm_numL (by omega), gi_numL (Nat.le_refl _), numP]
    rw [show k + 1 - (k + 1) = 0 by omega]
    simp [dnP]
  · rw [if_neg h, show min i (k + 1 + 1) = min i (k + 1) by omega, sm_numL (by omega)]
    simp
theorem SS_all (f g : Nat → Int) (m : Nat) : SS f g (m + 1) m = tot (numL f g m) := by
  unfold SS tot
  rw [numL_len, Nat.min_self]

/-- What players have: 1 to 45 each. -/
structure FG (f g : Nat → Int) (m : Nat) : Prop where
  m5 : m ≤ 5
  f : ∀ j, 1 ≤ j → j ≤ m → 1 ≤ f j ∧ f j ≤ 45
  g : ∀ j, 1 ≤ j → j ≤ m → 1 ≤ g j ∧ g j ≤ 45
theorem FG.less {f g m k} (h : FG f g m) (hk : k ≤ m) : FG f g k := ⟨by have := h.m5; omega, fun j a b => h.f j a (by omega), fun j a b => h.g j a (by omega)⟩
theorem FG.flip {f g m} (h : FG f g m) : FG g f m := ⟨h.m5, h.g, h.f⟩
def p45 : Nat → Int
  | 0 => 1
  | k + 1 => p45 k * 45
theorem p45_add (a : Nat) : ∀ b, p45 a * p45 b = p45 (a + b)
  | 0 => by simp [p45]
  | b + 1 => by rw [p45, ← Int.mul_assoc, p45_add a b]; rfl
theorem p45_pos : ∀ k, 1 ≤ p45 k
  | 0 => Int.le_refl _
  | k + 1 => by have := p45_pos k; rw [p45]; omega
theorem p45_mono : ∀ {k m}, k ≤ m → p45 k ≤ p45 m
  | k, 0, h => by obtain rfl : k = 0 := by omega
                  exact Int.le_refl _
  | k, m + 1, h => by
    by_cases e : k = m + 1
    · subst e; exact Int.le_refl _
    · have h1 := p45_mono (k := k) (m := m) (by omega)
      have h2 := p45_pos m
      rw [p45]; omega
theorem p45_5 {k : Nat} (h : k ≤ 5) : p45 k ≤ 184528125 := by
  have := p45_mono h
  have e : p45 5 = 184528125 := by decide
  omega
theorem upP_bd {g : Nat → Int} : ∀ {k}, (∀ j, 1 ≤ j → j ≤ k → 1 ≤ g j ∧ g j ≤ 45) → 1 ≤ upP g k ∧ upP g k ≤ p45 k
  | 0, _ => ⟨Int.le_refl _, Int.le_refl _⟩
  | k + 1, h => by
    have h1 := upP_bd (k := k) fun j a b => h j a (by omega)
    have h2 := h (k + 1) (by omega) (by omega)
    have h3 : 1 * 1 ≤ upP g k * g (k + 1) := Int.mul_le_mul h1.1 h2.1 (by omega) (by omega)
    have h4 : upP g k * g (k + 1) ≤ p45 k * 45 := Int.mul_le_mul h1.2 h2.2 (by omega) (by have := p45_pos k; omega)
    rw [upP, p45]
    omega
theorem dnP_bd {f : Nat → Int} {m : Nat} : ∀ {t}, t ≤ m → (∀ j, 1 ≤ j → j ≤ m → 1 ≤ f j ∧ f j ≤ 45) → 1 ≤ dnP f m t ∧ dnP f m t ≤ p45 t
  | 0, _, _ => ⟨Int.le_refl _, Int.le_refl _⟩
  | t + 1, ht, h => by
    have h1 := dnP_bd (t := t) (by omega) h
    have h2 := h (m - t) (by omega) (by omega)
    have h3 : 1 * 1 ≤ dnP f m t * f (m - t) := Int.mul_le_mul h1.1 h2.1 (by omega) (by omega)
    have h4 : dnP f m t * f (m - t) ≤ p45 t * 45 := Int.mul_le_mul h1.2 h2.2 (by omega) (by have := p45_pos t; omega)
    rw [dnP, p45]
    omega
theorem numP_bd {f g : Nat → Int} {m k : Nat} (h : FG f g m) (hk : k ≤ m) : 1 ≤ numP f g m k ∧ numP f g m k ≤ 184528125 := by
  have h1 := upP_bd (g := g) (k := k) fun j a b => h.g j a (by omega)
  have h2 := dnP_bd (f := f) (m := m) (t := m - k) (by omega) h.f
  have h3 : 1 * 1 ≤ upP g k * dnP f m (m - k) := Int.mul_le_mul h1.1 h2.1 (by omega) (by omega)
  have h4 : upP g k * dnP f m (m - k) ≤ p45 k * p45 (m - k) := Int.mul_le_mul h1.2 h2.2 (by omega) (by have := p45_pos k; omega)
  rw [p45_add] at h4
  have h5 := p45_5 (k := k + (m - k)) (by have := h.m5; omega)
  unfold numP
  omega
theorem up_bd {g : Nat → Int} {m k : Nat} (h : ∀ j, 1 ≤ j → j ≤ m → 1 ≤ g j ∧ g j ≤ 45) (hm : m ≤ 5) (hk : k ≤ m) : 1 ≤ upP g k ∧ upP g k ≤ 184528125 := by
  have h1 := upP_bd (g := g) (k := k) fun j a b => h j a (by omega)
  have h2 := p45_5 (k := k) (by omega)
  omega
theorem sm_num_bd {f g : Nat → Int} {m k : Nat} (h : FG f g m) (hk : k ≤ m + 1) : (k : Int) ≤ sm (numL f g m) k ∧ sm (numL f g m) k ≤ 1107168750 := by
  have h1 := sm_bd (xs := numL f g m) (k := k) (lo := 1) (hi := 184528125) fun j hj => by rw [gi_numL (by omega)]; exact numP_bd h (by omega)
  have := h.m5
  omega
theorem SS_bd {f g : Nat → Int} {i k : Nat} (h : FG f g k) : 0 ≤ SS f g i k ∧ SS f g i k ≤ 1107168750 := by
  have := sm_num_bd h (k := min i (k + 1)) (by omega)
  unfold SS
  omega
theorem tot_num_bd {f g : Nat → Int} {m : Nat} (h : FG f g m) : 1 ≤ tot (numL f g m) ∧ tot (numL f g m) ≤ 1107168750 := by
  have := sm_num_bd h (k := m + 1) (Nat.le_refl _)
  unfold tot
  rw [numL_len]
  omega
/-- The sums of two fractions in lowest terms, and their product and quotient. -/
theorem fr_add {u d v e : Int} (hd : 0 < d) (he : 0 < e) :
    frU (frU u d * frD v e + frU v e * frD u d) (frD u d * frD v e) = frU (u * e + v * d) (d * e) ∧ frD (frU u d * frD v e + frU v e * frD u d) (frD u d * frD v e) = frD (u * e + v * d) (d * e) := by
  have h1 := frD_pos (u := u) hd
  have h2 := frD_pos (u := v) he
  refine fr_eq (Int.mul_pos h1 h2) (Int.mul_pos hd he) ?_
  have r1 := fr_ratio u d
  have r2 := fr_ratio v e
  grind
theorem fr_tim {u d v e : Int} (hd : 0 < d) (he : 0 < e) :
    frU (frU u d * frU v e) (frD u d * frD v e) = frU (u * v) (d * e) ∧ frD (frU u d * frU v e) (frD u d * frD v e) = frD (u * v) (d * e) := by
  have h1 := frD_pos (u := u) hd
  have h2 := frD_pos (u := v) he
  refine fr_eq (Int.mul_pos h1 h2) (Int.mul_pos hd he) ?_
  have r1 := fr_ratio u d
  have r2 := fr_ratio v e
  grind
theorem fr_pos {u d : Int} (hd : 0 < d) (hu : 0 < u) : 0 < frU u d := by
  have h1 := frD_pos (u := u) hd
  have r1 := fr_ratio u d
  have h2 : 0 < u * frD u d := Int.mul_pos hu h1
  apply Classical.byContradiction
  intro hn
  have h3 : frU u d * d ≤ 0 := Int.mul_nonpos_of_nonpos_of_nonneg (by omega) (by omega)
  omega
theorem fr_turn {u d : Int} (hd : 0 < d) (hu : 0 < u) : frU (frD u d) (frU u d) = frU d u ∧ frD (frD u d) (frU u d) = frD d u := by
  refine fr_eq (fr_pos hd hu) hu ?_
  have r1 := fr_ratio u d
  grind
theorem frU_le {u d B : Int} (hd : 0 < d) (h0 : 0 ≤ u) (h : u ≤ B) : 0 ≤ frU u d ∧ frU u d ≤ B := by
  have h1 := frU_bd (u := u) (d := d) (B := B) hd (by omega)
  have h2 := frD_pos (u := u) hd
  have r1 := fr_ratio u d
  have h3 : 0 ≤ u * frD u d := Int.mul_nonneg h0 (by omega)
  refine ⟨?_, h1.2⟩
  apply Classical.byContradiction
  intro hn
  have h4 : frU u d * d < 0 := Int.mul_neg_of_neg_of_pos (by omega) hd
  omega
end Go.Proofs.Ytolnbkplgnpfjaa

/- How much more weight a set has behind one step: plain. -/
namespace Go.Proofs.Ytolnbkplgnpfjaa

def sb (s : Int) (v : Nat) : Int := ((s.toNat / 2 ^ v % 2 : Nat) : Int)
theorem sb_01 (s : Int) (v : Nat) : sb s v = 0 ∨ sb s v = 1 := by unfold sb; omega
def dg (g : List Int) (v : Nat) : Nat := (nb g v).length
def byN (g : List Int) (b : Bool) (v u : Nat) : Nat := if b then dg g v else dg g u
def sU (f : Nat → Int) : Nat → Int
  | 0 => 0
  | k + 1 => sU f k + f k
theorem sU_bd {f : Nat → Int} {B : Int} : ∀ {m : Nat}, (∀ k, k < m → -B ≤ f k ∧ f k ≤ B) → -((m : Int) * B) ≤ sU f m ∧ sU f m ≤ (m : Int) * B
  | 0, _ => by simp [sU]
  | m + 1, h => by
    have h1 := sU_bd (m := m) fun k hk => h k (by omega)
    have h2 := h m (by omega)
    have e : ((m + 1 : Nat) : Int) * B = (m : Int) * B + B := by rw [Int.natCast_add, Int.add_mul]; simp
    rw [e, sU]; omega
theorem sU_congr {f f' : Nat → Int} : ∀ {m : Nat}, (∀ k, k < m → f k = f' k) → sU f m = sU f' m
  | 0, _ => rfl
  | m + 1, h => by rw [sU, sU, sU_congr (m := m) fun k hk => h k (by omega), h m (by omega)]
theorem sU_zero {f : Nat → Int} : ∀ {m : Nat}, (∀ k, k < m → f k = 0) → sU f m = 0
  | 0, _ => rfl
  | m + 1, h => by rw [sU, sU_zero (m := m) fun k hk => h k (by omega), h m (by omega)]; rfl
theorem sU_add {f f' : Nat → Int} : ∀ {m : Nat}, sU (fun k => f k + f' k) m = sU f m + sU f' m
  | 0 => rfl
  | m + 1 => by rw [sU, sU, sU, sU_add (m := m)]; omega
theorem sU_swap {F : Nat → Nat → Int} {m : Nat} : ∀ {n : Nat}, sU (fun v => sU (F v) m) n = sU (fun u => sU (fun v => F v u) n) m
  | 0 => (sU_zero fun _ _ => rfl).symm
  | n + 1 => by
    rw [sU, sU_swap (n := n), ← sU_add]
    exact sU_congr fun k _ => rfl
def dT (g c : List Int) (s : Int) (b : Bool) (v u : Nat) : Int := if bt g v u = 1 then ((12 / byN g b v u : Nat) : Int) * (gi c u * (sb s v - sb s u)) else 0
def dR (g c : List Int) (s : Int) (b : Bool) (v : Nat) : Nat → Int := sU (dT g c s b v)
def dA (g c : List Int) (s : Int) (b : Bool) : Nat → Int := sU (fun v => dR g c s b v g.length)
def dAll (g c : List Int) (s : Int) (b : Bool) : Int := dA g c s b g.length
/-- Weights of the places of a graph, and a set. -/
structure WQ (g c : List Int) (s : Int) : Prop where
  gr : GR g
  len : c.length = g.length
  wt : ∀ i, i < c.length → InR (gi c i) 0 1000
  set : InR s 0 (2 ^ g.length - 1)
theorem GR.deg {g : List Int} (h : GR g) {v : Nat} (hv : v < g.length) : 1 ≤ dg g v ∧ dg g v ≤ 4 ∧ ∀ u, u ∈ nb g v → u.toNat < g.length := by
  have t := List.all_eq_true.1 deg_table g (mem_graphs h.b)
  unfold degT at t
  rw [show (lnk g == 2 ^ g.length - 1) = true by simp [h.all]] at t
  simp only [Bool.not_true, Bool.false_or, List.all_eq_true, List.mem_range, Bool.and_eq_true, decide_eq_true_eq] at t
  have := t v hv
  exact ⟨this.1.1, this.1.2, this.2⟩
theorem dT_bd {g c : List Int} {s : Int} {b : Bool} (h : WQ g c s) {v u : Nat} (hu : u < g.length) : -12000 ≤ dT g c s b v u ∧ dT g c s b v u ≤ 12000 := by
  unfold dT
  split
  · have h1 : 12 / byN g b v u ≤ 12 := Nat.div_le_self _ _
    have h2 := h.wt u (by rw [h.len]; exact hu)
    unfold InR at h2
    have h3 : -1000 ≤ gi c u * (sb s v - sb s u) ∧ gi c u * (sb s v - sb s u) ≤ 1000 := by
      rcases sb_01 s v with e | e <;> rcases sb_01 s u with e2 | e2 <;> rw [e, e2] <;> omega
    generalize 12 / byN g b v u = k at *
    have h4 := mulbd (x := (k : Int)) (y := gi c u * (sb s v - sb s u)) (A := 12) (B := 1000) (by omega) h3
    omega
  · omega
theorem dR_bd {g c : List Int} {s : Int} {b : Bool} (h : WQ g c s) {v u : Nat} (hu : u ≤ g.length) : -60000 ≤ dR g c s b v u ∧ dR g c s b v u ≤ 60000 := by
  have h5 := h.gr.b.n5
  have := sU_bd (f := dT g c s b v) (B := 12000) (m := u) fun k hk => dT_bd h (by omega)
  unfold dR; omega
theorem dA_bd {g c : List Int} {s : Int} {b : Bool} (h : WQ g c s) {v : Nat} (hv : v ≤ g.length) : -300000 ≤ dA g c s b v ∧ dA g c s b v ≤ 300000 := by
  have h5 := h.gr.b.n5
  have := sU_bd (f := fun v => dR g c s b v g.length) (B := 60000) (m := v) fun k hk => dR_bd h (Nat.le_refl _)
  unfold dA; omega
theorem fr_zero {D : Int} (h : 0 < D) : frU 0 D = 0 ∧ frD 0 D = 1 := by
  have e := fr_eq (u := 0) (d := D) (v := 0) (e := 1) h (by omega) (by omega)
  exact ⟨e.1.trans (by decide), e.2.trans (by decide)⟩
/-- One neighbour more. -/
theorem dr_step {N G : Int} {n k : Nat} (hn : 0 < n) (hk : k = 1 ∨ k = 2 ∨ k = 3 ∨ k = 4) :
    frU (frU N (12 * (n : Int)) * frD G ((n : Int) * (k : Int)) + frU G ((n : Int) * (k : Int)) * frD N (12 * (n : Int))) (frD N (12 * (n : Int)) * frD G ((n : Int) * (k : Int))) = frU (N + ((12 / k : Nat) : Int) * G) (12 * (n : Int)) ∧
    frD (frU N (12 * (n : Int)) * frD G ((n : Int) * (k : Int)) + frU G ((n : Int) * (k : Int)) * frD N (12 * (n : Int))) (frD N (12 * (n : Int)) * frD G ((n : Int) * (k : Int))) = frD (N + ((12 / k : Nat) : Int) * G) (12 * (n : Int)) := by
  have hn' : (0 : Int) < (n : Int) := by omega
  have h1 : (0 : Int) < 12 * (n : Int) := by omega
  have h2 : (0 : Int) < (n : Int) * (k : Int) := Int.mul_pos hn' (by omega)
  have a := fr_add (u := N) (d := 12 * (n : Int)) (v := G) (e := (n : Int) * (k : Int)) h1 h2
  have e := fr_eq (u := N * ((n : Int) * (k : Int)) + G * (12 * (n : Int))) (d := 12 * (n : Int) * ((n : Int) * (k : Int))) (v := N + ((12 / k : Nat) : Int) * G) (e := 12 * (n : Int)) (Int.mul_pos h1 h2) h1 (by
    rcases hk with rfl | rfl | rfl | rfl <;> simp <;> grind)
  exact ⟨a.1.trans e.1, a.2.trans e.2⟩
/-- The answers. -/
noncomputable def dfV (g c : List Int) (s : Int) (b : Bool) : Value := if pb (WQ g c s) = true then frV (dAll g c s b) (12 * (g.length : Int)) else .agg #[.int .i64 0, .int .i64 0]
theorem df_yes {g c : List Int} {s : Int} {b : Bool} (h : WQ g c s) : dfV g c s b = frV (dAll g c s b) (12 * (g.length : Int)) := if_pos (pb_true h)
theorem df_no {g c : List Int} {s : Int} {b : Bool} (h : ¬ WQ g c s) : dfV g c s b = .agg #[.int .i64 0, .int .i64 0] := if_neg (by rw [pb_false h]; decide)
theorem df_form (g c : List Int) (s : Int) (b : Bool) : ∃ U D, dfV g c s b = .agg #[.int .i64 U, .int .i64 D] := by
  unfold dfV; split
  · exact ⟨_, _, rfl⟩
  · exact ⟨_, _, rfl⟩
/-- The sum over the list of neighbours is the sum over all that are. -/
def lS (f : Nat → Int) (l : List Nat) : Nat → Int
  | 0 => 0
  | j + 1 => lS f l j + f (l.getD j 0)
theorem lS_app (f : Nat → Int) (l : List Nat) (x : Nat) : ∀ j, j ≤ l.length → lS f (l ++ [x]) j = lS f l j
  | 0, _ => rfl
  | j + 1, h => by
    rw [lS, lS, lS_app f l x j (by omega)]
    congr 2
    simp [List.getD, List.getElem?_append_left (by omega : j < l.length)]
theorem lS_mem (f : Nat → Int) (s : Nat) : ∀ k, lS f ((memL s k).map Int.toNat) (memL s k).length = sU (fun u => if s / 2 ^ u % 2 = 1 then f u else 0) k
  | 0 => rfl
  | k + 1 => by
    by_cases h : s / 2 ^ k % 2 = 1
    · rw [memL_yes h, sU, ← lS_mem f s k, if_pos h, List.map_append, List.length_append, List.length_singleton, lS]
      rw [show ([(k : Int)] : List Int).map Int.toNat = [k] from rfl, lS_app f _ k _ (by simp)]
      congr 2
      simp [List.getD]
    · rw [memL_no h, sU, ← lS_mem f s k, if_neg h]; omega
end Go.Proofs.Ytolnbkplgnpfjaa

/- One block alone has turned: what is elsewhere stays; new lists whose block is known. -/
namespace Go.Proofs.Ytolnbkplgnpfjaa
open Go.RowKit
theorem eqI_same (xs : List Int) : eqI xs xs = true := eqI_yes rfl fun _ _ => rfl
theorem OwnI.one {lo hi g w w' b A n c xs} (h : OwnI lo hi w b A n c xs) (k : One g w w') (hne : b ≠ g) : OwnI lo hi w' b A n c xs := h.of_block fun _ => k.block b hne
theorem One.below {S g : Nat} {a w w' : World} (h : Below S a w) (k : One g w w') (hg : S ≤ g) : Below S a w' := Touch.below h (k.touch (Nat.le_refl g) (Nat.lt_succ_self g)) hg
theorem NewI.ge {w w' : World} {ys : List Int} {e : Ending} (h : NewI w ys e w') :
    ∃ Av c gg, e = .returned (.slice Av ys.length c) ∧ OwnI w.heap.size w'.heap.size w' gg Av ys.length c ys ∧ w.heap.size ≤ gg ∧ Below w.heap.size w w' := by
  obtain ⟨Av, n, c, gg, rfl, rfl, ho, hb⟩ := h
  by_cases h0 : 0 < ys.length
  · obtain ⟨o, e, h1, h2, hf⟩ := ho.own h0
    exact ⟨Av, c, gg, rfl, ho, h1, hb⟩
  · exact ⟨Av, c, w.heap.size, rfl, ⟨ho.ints, fun hn => absurd hn h0⟩, Nat.le_refl _, hb⟩
end Go.Proofs.Ytolnbkplgnpfjaa

/- The harness of the exact laws, for slices of fractions. -/
namespace Go.Proofs.Ytolnbkplgnpfjaa
open Go.RowKit

/-- A slice of fractions whose cells read as ints, two each. -/
structure Frs (w : World) (A : Option Addr) (n c : Nat) (L : List Int) : Prop where
  len : L.length = 2 * n
  cap : n ≤ c
  max : n ≤ 1000
  at_ : 0 < n → ∃ b o, A = some ⟨b, o, none⟩ ∧ ∀ k, k < 2 * n → w.cell? ⟨b, o + k, none⟩ = some (.int .i64 (gi L k))
theorem Frs.keep {w w' : World} {A n c L} (h : Frs w A n c L) (k : Keep w w') : Frs w' A n c L :=
  ⟨h.len, h.cap, h.max, fun hn => let ⟨b, o, e, hc⟩ := h.at_ hn; ⟨b, o, e, fun i hi => k _ _ (hc i hi)⟩⟩
structure OwnF (lo hi : Nat) (w : World) (b : Nat) (A : Option Addr) (n c : Nat) (L : List Int) : Prop where
  frs : Frs w A n c L
  own : 0 < n → ∃ o, A = some ⟨b, o, none⟩ ∧ lo ≤ b ∧ b < hi ∧ ∀ k, k < 2 * n → w.frozen? ⟨b, o + k, none⟩ = false
theorem OwnF.lt {lo hi w b A n c L} (h : OwnF lo hi w b A n c L) (hn : 0 < n) : b < w.heap.size := by
  obtain ⟨b', o', e, hc⟩ := h.frs.at_ hn
  obtain ⟨o, e', _⟩ := h.own hn
  rw [e] at e'
  injection e' with e'
  injection e' with e1 _ _
  rw [← e1]
  exact World.block_lt_of_cell? w _ (hc 0 (by omega))
theorem OwnF.of_block {lo hi w w' b A n c L} (h : OwnF lo hi w b A n c L) (e : 0 < n → w'.heap[b]? = w.heap[b]?) : OwnF lo hi w' b A n c L := by
  refine ⟨⟨h.frs.len, h.frs.cap, h.frs.max, fun hn => ?_⟩, fun hn => ?_⟩
  · obtain ⟨b', o', e1, hc⟩ := h.frs.at_ hn
    obtain ⟨o, e2, _⟩ := h.own hn
    rw [e1] at e2
    injection e2 with e2
    injection e2 with e2 _ _
    subst e2
    exact ⟨b', o', e1, fun k hk => by rw [World.cell?_of_block (w := w) (e hn)]; exact hc k hk⟩
  · obtain ⟨o, e2, hB, hB2, hf⟩ := h.own hn
    exact ⟨o, e2, hB, hB2, fun k hk => by rw [World.frozen?_of_block (w := w) (e hn)]; exact hf k hk⟩
theorem OwnF.mono {lo hi lo' hi' w b A n c L} (h : OwnF lo hi w b A n c L) (hB : lo' ≤ lo) (hB' : hi ≤ hi') : OwnF lo' hi' w b A n c L :=
  ⟨h.frs, fun hn => let ⟨o, e, h1, h2, h3⟩ := h.own hn; ⟨o, e, Nat.le_trans hB h1, Nat.lt_of_lt_of_le h2 hB', h3⟩⟩
theorem OwnF.below {lo hi w w' b A n c L} (h : OwnF lo hi w b A n c L) (k : Below w.heap.size w w') : OwnF lo hi w' b A n c L := h.of_block fun hn => k.block _ (h.lt hn)
theorem OwnF.touch {lo hi lo' hi' w w' b A n c L} (h : OwnF lo hi w b A n c L) (k : Touch lo' hi' w w') (hd : hi ≤ lo' ∨ hi' ≤ lo) : OwnF lo hi w' b A n c L :=
  h.of_block fun hn => k.block _ (by obtain ⟨_, _, h1, h2, _⟩ := h.own hn; omega)
theorem OwnF.one {lo hi g w w' b A n c L} (h : OwnF lo hi w b A n c L) (k : One g w w') (hne : b ≠ g) : OwnF lo hi w' b A n c L := h.of_block fun _ => k.block b hne
theorem OwnF.nil (lo hi : Nat) (w : World) (b : Nat) : OwnF lo hi w b none 0 0 [] :=
  ⟨⟨rfl, Nat.le_refl _, by omega, fun h => absurd h (by omega)⟩, fun h => absurd h (by omega)⟩
theorem OwnF.set {lo hi w b o n c L} (h : OwnF lo hi w b (some ⟨b, o, none⟩) n c L) {i : Nat} (hi' : i < 2 * n) (v : Int) :
    OwnF lo hi (w.setCell ⟨b, o + i, none⟩ (.int .i64 v)) b (some ⟨b, o, none⟩) n c (L.set i v) := by
  have hl := h.frs.len
  obtain ⟨o', e, h1, h2, hf⟩ := h.own (by omega)
  injection e with e
  injection e with _ e _
  subst e
  obtain ⟨b', o', e, hc⟩ := h.frs.at_ (by omega)
  injection e with e
  injection e with e1 e2 _
  subst e1
  subst e2
  refine ⟨⟨by rw [List.length_set]; exact hl, h.frs.cap, h.frs.max, fun _ => ⟨b, o, rfl, fun k hk => ?_⟩⟩, fun _ => ⟨o, rfl, h1, h2, fun k hk => ?_⟩⟩
  · by_cases e : k = i
    · subst e
      rw [gi_set_eq (by omega), World.cell?_setCell_same w _ _ (hc k hk)]
    · rw [gi_set_ne (by omega) e, World.cell?_setCell_other w _ _ _ (fun e' => by injection e' with _ e' _; omega)]
      exact hc k hk
  · rw [World.frozen?_setCell]; exact hf k hk
/-- A new slice of fractions. -/
def NewF (w : World) (L : List Int) (e : Ending) (w' : World) : Prop :=
  ∃ Av n c gg, e = .returned (.slice Av n c) ∧ L.length = 2 * n ∧ OwnF w.heap.size w'.heap.size w' gg Av n c L ∧ Below w.heap.size w w'
theorem NewF.ge {w w' : World} {L : List Int} {e : Ending} (h : NewF w L e w') :
    ∃ Av c gg, e = .returned (.slice Av (L.length / 2) c) ∧ OwnF w.heap.size w'.heap.size w' gg Av (L.length / 2) c L ∧ w.heap.size ≤ gg ∧ Below w.heap.size w w' := by
  obtain ⟨Av, n, c, gg, rfl, hn, ho, hb⟩ := h
  obtain rfl : n = L.length / 2 := by omega
  by_cases h0 : 0 < L.length / 2
  · obtain ⟨o, e, h1, h2, hf⟩ := ho.own h0
    exact ⟨Av, c, gg, rfl, ho, h1, hb⟩
  · exact ⟨Av, c, w.heap.size, rfl, ⟨ho.frs, fun hn => absurd hn h0⟩, Nat.le_refl _, hb⟩

theorem NewF.geN {w w' : World} {L : List Int} {e : Ending} {N : Nat} (h : NewF w L e w') (hN : L.length = 2 * N) :
    ∃ Av c gg, e = .returned (.slice Av N c) ∧ OwnF w.heap.size w'.heap.size w' gg Av N c L ∧ w.heap.size ≤ gg ∧ Below w.heap.size w w' := by
  have := h.ge
  rw [show L.length / 2 = N by omega] at this
  exact this


def MarkedF (lo hi : Nat) (w : World) (b : Nat) (A : Option Addr) (n c : Nat) (k : Int) (e : Ending) (w' : World) : Prop :=
  e = .returned (.int .i64 (k + (2 * n : Nat))) ∧ OwnF lo hi w' b A n c (seqI k (2 * n)) ∧ (n = 0 → w = w') ∧ One b w w'


end Go.Proofs.Ytolnbkplgnpfjaa

/- Fractions under way: a slice made by append. -/
namespace Go.Proofs.Ytolnbkplgnpfjaa
open Go.RowKit

theorem gi_append_lt {L M : List Int} {k : Nat} (h : k < L.length) : gi (L ++ M) k = gi L k := by
  rw [gi_get (by rw [List.length_append]; omega), gi_get h, List.getElem_append_left h]
theorem gi_append_ge {L M : List Int} {k : Nat} (h : k < M.length) : gi (L ++ M) (L.length + k) = gi M k := by
  rw [gi_get (by rw [List.length_append]; omega), gi_get h, List.getElem_append_right (by omega)]
  simp
/-- Fractions under way: a slice made by append. -/
structure FU (wb : World) (v : Value) (n : Nat) (L : List Int) (w : World) : Prop where
  own : w.ownsRow wb.heap.size 39 2 v n (L.map iv)
  hi_ : ∀ k, v.ownBlock = some k → k < w.heap.size
  up : Below wb.heap.size wb w
theorem FU.start (wb : World) : FU wb (.slice (some ⟨wb.heap.size, 0, none⟩) 0 0) 0 [] (wb.alloc (.cells #[] 39)) :=
  ⟨World.ownsRow_made (e := 39) (size := 2) wb #[] 0 (Nat.le_refl _) (Nat.zero_le _) rfl, fun k hk => by simp [Value.ownBlock] at hk; simp; omega, below_alloc _ _⟩
theorem FU.next {wb v n L w w'} (h : FU wb v n L w) (k : Below w.heap.size w w') : FU wb v n L w' :=
  ⟨blk_kept h.own fun g hg => k.block g (h.hi_ g hg), fun g hg => Nat.lt_of_lt_of_le (h.hi_ g hg) k.size, below_up h.up k⟩
theorem FU.form {wb v n L w} (h : FU wb v n L w) : ∃ A c, v = .slice A n c := by
  rcases h.own.2 with ⟨rfl, h0⟩ | ⟨g, cap, cur, rfl, _⟩
  · exact ⟨none, 0, by rw [h0]⟩
  · exact ⟨_, _, rfl⟩
theorem FU.len {wb v n L w} (h : FU wb v n L w) : L.length = 2 * n := by have := h.own.1; rw [List.length_map] at this; omega
theorem FU.push {wb v v' n L w w' u d} (h : FU wb v n L w) (hown : w'.ownsRow wb.heap.size 39 2 v' (n + 1) (L.map iv ++ [iv u, iv d]))
    (hgrow : (w.alloc (.cells #[iv u, iv d] 39)).grownBy w' v.ownBlock) (hat : v'.ownBlock = v.ownBlock ∨ v'.ownBlock = some (w.heap.size + 1)) : FU wb v' (n + 1) (L ++ [u, d]) w' := by
  have hsz := hgrow.size
  simp only [World.size_alloc] at hsz
  have hu : ∀ k, v.ownBlock = some k → wb.heap.size ≤ k := fun k hk => (h.own.lt k hk).1
  have hbelow : ∀ k, k < wb.heap.size → w'.heap[k]? = w.heap[k]? := fun k hk => by
    have := h.up.size
    exact (hgrow.block k (by simp; omega) (fun e => by have := hu k e.symm; omega)).trans (Below.heap_alloc _ _ _ (by omega))
  refine ⟨by rw [List.map_append]; exact hown, fun k hk => ?_, ?_⟩
  · rcases hat with hat | hat
    · have := h.hi_ k (by rw [← hat]; exact hk); omega
    · have := (hown.lt k hk).2; omega
  · exact ⟨hgrow.os.trans h.up.os, hgrow.tape.trans h.up.tape, hgrow.output.trans h.up.output, by have := h.up.size; omega, fun k hk => (hbelow k hk).trans (h.up.block k hk)⟩
theorem FU.new {wb n L w} {A : Option Addr} {c : Nat} (h : FU wb (.slice A n c) n L w) (hm : n ≤ 1000) : NewF wb L (.returned (.slice A n c)) w := by
  have hl := h.len
  have hh := h.hi_
  rcases h.own.2 with ⟨e, h0⟩ | ⟨g, cap, cur, e, hb, hg, hnc, _, hcs, htake⟩
  · injection e with e1 e2 e3
    subst e1
    subst e3
    subst h0
    have : L = [] := List.eq_nil_of_length_eq_zero (by omega)
    subst this
    exact ⟨none, 0, 0, 0, rfl, rfl, OwnF.nil _ _ _ _, h.up⟩
  · injection e with e1 e2 e3
    subst e1
    subst e3
    refine ⟨_, n, c, g, rfl, hl, ⟨⟨hl, hnc, hm, fun _ => ⟨g, 0, rfl, fun k hk => ?_⟩⟩, fun _ => ⟨0, rfl, hb, hh g rfl, fun k _ => ?_⟩⟩, h.up⟩
    · rw [Nat.zero_add, ← getElem_iv (by omega : k < L.length), ← htake, List.getElem?_take, if_pos (by omega)]
      simp [World.cell?, hg]
    · rw [Nat.zero_add]; simp [World.frozen?, hg]
theorem cells_two_new (w : World) (u d : Int) : ∀ j v, [iv u, iv d][j]? = some v → (w.alloc (.cells #[iv u, iv d] 39)).cell? ((⟨w.heap.size, 0, none⟩ : Addr).add j) = some v := fun j v h => by
  have hadd : (⟨w.heap.size, 0, none⟩ : Addr).add j = ⟨w.heap.size, j, none⟩ := by unfold Addr.add; split <;> simp_all
  rw [hadd]
  exact blk_cell (blk_new w _ _) (by simpa using h)
theorem NewF.empty {w w' : World} {ys : List Int} (h : Below w.heap.size w w') (hy : ys = []) : NewF w ys (.returned (.slice none 0 0)) w' := by
  subst hy; exact ⟨none, 0, 0, 0, rfl, rfl, OwnF.nil _ _ _ _, h⟩
theorem NewF.from {w w1 w2 : World} {ys : List Int} {e : Ending} (h : Below w.heap.size w w1) (k : NewF w1 ys e w2) : NewF w ys e w2 := by
  obtain ⟨A, n, c, g, he, hn, ho, hb⟩ := k
  exact ⟨A, n, c, g, he, hn, ho.mono h.size (Nat.le_refl _), below_up h hb⟩
theorem Try.infoF : (Try.prog.info? 39).map (fun i => (i.zero, i.size, i.bytes)) = some (some (.agg #[.int .i64 0, .int .i64 0]), 2, 16) := by kernel_rfl

end Go.Proofs.Ytolnbkplgnpfjaa

/- A list that a call owns; numbers of which the first have turned. -/
namespace Go.Proofs.Ytolnbkplgnpfjaa
open Go.RowKit

/-- A list that a call owns, in block g from its beginning on. -/
structure NX (w : World) (n g : Nat) (L : List Int) (W : World) : Prop where
  own : OwnI w.heap.size W.heap.size W g (some ⟨g, 0, none⟩) n n L
  up : Below w.heap.size w W
  lo : w.heap.size ≤ g
theorem NX.next {w n g L W W'} (h : NX w n g L W) (k : Below W.heap.size W W') : NX w n g L W' := ⟨(h.own.below k).mono (Nat.le_refl _) k.size, below_up h.up k, h.lo⟩
theorem NX.cell {w n g L W} (h : NX w n g L W) {i : Nat} (hi : i < n) : W.cell? ⟨g, i, none⟩ = some (.int .i64 (gi L i)) := by
  obtain ⟨b, o, e, hc⟩ := h.own.ints.at_ (by omega)
  injection e with e
  injection e with e1 e2
  subst e1
  subst e2
  have := hc i hi
  rw [Nat.zero_add] at this
  exact this
theorem NX.frozen {w n g L W} (h : NX w n g L W) {i : Nat} (hi : i < n) : W.frozen? ⟨g, i, none⟩ = false := by
  obtain ⟨o, e, _, _, hf⟩ := h.own.own (by omega)
  injection e with e
  injection e with _ e2
  subst e2
  have := hf i hi
  rw [Nat.zero_add] at this
  exact this
theorem NX.set {w n g L W} (h : NX w n g L W) {i : Nat} (hi : i < n) {v : Int} (hv : -9223372036854775808 ≤ v ∧ v ≤ 9223372036854775807) : NX w n g (L.set i v) (W.setCell ⟨g, i, none⟩ (.int .i64 v)) := by
  have h1 := h.own.set hi hv
  rw [Nat.zero_add] at h1
  exact ⟨h1.mono (Nat.le_refl _) (by simp [World.setCell]), h.up.setCell (p := ⟨g, i, none⟩) h.lo _, h.lo⟩
/-- Numbers of which the first k have turned. -/
def mixT (f h : Nat → Int) (n k : Nat) : List Int := (List.range n).map fun i => if i < k then f i else h i
theorem mixT_len (f h : Nat → Int) (n k : Nat) : (mixT f h n k).length = n := by simp [mixT]
theorem gi_mixT {f h : Nat → Int} {n k i : Nat} (hi : i < n) : gi (mixT f h n k) i = if i < k then f i else h i := by
  rw [gi_get (by rw [mixT_len]; exact hi)]; simp [mixT]
theorem mixT_set {f h : Nat → Int} {n k : Nat} : (mixT f h n k).set k (f k) = mixT f h n (k + 1) := gi_ext (by rw [List.length_set, mixT_len, mixT_len]) fun i hi => by
  rw [List.length_set, mixT_len] at hi
  rw [gi_mixT hi]
  by_cases e : i = k
  · subst e; rw [gi_set_eq (by rw [mixT_len]; exact hi), if_pos (by omega)]
  · rw [gi_set_ne (by rw [mixT_len]; exact hi) e, gi_mixT hi]
    by_cases h2 : i < k
    · rw [if_pos h2, if_pos (by omega)]
    · rw [if_neg h2, if_neg (by omega)]
theorem mixT_zero (f h : Nat → Int) (n : Nat) : mixT f h n 0 = (List.range n).map h := gi_ext (by rw [mixT_len]; simp) fun i hi => by
  rw [mixT_len] at hi
  rw [gi_mixT hi, if_neg (by omega), gi_get (by simpa using hi)]; simp
theorem mixT_all (f h : Nat → Int) (n : Nat) : mixT f h n n = (List.range n).map f := gi_ext (by rw [mixT_len]; simp) fun i hi => by
  rw [mixT_len] at hi
  rw [gi_mixT hi, if_pos hi, gi_get (by simpa using hi)]; simp
theorem list_range (x : List Int) : (List.range x.length).map (gi x) = x := gi_ext (by simp) fun i hi => by
  have hi' : i < x.length := by simpa using hi
  rw [gi_get hi]; simp
theorem gi_range {f : Nat → Int} {n i : Nat} (h : i < n) : gi ((List.range n).map f) i = f i := by rw [gi_get (by simpa using h)]; simp

end Go.Proofs.Ytolnbkplgnpfjaa

/- Chances of places: plain. -/
namespace Go.Proofs.Ytolnbkplgnpfjaa

def wI (g : List Int) (b : Bool) (v : Nat) : Int := if b then ((12 / dg g v : Nat) : Int) else (dg g v : Int)
def tW (g : List Int) (b : Bool) : Int := sU (wI g b) g.length
theorem wI_bd {g : List Int} (h : GR g) (b : Bool) {v : Nat} (hv : v < g.length) : 1 ≤ wI g b v ∧ wI g b v ≤ 12 := by
  obtain ⟨h1, h2, _⟩ := h.deg hv
  unfold wI
  generalize dg g v = d at *
  have hd : d = 1 ∨ d = 2 ∨ d = 3 ∨ d = 4 := by omega
  cases b <;> rcases hd with rfl | rfl | rfl | rfl <;> decide
theorem sU_ge {f : Nat → Int} : ∀ {m : Nat}, (∀ k, k < m → 1 ≤ f k ∧ f k ≤ 12) → (m : Int) ≤ sU f m ∧ sU f m ≤ 12 * (m : Int)
  | 0, _ => by simp [sU]
  | m + 1, h => by
    have h1 := sU_ge (m := m) fun k hk => h k (by omega)
    have h2 := h m (by omega)
    rw [sU]; omega
theorem tW_bd {g : List Int} (h : GR g) (b : Bool) : 2 ≤ tW g b ∧ tW g b ≤ 60 := by
  have h2 := h.b.n2
  have h5 := h.b.n5
  have := sU_ge (f := wI g b) (m := g.length) fun k hk => wI_bd h b hk
  unfold tW; omega
def pcL (g : List Int) (b : Bool) : Nat → List Int
  | 0 => []
  | v + 1 => pcL g b v ++ [frU (wI g b v) (tW g b), frD (wI g b v) (tW g b)]
theorem pcL_len (g : List Int) (b : Bool) : ∀ i, (pcL g b i).length = 2 * i
  | 0 => rfl
  | i + 1 => by rw [pcL, List.length_append, pcL_len g b i]; simp; omega
theorem gi_pcL (g : List Int) (b : Bool) : ∀ {k i}, i < k → gi (pcL g b k) (i * 2) = frU (wI g b i) (tW g b) ∧ gi (pcL g b k) (i * 2 + 1) = frD (wI g b i) (tW g b)
  | 0, _, h => absurd h (by omega)
  | k + 1, i, h => by
    have hl := pcL_len g b k
    rw [pcL]
    by_cases e : i = k
    · subst e
      have h0 := gi_append_ge (L := pcL g b i) (M := [frU (wI g b i) (tW g b), frD (wI g b i) (tW g b)]) (k := 0) (by simp)
      have h1 := gi_append_ge (L := pcL g b i) (M := [frU (wI g b i) (tW g b), frD (wI g b i) (tW g b)]) (k := 1) (by simp)
      rw [hl] at h0 h1
      rw [show i * 2 = 2 * i + 0 by omega, h0, show 2 * i + 0 + 1 = 2 * i + 1 by omega, h1]
      exact ⟨rfl, rfl⟩
    · rw [gi_append_lt (by omega), gi_append_lt (by omega)]
      exact gi_pcL g b (by omega)
/-- The list for a kind: births, deaths, or none. -/
noncomputable def pcF (g : List Int) (s : ByteArray) : List Int := if pb (GR g) = true then (if (s.toList == [98, 105, 114, 116, 104]) = true then pcL g true g.length else if (s.toList == [100, 101, 97, 116, 104]) = true then pcL g false g.length else []) else []
def KindIs (s : ByteArray) (b : Bool) : Prop := (s.toList == [98, 105, 114, 116, 104]) = b ∧ (s.toList == [100, 101, 97, 116, 104]) = !b
theorem kind_cases (s : ByteArray) : KindIs s true ∨ KindIs s false ∨ ((s.toList == [98, 105, 114, 116, 104]) = false ∧ (s.toList == [100, 101, 97, 116, 104]) = false) := by
  unfold KindIs
  by_cases h1 : s.toList = [98, 105, 114, 116, 104]
  · refine .inl ⟨beq_iff_eq.2 h1, ?_⟩
    rw [h1]; decide
  · have e1 : (s.toList == [98, 105, 114, 116, 104]) = false := beq_eq_false_iff_ne.2 h1
    by_cases h2 : s.toList = [100, 101, 97, 116, 104]
    · exact .inr (.inl ⟨e1, beq_iff_eq.2 h2⟩)
    · exact .inr (.inr ⟨e1, beq_eq_false_iff_ne.2 h2⟩)
theorem pcF_yes {g : List Int} {s : ByteArray} {b : Bool} (h : GR g) (hk : KindIs s b) : pcF g s = pcL g b g.length := by
  unfold pcF
  rw [if_pos (pb_true h)]
  cases b
  · rw [hk.1, hk.2]; rfl
  · rw [hk.1]; rfl
theorem pcF_none {g : List Int} {s : ByteArray} (hk : (s.toList == [98, 105, 114, 116, 104]) = false ∧ (s.toList == [100, 101, 97, 116, 104]) = false) : pcF g s = [] := by
  unfold pcF
  rw [hk.1, hk.2]
  split <;> rfl
theorem pcF_no {g : List Int} {s : ByteArray} (h : ¬ GR g) : pcF g s = [] := by unfold pcF; rw [if_neg (by rw [pb_false h]; decide)]
theorem pcF_two (g : List Int) (s : ByteArray) : ∃ N, (pcF g s).length = 2 * N ∧ N ≤ 50 := by
  by_cases h : GR g
  · have h5 := h.b.n5
    rcases kind_cases s with k | k | k
    · exact ⟨g.length, by rw [pcF_yes h k, pcL_len], by omega⟩
    · exact ⟨g.length, by rw [pcF_yes h k, pcL_len], by omega⟩
    · exact ⟨0, by rw [pcF_none k]; rfl, by omega⟩
  · exact ⟨0, by rw [pcF_no h]; rfl, by omega⟩
theorem sm_range (f : Nat → Int) (n : Nat) : ∀ k, k ≤ n → sm ((List.range n).map f) k = sU f k
  | 0, _ => rfl
  | k + 1, h => by rw [sm, sU, sm_range f n k (by omega), gi_range (by omega)]
theorem tot_range (f : Nat → Int) (n : Nat) : tot ((List.range n).map f) = sU f n := by
  unfold tot; rw [List.length_map, List.length_range]; exact sm_range f n n (Nat.le_refl _)

end Go.Proofs.Ytolnbkplgnpfjaa

/- Draws of a graph and a kind; sums and products of chances. -/
namespace Go.Proofs.Ytolnbkplgnpfjaa
open Go.RowKit

/-- A list of texts, laid in a block of its own. -/
structure Txts (W : World) (b n : Nat) : Prop where
  at_ : ∀ k, k < n → ∃ s : ByteArray, W.cell? ⟨b, k, none⟩ = some (.string s)
def OfOut (w0 : World) (g : Nat) (A : Option Addr) (l c p : Nat) (w : World) (e : Ending) (w' : World) : Prop := ∃ s : ByteArray, e = .returned (.string s) ∧ Rdr w0 w' g A l c (p + 1) ∧ One g w w'
set_option maxHeartbeats 400000 in
theorem of_any (w0 w : World) (g : Nat) (A : Option Addr) (l c p b n : Nat) (h : Rdr w0 w g A l c p) (hp : p < 1000000000) (hx : Txts w b n) (h0 : 0 < n) (hn : n ≤ 100) (hne : b ≠ g) :
    Calls Try.prog 89 #[.pointer (some ⟨g, 0, none⟩), .slice (some ⟨b, 0, none⟩) n n] w (OfOut w0 g A l c p w) := by
  have HX := Lib.hid hx
  have HC := Lib.hid (pick_any w0 w g A l c p n h hp)
  clear h hx
  go_enter Try.func89, Try.ntmps89
  go_wp2_with fail
  refine HC.out.mono ?_
  rintro e w1 ⟨m, rfl, hm1, _, hr, q, hw⟩
  have H1 := Lib.hid hr
  have hone := Rdr.one (g := g) w (.int .i64 (p + 1 : Nat)) q
  rw [← hw] at hone
  have HO := Lib.hid hone
  obtain ⟨m0, m1⟩ := hm1 (by omega)
  obtain ⟨k, rfl⟩ := Int.eq_ofNat_of_zero_le m0
  have hk : k < n := by omega
  obtain ⟨s, ck⟩ := HX.out.at_ k hk
  rw [← World.cell?_of_block (w := w) (w' := w1) (hone.block b hne)] at ck
  clear hr hone hm1 hw HC HX
  go_wp2
  go_ret
  exact ⟨_, rfl, H1.out, HO.out⟩
def DrawnGK (w : World) (e : Ending) (w' : World) : Prop := ∃ Av n cv ys s, e = .returned (.tuple #[.slice Av n cv, .string s]) ∧ n ≤ 5 ∧ B32 ys ∧ Ints w' Av n cv ys ∧ Below w.heap.size w w'
theorem DG.ints {w0 w g A l c p v ys W W'} (h : DG w0 w g A l c p v ys W) (ho : One g W W') : ∃ Av cv, v = .slice Av ys.length cv ∧ Ints W' Av ys.length cv ys := by
  obtain ⟨Av, cv, b, rfl, hw⟩ := h.ow
  have hg := h.gl
  exact ⟨Av, cv, rfl, (hw.of_block fun hn => ho.block _ (by obtain ⟨_, _, a, _, _⟩ := hw.own hn; omega)).ints⟩
set_option maxRecDepth 100000 in
set_option maxHeartbeats 800000 in
theorem DrawPlaceChances_any (A : Option Addr) (n c : Nat) (w : World) (h : Bytes w A n c) : Calls Try.prog 35 #[.slice A n c] w (DrawnGK w) := by
  have H0 := Lib.hid (newReader_any A n c w h)
  clear h
  go_enter Try.func35, Try.ntmps35
  go_wp2_with fail
  refine H0.out.mono ?_
  rintro e w1 ⟨A1, l, c1, rfl, hl, hr, hs⟩
  have H1 := Lib.hid (someGraph_any w w1 w.heap.size A1 l c1 0 hr (by omega))
  have HS := Lib.hid hs
  clear hr hl H0 hs
  go_wp2_with fail
  refine H1.out.mono ?_
  rintro e w2 ⟨v, ys, p', rfl, hy5, hb32, hd, hp⟩
  have HD := Lib.hid hd
  have HB32 := Lib.hid hb32
  have hgw := blk_lt hd.rd.box
  have HT := Lib.hid (show Txts (w2.alloc (.cells #[.string ⟨#[98, 105, 114, 116, 104]⟩, .string ⟨#[100, 101, 97, 116, 104]⟩, .string ⟨#[98, 105, 114, 116, 104]⟩, .string ⟨#[100, 101, 97, 116, 104]⟩, .string ⟨#[]⟩] 9)) w2.heap.size 5 from ⟨fun k hk => by
    match k, hk with
    | 0, _ => exact ⟨_, blk_cell (blk_new w2 _ _) rfl⟩
    | 1, _ => exact ⟨_, blk_cell (blk_new w2 _ _) rfl⟩
    | 2, _ => exact ⟨_, blk_cell (blk_new w2 _ _) rfl⟩
    | 3, _ => exact ⟨_, blk_cell (blk_new w2 _ _) rfl⟩
    | 4, _ => exact ⟨_, blk_cell (blk_new w2 _ _) rfl⟩⟩)
  have HRA := Lib.hid (hd.rd.below_ (below_alloc w2 (.cells #[.string ⟨#[98, 105, 114, 116, 104]⟩, .string ⟨#[100, 101, 97, 116, 104]⟩, .string ⟨#[98, 105, 114, 116, 104]⟩, .string ⟨#[100, 101, 97, 116, 104]⟩, .string ⟨#[]⟩] 9)))
  have HAL := Lib.hid (below_alloc w2 (.cells #[.string ⟨#[98, 105, 114, 116, 104]⟩, .string ⟨#[100, 101, 97, 116, 104]⟩, .string ⟨#[98, 105, 114, 116, 104]⟩, .string ⟨#[100, 101, 97, 116, 104]⟩, .string ⟨#[]⟩] 9))
  have HC := Lib.hid (of_any w _ w.heap.size A1 l c1 p' w2.heap.size 5 HRA.out (by omega) HT.out (by omega) (by omega) (by omega))
  have HDA := Lib.hid (show DG w w1 w.heap.size A1 l c1 p' v ys (w2.alloc (.cells #[.string ⟨#[98, 105, 114, 116, 104]⟩, .string ⟨#[100, 101, 97, 116, 104]⟩, .string ⟨#[98, 105, 114, 116, 104]⟩, .string ⟨#[100, 101, 97, 116, 104]⟩, .string ⟨#[]⟩] 9)) from ⟨HRA.out, by
    obtain ⟨Av, cv, b, e, ho⟩ := hd.ow
    exact ⟨Av, cv, b, e, (ho.below HAL.out).mono (Nat.le_refl _) HAL.out.size⟩, hd.gl, grown_below hd.up HAL.out⟩)
  obtain ⟨Av, cv, b, rfl, ho⟩ := hd.ow
  clear hb32 hd hp ho H1 HT HRA HAL hgw
  go_wp2_with fail
  refine HC.out.mono ?_
  rintro e w3 ⟨s, rfl, hr, ho⟩
  have HOUT := Lib.hid (show DrawnGK w (.returned (.tuple #[.slice Av ys.length cv, .string s])) w3 from by
    obtain ⟨Av2, cv2, e2, hi⟩ := HDA.out.ints ho
    injection e2 with e3 e4 e5
    subst e3
    subst e5
    exact ⟨_, _, _, ys, s, rfl, hy5, HB32.out, hi, hr.below⟩)
  clear HC HDA hr ho
  go_wp2
  refine bodyPost_ret (v := .tuple #[.slice Av ys.length cv, .string s]) (by simp [results, Try.results35, go_sem]) rfl ?_
  exact HOUT.out

end Go.Proofs.Ytolnbkplgnpfjaa

