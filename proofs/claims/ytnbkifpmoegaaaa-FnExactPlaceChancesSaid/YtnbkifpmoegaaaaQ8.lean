/- Texts merged: N4 N1 N2 N5 N3 N6. -/
import Derived.Test.YtnbkifpmoegaaaaQ7
import Derived.LaidEqlPtr
/- Places: whether all are one another's neighbours, by the program. -/
namespace Go.Proofs.Ytnbkifpmoegaaaa
open Go.RowKit

/-- A list of pointers to places. -/
structure Ptrs (W : World) (B : Nat) (A : Option Addr) (l : List Nat) : Prop where
  at_ : 0 < l.length → ∃ b, A = some ⟨b, 0, none⟩ ∧ ∀ j, j < l.length → W.cell? ⟨b, j, none⟩ = some (.pointer (some ⟨B + 1 + l.getD j 0, 0, none⟩))
theorem ptrs_of {W : World} {B base : Nat} {v : Value} {l : List Nat} (h : W.ownsRow base 63 1 v l.length (l.map (pv B))) : ∃ A c, v = .slice A l.length c ∧ Ptrs W B A l := by
  rcases h.2 with ⟨rfl, h0⟩ | ⟨g, cap, cur, rfl, hb, hg, hnc, _, hcs, htake⟩
  · exact ⟨none, 0, by rw [h0], ⟨fun h => absurd h (by omega)⟩⟩
  · refine ⟨_, cap, rfl, ⟨fun _ => ⟨g, rfl, fun j hj => ?_⟩⟩⟩
    have e : (l.map (pv B))[j]? = some (pv B (l.getD j 0)) := by
      rw [List.getElem?_map, List.getElem?_eq_getElem hj]
      simp [List.getD, List.getElem?_eq_getElem hj]
    rw [← htake, List.getElem?_take, if_pos (by omega)] at e
    have : W.cell? ⟨g, j, none⟩ = some (pv B (l.getD j 0)) := by simp [World.cell?, hg]; simpa using e
    exact this
theorem Ptrs.keep {W W' : World} {B A l} (h : Ptrs W B A l) (k : Keep W W') : Ptrs W' B A l := ⟨fun hl => let ⟨b, e, hc⟩ := h.at_ hl; ⟨b, e, fun j hj => k _ _ (hc j hj)⟩⟩
theorem PLr.near {B n L s c R W} (h : PLr B n L s c R W) {v : Nat} (hv : v < n) : ∃ A k, R v = .slice A (L v).length k ∧ Ptrs W B A (L v) := ptrs_of (h.own v hv)
theorem PLr.quiet {B n L s c R W W'} (h : PLr B n L s c R W) (k : Quiet W W') : PLr B n L s c R W' := h.next k.below
theorem Try.info_pl : (Try.prog.info? 65).map (fun i => i.size) = some 3 := by kernel_rfl
theorem eqp_same (W : World) (a : Addr) : (binOp .eql 63 (.pointer (some a)) (.pointer (some a))).run Try.prog W = .ok (.bool true) W := by
  obtain ⟨j, hj, _⟩ := Option.map_eq_some_iff.1 Try.info_pl
  exact run_eql_ptr_same W a Try.underlying63 hj
theorem PLr.eqp {B n L s c R W} (h : PLr B n L s c R W) {u v : Nat} (hu : u < n) (hv : v < n) (hne : u ≠ v) :
    (binOp .eql 63 (.pointer (some ⟨B + 1 + u, 0, none⟩)) (.pointer (some ⟨B + 1 + v, 0, none⟩))).run Try.prog W = .ok (.bool false) W := by
  obtain ⟨j, hj, hz⟩ := Option.map_eq_some_iff.1 Try.info_pl
  exact run_eql_ptr_other W Try.underlying63 hj (by omega) (fun e => by injection e; omega) (h.bl u hu) (h.bl v hv)
theorem getD_mem {l : List Nat} {j : Nat} (h : j < l.length) : l.getD j 0 ∈ l := by simp [List.getD, List.getElem?_eq_getElem h]
set_option maxRecDepth 100000 in
set_option maxHeartbeats 800000 in
theorem indexP_any (B : Nat) (A : Option Addr) (n k : Nat) (l : List Nat) (v : Nat) (w : World) (hp : Ptrs w B A l) (hn : l.length = n) (h5 : n ≤ 100) {N : Nat} {L : Nat → List Nat} {s c : Nat → Int} {R : Nat → Value} (hP : PLr B N L s c R w) (hl : ∀ u, u ∈ l → u < N) (hv : v < N) :
    Calls Try.prog 89 #[.slice A n k, .pointer (some ⟨B + 1 + v, 0, none⟩)] w fun e w' => ∃ r : Int, e = .returned (.int .i64 r) ∧ (0 ≤ r ↔ v ∈ l) ∧ -1 ≤ r ∧ r ≤ 100 ∧ Quiet w w' := by
  have HP := Lib.hid hp
  have HN := Lib.hid hn
  have HQ := Lib.hid hP
  have HLN := Lib.hid hl
  have HSM := Lib.hid (fun W => eqp_same W ⟨B + 1 + v, 0, none⟩)
  clear hp hn hP hl
  go_enter Try.func89, Try.ntmps89
  go_wp2
  go_loopw [8] (fun i wr => ∃ j : Nat, j ≤ n ∧ i = .int .i64 j ∧ Hid (∀ i, i < j → l.getD i 0 ≠ v) ∧ Quiet w wr) (fun i _ => n - (intOf i).toNat)
  case atStart => exact ⟨0, Nat.zero_le _, rfl, Lib.hid (fun _ h => absurd h (by omega)), Quiet.refl _⟩
  case round =>
    obtain ⟨j, hj, rfl, HJ, q, rfl⟩ := hrel
    by_cases hlt : j < n
    · obtain ⟨b, rfl, hc⟩ := HP.out.at_ (by rw [HN.out]; omega)
      have c1 := hc j (by rw [HN.out]; omega)
      have HM := Lib.hid (getD_mem (l := l) (j := j) (by rw [HN.out]; omega))
      clear hc
      generalize hu : l.getD j 0 = u at *
      have HU := Lib.hid hu
      clear hu
      by_cases he : u = v
      · have HV : Hid (v ∈ l) := Lib.hid (he ▸ HM.out)
        subst he
        have hes := HSM.out
        go_wp2
        go_ret
        exact ⟨_, rfl, ⟨fun _ => HV.out, fun _ => by omega⟩, by omega, by omega, ⟨_, rfl⟩⟩
      · have HE := Lib.hid he
        have hes := fun m => (HQ.out.quiet (W' := w.drewN m) ⟨m, rfl⟩).eqp hv (HLN.out u HM.out) (fun e => HE.out e.symm)
        go_wp2
        go_roundw
        case rel => exact ⟨j + 1, by omega, by go_num, Lib.hid (fun i hi => by
          by_cases hij : i < j
          · exact HJ.out i hij
          · obtain rfl : i = j := by omega
            rw [HU.out]; exact HE.out), ⟨_, rfl⟩⟩
        case measure => simp [intOf]; omega
    · obtain rfl : j = n := by omega
      go_wp2
      go_ret
      exact ⟨-1, rfl, ⟨fun h => absurd h (by omega), fun h => by
        obtain ⟨i, hi, e⟩ := List.mem_iff_getElem.1 h
        exact absurd (show l.getD i 0 = v by simp [List.getD, List.getElem?_eq_getElem hi, e]) (HJ.out i (by rw [← HN.out]; exact hi))⟩, by omega, by omega, ⟨_, rfl⟩⟩
theorem containsP_any (B : Nat) (A : Option Addr) (n k : Nat) (l : List Nat) (v : Nat) (w : World) (hp : Ptrs w B A l) (hn : l.length = n) (h5 : n ≤ 100) {N : Nat} {L : Nat → List Nat} {s c : Nat → Int} {R : Nat → Value} (hP : PLr B N L s c R w) (hl : ∀ u, u ∈ l → u < N) (hv : v < N) :
    Calls Try.prog 75 #[.slice A n k, .pointer (some ⟨B + 1 + v, 0, none⟩)] w fun e w' => e = .returned (.bool (decide (v ∈ l))) ∧ Quiet w w' := by
  have HC := Lib.hid (indexP_any B A n k l v w hp hn h5 hP hl hv)
  clear hp hn hP hl
  go_enter Try.func75, Try.ntmps75
  go_wp2_with fail
  refine HC.out.mono ?_
  rintro e w1 ⟨r, rfl, hr, h1, h2, hq⟩
  have HR : Hid (decide (v ∈ l) = decide (0 ≤ r)) := Lib.hid (by simp [hr])
  clear hr
  go_wp2
  go_ret
  exact ⟨ret_bool (by rw [HR.out]), hq⟩
def MutP (L : Nat → List Nat) (n : Nat) : Prop := ∀ v, v < n → ∀ u, u ∈ L v → u ≠ v ∧ v ∈ L u
theorem Mut_no {L : Nat → List Nat} {n v u : Nat} (hv : v < n) (hu : u ∈ L v) (h : ¬ (u ≠ v ∧ v ∈ L u)) : pb (MutP L n) = false := pb_false fun k => h (k v hv u hu)
set_option maxRecDepth 100000 in
set_option maxHeartbeats 1600000 in
theorem areMutual_any (B n : Nat) (L : Nat → List Nat) (s c : Nat → Int) (R : Nat → Value) (w : World) (h : PLr B n L s c R w) (h5 : n ≤ 5) (hL : ∀ v, v < n → (L v).length ≤ 5 ∧ ∀ u, u ∈ L v → u < n) :
    Calls Try.prog 47 #[.slice (some ⟨B, 0, none⟩) n n] w fun e w' => e = .returned (.bool (pb (MutP L n))) ∧ Quiet w w' := by
  have HP := Lib.hid h
  have HL := Lib.hid hL
  clear h hL
  go_enter Try.func47, Try.ntmps47
  go_wp2
  go_loopw [9] (fun i wr => ∃ v : Nat, v ≤ n ∧ i = .int .i64 v ∧ Hid (∀ x, x < v → ∀ u, u ∈ L x → u ≠ x ∧ x ∈ L u) ∧ Quiet w wr) (fun i _ => n - (intOf i).toNat)
  case atStart => exact ⟨0, Nat.zero_le _, rfl, Lib.hid (fun _ h => absurd h (by omega)), Quiet.refl _⟩
  case round =>
    obtain ⟨v, hv, rfl, HJ, q, rfl⟩ := hrel
    by_cases hlt : v < n
    · have c1 : w.cell? ⟨B, v, none⟩ = some (.pointer (some ⟨B + 1 + v, 0, none⟩)) := HP.out.row.cell hlt
      obtain ⟨A, k, hR, hN⟩ := HP.out.near hlt
      have HN := Lib.hid hN
      have c2 := blk_cell (HP.out.bl v hlt) (i := 0) rfl
      rw [hR] at c2
      obtain ⟨hl5, hlu⟩ := HL.out v hlt
      have HU := Lib.hid hlu
      clear hR hN hlu
      generalize hm : (L v).length = m at *
      have HM := Lib.hid hm
      clear hm
      go_wp2
      go_loopw [18] (fun i wi => ∃ j : Nat, j ≤ m ∧ i = .int .i64 j ∧ Hid (∀ x, x < j → (L v).getD x 0 ≠ v ∧ v ∈ L ((L v).getD x 0)) ∧ Quiet w wi) (fun i _ => m - (intOf i).toNat)
      case atStart => exact ⟨0, Nat.zero_le _, rfl, Lib.hid (fun _ h => absurd h (by omega)), ⟨_, rfl⟩⟩
      case round =>
        clear c1 c2
        obtain ⟨j, hj, rfl, HI, q2, rfl⟩ := hrel
        by_cases hjm : j < m
        · obtain ⟨b, rfl, hc⟩ := HN.out.at_ (by rw [HM.out]; omega)
          have c3 := hc j (by rw [HM.out]; omega)
          have HUM := Lib.hid (getD_mem (l := L v) (j := j) (by rw [HM.out]; omega))
          have hun := HU.out _ HUM.out
          clear hc
          have HUE : ∃ u, u = (L v).getD j 0 := ⟨_, rfl⟩
          obtain ⟨u, hu⟩ := HUE
          rw [← hu] at c3 HUM hun
          have HUE := Lib.hid hu
          clear hu
          obtain ⟨A2, k2, hR2, hN2⟩ := HP.out.near hun
          have c4 := blk_cell (HP.out.bl u hun) (i := 0) rfl
          rw [hR2] at c4
          obtain ⟨hl52, _⟩ := HL.out u hun
          by_cases he : u = v
          · have HE := Lib.hid (Mut_no hlt HUM.out (fun h => h.1 he))
            subst he
            clear hR2 hN2
            have hes := fun W => eqp_same W ⟨B + 1 + u, 0, none⟩
            go_wp2
            go_ret
            exact ⟨ret_bool HE.out.symm, ⟨_, rfl⟩⟩
          · have hes := (HP.out.quiet (W' := w.drewN q2) ⟨q2, rfl⟩).eqp hun hlt he
            have HEQ := Lib.hid he
            by_cases hvu : v ∈ L u
            · have HC := Lib.hid ((show decide (v ∈ L u) = true from decide_eq_true hvu) ▸ containsP_any B A2 (L u).length k2 (L u) v (w.drewN q2) (hN2.keep (Keep.drewN _ _)) rfl (by omega) (HP.out.quiet ⟨_, rfl⟩) (HL.out u hun).2 hlt)
              have HV := Lib.hid hvu
              clear hR2 hN2 hvu he
              go_wp2_with fail
              refine HC.out.mono ?_
              rintro e w1 ⟨rfl, q3, rfl⟩
              clear HC
              go_wp2
              go_roundw
              case rel => exact ⟨j + 1, by omega, by go_num, Lib.hid (fun x hx => by
                by_cases hxj : x < j
                · exact HI.out x hxj
                · obtain rfl : x = j := by omega
                  rw [← HUE.out]; exact ⟨HEQ.out, HV.out⟩), ⟨_, rfl⟩⟩
              case measure => simp [intOf]; omega
            · have HC := Lib.hid ((show decide (v ∈ L u) = false from decide_eq_false hvu) ▸ containsP_any B A2 (L u).length k2 (L u) v (w.drewN q2) (hN2.keep (Keep.drewN _ _)) rfl (by omega) (HP.out.quiet ⟨_, rfl⟩) (HL.out u hun).2 hlt)
              have HE := Lib.hid (Mut_no hlt HUM.out (fun h => hvu h.2))
              clear hR2 hN2 hvu he
              go_wp2_with fail
              refine HC.out.mono ?_
              rintro e w1 ⟨rfl, q3, rfl⟩
              clear HC
              go_wp2
              go_ret
              exact ⟨ret_bool HE.out.symm, ⟨_, rfl⟩⟩
        · obtain rfl : j = m := by omega
          go_wp2
          go_roundw
          case rel => exact ⟨v + 1, by omega, by go_num, Lib.hid (fun x hx u hu => by
            by_cases hxv : x < v
            · exact HJ.out x hxv u hu
            · obtain rfl : x = v := by omega
              obtain ⟨i, hi, e⟩ := List.mem_iff_getElem.1 hu
              have e2 : (L x).getD i 0 = u := by simp [List.getD, List.getElem?_eq_getElem hi, e]
              have := HI.out i (by rw [← HM.out]; exact hi)
              rwa [e2] at this), ⟨_, rfl⟩⟩
          case measure => simp [intOf]; omega
    · obtain rfl : v = n := by omega
      have HE := Lib.hid (pb_true (p := MutP L v) (fun x hx => HJ.out x hx))
      go_wp2
      go_ret
      exact ⟨ret_bool HE.out.symm, ⟨_, rfl⟩⟩
end Go.Proofs.Ytnbkifpmoegaaaa

/- Graphs, by the model: powers, bits, what is reached, valid graphs. -/
namespace Go.Proofs.Ytnbkifpmoegaaaa
open Go.RowKit

def pwF : Nat → Int
  | 0 => 1
  | n + 1 => wrap64 (2 * pwF n)
theorem pw_bd : ∀ n, -9223372036854775808 ≤ pwF n ∧ pwF n ≤ 9223372036854775807
  | 0 => by decide
  | n + 1 => by unfold pwF; unfold wrap64; omega
theorem pw5 : ∀ n, n < 6 → pwF n = 2 ^ n := by decide +kernel
set_option maxHeartbeats 400000 in
theorem power_any (n : Nat) (w : World) (hn : n ≤ 17592186044416) : Calls Try.prog 73 #[.int .i64 n] w fun e w' => e = .returned (.int .i64 (pwF n)) ∧ w = w' := by
  go_enter Try.func73, Try.ntmps73
  go_wp2
  go_loop [0, 3] (fun t s => ∃ i k : Nat, i + k = n ∧ t = .int .i64 k ∧ s = .int .i64 (pwF i)) (fun t _ => (intOf t).toNat)
  case atStart => exact ⟨0, n, by omega, rfl, rfl⟩
  case round =>
    obtain ⟨i, k, hik, rfl, rfl⟩ := hrel
    have HS : Hid (pwF (i + 1) = wrap64 (2 * pwF i)) := Lib.hid rfl
    have HI := Lib.hid hik
    have hk1 : k ≤ 17592186044416 := by omega
    clear hik
    by_cases hk : 0 < k
    · have hk' : (0 : Int) < (k : Int) := by omega
      generalize pwF i = v at *
      go_wp2
      go_round
      case rel => exact ⟨i + 1, k - 1, by have := HI.out; omega, by go_num, by rw [HS.out]⟩
      case measure => simp [intOf]; omega
    · obtain rfl : k = 0 := by omega
      go_wp2
      go_ret
      exact ⟨ret_int (congrArg pwF (by have h1 := HI.out; omega)), rfl⟩
set_option maxHeartbeats 400000 in
theorem bitB_any (x j : Nat) (w : World) (hx : x ≤ 9223372036854775807) (hj : j ≤ 17592186044416) : Calls Try.prog 77 #[.int .i64 x, .int .i64 j] w fun e w' => e = .returned (.int .i64 ((x / 2 ^ j % 2 : Nat) : Int)) ∧ w = w' := by
  go_enter Try.func77, Try.ntmps77
  go_wp2
  go_loop [0, 1] (fun s t => ∃ i k : Nat, i + k = j ∧ t = .int .i64 k ∧ s = .int .i64 ((x / 2 ^ i : Nat) : Int)) (fun _ t => (intOf t).toNat)
  case atStart => exact ⟨0, j, by omega, rfl, by simp⟩
  case round =>
    obtain ⟨i, k, hik, rfl, rfl⟩ := hrel
    have hb : x / 2 ^ i ≤ 9223372036854775807 := Nat.le_trans (Nat.div_le_self _ _) hx
    have HS := Lib.hid (div_pow_succ x i)
    have hk1 : k ≤ 17592186044416 := by omega
    have HI := Lib.hid hik
    generalize hy : x / 2 ^ i = y at *
    have HY := Lib.hid hy
    clear hy hik
    by_cases hk : 0 < k
    · have hk' : (0 : Int) < (k : Int) := by omega
      go_wp2
      go_round
      case rel => exact ⟨i + 1, k - 1, by have := HI.out; omega, by go_num, by rw [HS.out]; go_num⟩
      case measure => simp [intOf]; omega
    · obtain rfl : k = 0 := by omega
      go_wp2
      go_ret
      exact ⟨ret_int (by
        have h1 := HI.out
        have h2 := HY.out
        obtain rfl : j = i := by omega
        have h3 : ((x / 2 ^ j % 2 : Nat) : Int) = ((y : Nat) : Int) % 2 := by rw [h2]; omega
        first | exact h3.symm | (rw [← h3]; simp)), rfl⟩
/-- A number of the list, and one of its bits. -/
theorem bit_of {g : List Int} {v u : Nat} (h0 : 0 ≤ gi g v) (h1 : gi g v ≤ 9223372036854775807) (hu : u ≤ 17592186044416) (w : World) :
    Calls Try.prog 77 #[.int .i64 (gi g v), .int .i64 u] w fun e w' => e = .returned (.int .i64 (bt g v u : Nat)) ∧ w = w' := by
  have h := bitB_any (gi g v).toNat u w (by omega) hu
  rw [Int.toNat_of_nonneg h0] at h
  exact h

theorem nd_any : ∀ a, a < 32 → ∀ b, b < 32 → bits BinOp.andNot IntKind.i64 ((a : Nat) : Int) ((b : Nat) : Int) = ((ndAnd a b : Nat) : Int) := by decide +kernel
theorem or_any : ∀ a, a < 32 → ∀ b, b < 32 → bits BinOp.or IntKind.i64 ((a : Nat) : Int) ((b : Nat) : Int) = ((a ||| b : Nat) : Int) := by decide +kernel
theorem lk_facts {g : List Int} (h : GB g) : (∀ k, k < 7 → lkI g k < 32 ∧ (∀ v, v < 6 → lkR g (lkI g k) v < 32) ∧ (agF g k = false → lkI g k = lnk g)) ∧ agF g 6 = false ∧
    ∀ k, k < 6 → (agF g (k + 1) = true → lkI g k < lkI g (k + 1)) ∧ (agF g (k + 1) = false → lkI g k = lkI g (k + 1)) := by
  have t := List.all_eq_true.1 lk_table g (mem_graphs h)
  simp only [Bool.and_eq_true, lkOk, List.all_eq_true, List.mem_range, decide_eq_true_eq, Bool.or_eq_true, beq_iff_eq, Bool.not_eq_true'] at t
  refine ⟨fun k hk => ⟨(t.1.1.1 k hk).1.1, (t.1.1.1 k hk).1.2, fun ha => ?_⟩, t.1.2, fun k hk => ?_⟩
  · rcases (t.1.1.1 k hk).2 with h | h
    · rw [h] at ha; cases ha
    · exact h
  · have q := t.1.1.2 k hk
    cases e : agF g (k + 1) <;> rw [e] at q <;> simp at q <;> simp [q]
theorem GB.nat {g : List Int} (h : GB g) {v : Nat} (hv : v < g.length) : gi g v = ((gi g v).toNat : Int) ∧ (gi g v).toNat < 32 := by
  have h1 := h.inn v hv
  unfold InR at h1
  have h5 := h.n5
  have h6 : ((2 ^ g.length : Nat) : Int) = (2 : Int) ^ g.length := by simp
  have h7 : 2 ^ g.length ≤ 2 ^ 5 := Nat.pow_le_pow_right (by omega) h5
  omega
set_option maxRecDepth 100000 in
set_option maxHeartbeats 1000000 in
theorem linked_any (A : Option Addr) (n c : Nat) (g : List Int) (w : World) (hx : Ints w A n c g) (h : GB g) :
    Calls Try.prog 78 #[.slice A n c] w fun e w' => e = .returned (.int .i64 (lnk g : Nat)) ∧ Quiet w w' := by
  have HX := Lib.hid hx
  have hl := hx.len
  have hn5 : n ≤ 5 := by rw [← hl]; exact h.n5
  have HL := Lib.hid hl
  obtain ⟨HF, H6, HS⟩ := lk_facts h
  have HF := Lib.hid HF
  have H6 := Lib.hid H6
  have HS := Lib.hid HS
  have HG := Lib.hid (fun v (hv : v < n) => h.nat (v := v) (by rw [hl]; exact hv))
  have HI0 : Hid (lkI g 0 = 1) := Lib.hid rfl
  have HA0 : Hid (agF g 0 = true) := Lib.hid rfl
  clear hx h hl
  go_enter Try.func78, Try.ntmps78
  go_wp2
  go_loopw [3, 4] (fun o a wr => ∃ k : Nat, k ≤ 6 ∧ o = .int .i64 (lkI g k : Nat) ∧ a = .bool (agF g k) ∧ Quiet w wr) (fun o a _ => 2 * (32 - (intOf o).toNat) + (match a with | .bool true => 1 | _ => 0))
  case atStart => exact ⟨0, by omega, by rw [HI0.out]; rfl, by rw [HA0.out], Quiet.refl _⟩
  case round =>
    clear HI0 HA0
    obtain ⟨k, hk, rfl, rfl, q, rfl⟩ := hrel
    by_cases ha : agF g k = true
    · have hk6 : k < 6 := by
        rcases Nat.lt_or_ge k 6 with h | h
        · exact h
        · obtain rfl : k = 6 := by omega
          rw [H6.out] at ha; cases ha
      have HS1 := Lib.hid (HS.out k hk6)
      have HF1 := Lib.hid (HF.out k (by omega))
      have hb0 := (HF.out k (by omega)).1
      have HN1 : Hid (lkI g (k + 1) = lkR g (lkI g k) n ∧ agF g (k + 1) = lkA g (lkI g k) n) := Lib.hid (by rw [← HL.out]; exact ⟨rfl, rfl⟩)
      rw [ha]
      have HR0 : Hid (lkR g (lkI g k) 0 = lkI g k) := Lib.hid rfl
      have HA0 : Hid (lkA g (lkI g k) 0 = false) := Lib.hid rfl
      clear ha HF
      generalize lkI g k = o at *
      go_wp2
      go_loopw [3, 4, 5] (fun x a i wi => ∃ v : Nat, v ≤ n ∧ i = .int .i64 v ∧ x = .int .i64 (lkR g o v : Nat) ∧ a = .bool (lkA g o v) ∧ Quiet w wi) (fun _ _ i _ => n - (intOf i).toNat)
      case atStart => exact ⟨0, Nat.zero_le _, rfl, by rw [HR0.out], by rw [HA0.out], ⟨_, rfl⟩⟩
      case round =>
        clear HR0 HA0
        obtain ⟨v, hv, rfl, rfl, rfl, q2, rfl⟩ := hrel
        by_cases hlt : v < n
        · obtain ⟨b, oo, rfl, hc⟩ := HX.out.at_ (by omega)
          have c1 := hc v hlt
          obtain ⟨hg1, hg2⟩ := HG.out v hlt
          have hr := HF1.out.2.1 v (by omega)
          have HB := Lib.hid (fun W => bit_any (lkR g o v) v W (by omega) (by omega))
          have HND := Lib.hid (nd_any _ hg2 _ hr)
          have HOR := Lib.hid (or_any _ hr _ hg2)
          have HR1 : Hid (lkR g o (v + 1) = if lkR g o v / 2 ^ v % 2 = 1 ∧ ndAnd (gi g v).toNat (lkR g o v) ≠ 0 then lkR g o v ||| (gi g v).toNat else lkR g o v) := Lib.hid rfl
          have HA1 : Hid (lkA g o (v + 1) = if lkR g o v / 2 ^ v % 2 = 1 ∧ ndAnd (gi g v).toNat (lkR g o v) ≠ 0 then true else lkA g o v) := Lib.hid rfl
          rw [hg1] at c1
          clear hc hg1
          generalize lkR g o v = x at *
          generalize (gi g v).toNat = y at *
          generalize lkA g o v = a at *
          by_cases h1 : x / 2 ^ v % 2 = 1
          · rw [h1] at HB
            by_cases h2 : ndAnd y x = 0
            · have hd : (bits BinOp.andNot IntKind.i64 ((y : Nat) : Int) ((x : Nat) : Int) != 0) = false := by rw [HND.out, h2]; rfl
              rw [if_neg (by rintro ⟨_, h⟩; exact h h2)] at HR1 HA1
              clear HND HOR h1 h2
              go_wp2_with (go_at_call 77; refine (HB.out _).mono ?_; rintro e w' ⟨rfl, rfl⟩)
              go_roundw
              case rel => exact ⟨v + 1, by omega, by go_num, by rw [HR1.out], by rw [HA1.out], ⟨_, rfl⟩⟩
              case measure => simp [intOf]; omega
            · have hd : (bits BinOp.andNot IntKind.i64 ((y : Nat) : Int) ((x : Nat) : Int) != 0) = true := by rw [HND.out]; simp; omega
              rw [if_pos ⟨h1, h2⟩] at HR1 HA1
              clear HND h1 h2
              go_wp2_with (go_at_call 77; refine (HB.out _).mono ?_; rintro e w' ⟨rfl, rfl⟩)
              go_roundw
              case rel => exact ⟨v + 1, by omega, by go_num, by rw [HR1.out, HOR.out], by rw [HA1.out], ⟨_, rfl⟩⟩
              case measure => simp [intOf]; omega
          · have h0 : x / 2 ^ v % 2 = 0 := by omega
            rw [h0] at HB
            rw [if_neg (by rintro ⟨h, _⟩; exact h1 h)] at HR1 HA1
            clear HND HOR h1 h0
            go_wp2_with (go_at_call 77; refine (HB.out _).mono ?_; rintro e w' ⟨rfl, rfl⟩)
            go_roundw
            case rel => exact ⟨v + 1, by omega, by go_num, by rw [HR1.out], by rw [HA1.out], ⟨_, rfl⟩⟩
            case measure => simp [intOf]; omega
        · obtain rfl : v = n := by omega
          rw [← HN1.out.1, ← HN1.out.2]
          have HM := Lib.hid (show 2 * (32 - lkI g (k + 1)) + (match (Value.bool (agF g (k + 1))) with | .bool true => 1 | _ => 0) < 2 * (32 - o) + 1 by
            have h1 := HS1.out.1
            have h2 := HS1.out.2
            cases e : agF g (k + 1)
            · rw [← h2 e]; simp
            · have := h1 e; simp only; omega)
          go_wp2
          go_roundw
          case rel => exact ⟨k + 1, by omega, rfl, rfl, ⟨_, rfl⟩⟩
          case measure => have := HM.out; simpa [intOf] using this
    · have ha' : agF g k = false := by simpa using ha
      rw [ha']
      have HE := Lib.hid ((HF.out k (by omega)).2.2 ha')
      rw [HE.out]
      clear ha ha'
      go_wp2
      go_ret
      exact ⟨rfl, ⟨_, rfl⟩⟩
end Go.Proofs.Ytnbkifpmoegaaaa

/- Valid graphs, by the model. -/
namespace Go.Proofs.Ytnbkifpmoegaaaa
open Go.RowKit

def RowG (g : List Int) (v : Nat) : Prop := InR (gi g v) 0 (2 ^ g.length - 1) ∧ bt g v v = 0 ∧ ∀ u, u < v → bt g v u = bt g u v
theorem GR.row {g : List Int} (h : GR g) {v : Nat} (hv : v < g.length) : RowG g v := ⟨h.b.inn v hv, h.b.sym v hv⟩
theorem GR_no {g : List Int} {v : Nat} (hv : v < g.length) (h : ¬ RowG g v) : pb (GR g) = false := pb_false fun k => h (k.row hv)
theorem GB.of {g : List Int} (h : ∀ v, v < g.length → RowG g v) (h2 : 2 ≤ g.length) (h5 : g.length ≤ 5) : GB g := ⟨fun v hv => (h v hv).1, fun v hv => (h v hv).2, h2, h5⟩
/-- The bound that the model asks. -/
def pwB (n : Nat) : Int := wrap64 (pwF n - 1)
theorem pwB5 : ∀ n, n < 6 → pwB n = 2 ^ n - 1 := by decide +kernel
set_option maxRecDepth 100000 in
set_option maxHeartbeats 1600000 in
theorem validGraph_any (A : Option Addr) (n c : Nat) (g : List Int) (w : World) (hx : Ints w A n c g) :
    Calls Try.prog 49 #[.slice A n c] w fun e w' => e = .returned (.bool (pb (GR g))) ∧ Quiet w w' := by
  have HX := Lib.hid hx
  have HL := Lib.hid hx.len
  have hmx := hx.max
  have HPW := Lib.hid (fun W => power_any n W hmx)
  have hpb := pw_bd n
  have HPB : Hid (wrap64 (pwF n - 1) = pwB n) := Lib.hid rfl
  have HP5 := Lib.hid (pwB5 n)
  clear hx
  generalize pwF n = p at *
  obtain ⟨hp1, hp2⟩ := hpb
  go_enter Try.func49, Try.ntmps49
  go_wp2
  go_loopw [3] (fun i wr => ∃ v : Nat, v ≤ n ∧ i = .int .i64 v ∧ Hid (∀ j, j < v → 0 ≤ gi g j) ∧ Hid (n ≤ 5 → ∀ j, j < v → RowG g j) ∧ Quiet w wr) (fun i _ => n - (intOf i).toNat)
  case atStart => exact ⟨0, Nat.zero_le _, rfl, Lib.hid (fun _ h => absurd h (by omega)), Lib.hid (fun _ _ h => absurd h (by omega)), Quiet.refl _⟩
  case round =>
    obtain ⟨v, hv, rfl, HNN, HRW, q, rfl⟩ := hrel
    by_cases hlt : v < n
    · obtain ⟨b, o, rfl, hc⟩ := HX.out.at_ (by omega)
      have c1 := hc v hlt
      have HC := Lib.hid hc
      have HWF := Lib.hid (fun j (hj : j < n) => HX.out.wf _ (gi_mem (xs := g) (k := j) (by rw [HL.out]; exact hj)))
      have hvl : v < g.length := by rw [HL.out]; exact hlt
      clear hc
      by_cases hin : InR (gi g v) 0 (pwB n)
      · have h0 := hin.1
        have HIN := Lib.hid (fun W => pb_true hin ▸ inRange_any (gi g v) 0 (pwB n) W)
        rw [← HPB.out] at HIN
        have HB := Lib.hid (fun W => bit_of h0 (HWF.out v hlt).2 (by omega : v ≤ 17592186044416) W)
        have HBT := bt_lt g v v
        by_cases hb1 : bt g v v = 1
        · have HE := Lib.hid (GR_no hvl (fun h => by rw [h.2.1] at hb1; cases hb1))
          rw [hb1] at HB
          clear hin hb1 HBT
          generalize gi g v = x at *
          go_wp2
          go_quiet (first
            | (go_at_call 73; (with_reducible refine same_fit (HPW.out _) (fun m => ?_)); (first | exact drewN_to1 _ _ _ | exact drewN_to2 _ _ _ _))
            | (go_at_call 76; (with_reducible refine same_fit (HIN.out _) (fun m => ?_)); (first | exact drewN_to1 _ _ _ | exact drewN_to2 _ _ _ _))
            | (go_at_call 77; (with_reducible refine same_fit (HB.out _) (fun m => ?_)); (first | exact drewN_to1 _ _ _ | exact drewN_to2 _ _ _ _)))
          go_wp2
          go_ret
          exact ⟨ret_bool HE.out.symm, Quiet.two _ _ _⟩
        · have hb0 : bt g v v = 0 := by omega
          have HB0 := Lib.hid hb0
          have HR5 := Lib.hid (fun h5 : n ≤ 5 => show InR (gi g v) 0 (2 ^ g.length - 1) by rw [HL.out, ← HP5.out (by omega)]; exact hin)
          have H0 := Lib.hid h0
          rw [hb0] at HB
          clear hin hb1 HBT hb0
          generalize hgx : gi g v = x at *
          have HGX := Lib.hid hgx
          clear hgx
          go_wp2
          go_quiet (first
            | (go_at_call 73; (with_reducible refine same_fit (HPW.out _) (fun m => ?_)); (first | exact drewN_to1 _ _ _ | exact drewN_to2 _ _ _ _))
            | (go_at_call 76; (with_reducible refine same_fit (HIN.out _) (fun m => ?_)); (first | exact drewN_to1 _ _ _ | exact drewN_to2 _ _ _ _))
            | (go_at_call 77; (with_reducible refine same_fit (HB.out _) (fun m => ?_)); (first | exact drewN_to1 _ _ _ | exact drewN_to2 _ _ _ _)))
          clear HB HIN
          rw [← HGX.out] at c1 h0
          go_wp2
          go_loopw [4] (fun i wi => ∃ u : Nat, u ≤ v ∧ i = .int .i64 u ∧ Hid (∀ j, j < u → bt g v j = bt g j v) ∧ Quiet w wi) (fun i _ => v - (intOf i).toNat)
          case atStart => exact ⟨0, Nat.zero_le _, rfl, Lib.hid (fun _ h => absurd h (by omega)), Quiet.two _ _ _⟩
          case round =>
            obtain ⟨u, hu, rfl, HSY, q2, rfl⟩ := hrel
            by_cases hul : u < v
            · have c2 := HC.out u (by omega)
              have HB1 := Lib.hid (fun W => bit_of h0 (HWF.out v hlt).2 (by omega : u ≤ 17592186044416) W)
              have HB2 := Lib.hid (fun W => bit_of (HNN.out u hul) (HWF.out u (by omega)).2 (by omega : v ≤ 17592186044416) W)
              by_cases he : bt g v u = bt g u v
              · have HS1 : Hid (∀ j, j < u + 1 → bt g v j = bt g j v) := Lib.hid (fun j hj => by
                  by_cases hjk : j < u
                  · exact HSY.out j hjk
                  · obtain rfl : j = u := by omega
                    exact he)
                rw [he] at HB1
                clear he
                generalize bt g u v = t at *
                clear HGX
                generalize gi g v = x1 at *
                generalize gi g u = x2 at *
                go_wp2
                go_quiet (first
                  | (go_at_call 77; (with_reducible refine same_fit (HB1.out _) (fun m => ?_)); (first | exact drewN_to1 _ _ _ | exact drewN_to2 _ _ _ _))
                  | (go_at_call 77; (with_reducible refine same_fit (HB2.out _) (fun m => ?_)); (first | exact drewN_to1 _ _ _ | exact drewN_to2 _ _ _ _)))
                go_wp2
                go_roundw
                case rel => exact ⟨u + 1, by omega, by go_num, HS1, ⟨_, rfl⟩⟩
                case measure => simp [intOf]; omega
              · have HE := Lib.hid (GR_no hvl (fun h => he (h.2.2 u hul)))
                have hne : (((bt g v u : Nat) : Int) != ((bt g u v : Nat) : Int)) = true := by simp; omega
                clear he
                generalize bt g v u = t1 at *
                generalize bt g u v = t2 at *
                clear HGX
                generalize gi g v = x1 at *
                generalize gi g u = x2 at *
                go_wp2
                go_quiet (first
                  | (go_at_call 77; (with_reducible refine same_fit (HB1.out _) (fun m => ?_)); (first | exact drewN_to1 _ _ _ | exact drewN_to2 _ _ _ _))
                  | (go_at_call 77; (with_reducible refine same_fit (HB2.out _) (fun m => ?_)); (first | exact drewN_to1 _ _ _ | exact drewN_to2 _ _ _ _)))
                go_wp2
                go_ret
                exact ⟨ret_bool HE.out.symm, Quiet.two _ _ _⟩
            · obtain rfl : u = v := by omega
              have HR := Lib.hid (fun h5 : n ≤ 5 => show RowG g u from ⟨by rw [HGX.out]; exact HR5.out h5, HB0.out, HSY.out⟩)
              rw [← HGX.out] at H0
              go_wp2
              go_roundw
              case rel => exact ⟨u + 1, by omega, by go_num, Lib.hid (fun j hj => by
                by_cases hjk : j < u
                · exact HNN.out j hjk
                · obtain rfl : j = u := by omega
                  exact H0.out), Lib.hid (fun h5 j hj => by
                by_cases hjk : j < u
                · exact HRW.out h5 j hjk
                · obtain rfl : j = u := by omega
                  exact HR.out h5), ⟨_, rfl⟩⟩
              case measure => simp [intOf]; omega
      · have HIN := Lib.hid (fun W => pb_false hin ▸ inRange_any (gi g v) 0 (pwB n) W)
        rw [← HPB.out] at HIN
        have HE := Lib.hid (show pb (GR g) = false from pb_false fun k => hin (by
          have h := k.b.inn v hvl
          rw [HP5.out (by rw [← HL.out]; have := k.b.n5; omega), ← HL.out]; exact h))
        clear hin
        generalize gi g v = x at *
        go_wp2
        go_quiet (first
          | (go_at_call 73; (with_reducible refine same_fit (HPW.out _) (fun m => ?_)); (first | exact drewN_to1 _ _ _ | exact drewN_to2 _ _ _ _))
          | (go_at_call 76; (with_reducible refine same_fit (HIN.out _) (fun m => ?_)); (first | exact drewN_to1 _ _ _ | exact drewN_to2 _ _ _ _)))
        go_wp2
        go_ret
        exact ⟨ret_bool HE.out.symm, Quiet.two _ _ _⟩
    · obtain rfl : v = n := by omega
      by_cases h25 : InR (v : Int) 2 5
      · have hb : GB g := GB.of (fun j hj => HRW.out (by unfold InR at h25; omega) j (by rw [← HL.out]; exact hj)) (by rw [HL.out]; unfold InR at h25; omega) (by rw [HL.out]; unfold InR at h25; omega)
        have HIN := Lib.hid (fun W => pb_true h25 ▸ inRange_any (v : Int) 2 5 W)
        have HLK := Lib.hid (linked_any A v c g (w.drewN q) (HX.out.keep (Keep.drewN _ _)) hb)
        have HV := Lib.hid (show pb (GR g) = (((lnk g : Nat) : Int) == pwB v) by
          have e5 := HP5.out (by unfold InR at h25; omega)
          have e2 : ((2 ^ v : Nat) : Int) = (2 : Int) ^ v := by simp
          have e1 := Nat.one_le_two_pow (n := v)
          by_cases e : lnk g = 2 ^ g.length - 1
          · rw [pb_true ⟨hb, e⟩, e5, e, HL.out]; simp; omega
          · rw [pb_false (fun k => e k.all), e5]; rw [HL.out] at e; simp; omega)
        rw [← HPB.out] at HV
        clear hb h25 HP5
        generalize lnk g = m at *
        go_wp2_with (first
          | (go_at_call 76; refine (HIN.out _).mono ?_; rintro e w' ⟨rfl, rfl⟩)
          | (go_at_call 78; refine HLK.out.mono ?_; rintro e w' ⟨rfl, q2, rfl⟩)
          | (go_at_call 73; refine (HPW.out _).mono ?_; rintro e w' ⟨rfl, rfl⟩))
        go_ret
        exact ⟨ret_bool HV.out.symm, ⟨_, rfl⟩⟩
      · have HIN := Lib.hid (fun W => pb_false h25 ▸ inRange_any (v : Int) 2 5 W)
        have HE := Lib.hid (show pb (GR g) = false from pb_false fun k => h25 (by
          have h1 := k.b.n2; have h2 := k.b.n5; rw [HL.out] at h1 h2; unfold InR; omega))
        clear h25
        go_wp2_with (go_at_call 76; refine (HIN.out _).mono ?_; rintro e w' ⟨rfl, rfl⟩)
        go_ret
        exact ⟨ret_bool HE.out.symm, ⟨_, rfl⟩⟩
theorem ValidGraph_spec (A : Option Addr) (n c : Nat) (g : List Int) (w : World) (hx : Ints w A n c g) :
    Calls Try.prog 14 #[.slice A n c] w fun e w' => e = .returned (.bool (pb (GR g))) ∧ Quiet w w' := by
  have HC := Lib.hid (validGraph_any A n c g w hx)
  generalize pb (GR g) = r at *
  go_enter Try.func14, Try.ntmps14
  go_wp2_with fail
  refine HC.out.mono ?_
  rintro e w1 ⟨rfl, hq⟩
  go_wp2
  go_ret
  exact ⟨rfl, hq⟩
end Go.Proofs.Ytnbkifpmoegaaaa

/- Places: whether all are reached, by the program; valid graphs by the program. -/
namespace Go.Proofs.Ytnbkifpmoegaaaa
open Go.RowKit

/-- The list of places that are reached, as it lies. -/
structure RU (w : World) (B : Nat) (v : Value) (l : List Nat) (W : World) : Prop where
  own : W.ownsRow w.heap.size 63 1 v l.length (l.map (pv B))
  up : Below w.heap.size w W
theorem RU.next {w B v l W W'} (h : RU w B v l W) (k : Below W.heap.size W W') : RU w B v l W' := ⟨blk_kept h.own fun g hg => k.block g (h.own.lt g hg).2, below_up h.up k⟩
theorem RU.start (w : World) (B u : Nat) : RU w B (.slice (some ⟨w.heap.size, 0, none⟩) 1 1) [u] (w.alloc (.cells #[pv B u] 63)) :=
  ⟨⟨rfl, .inr ⟨w.heap.size, 1, _, rfl, Nat.le_refl _, heap_alloc_new w _, Nat.le_refl _, by unfold maxLen; omega, rfl, rfl⟩⟩, below_alloc _ _⟩
theorem RU.push {w B v v' l u W W' X} (h : RU w B v l W) (hown : W'.ownsRow w.heap.size 63 1 v' (l.length + 1) (l.map (pv B) ++ [pv B u])) (hgrow : (W.alloc X).grownBy W' v.ownBlock) : RU w B v' (l ++ [u]) W' := by
  have hsz := hgrow.size
  simp only [World.size_alloc] at hsz
  have hs := h.up.size
  refine ⟨by rw [List.length_append, List.length_singleton, List.map_append]; exact hown, ⟨hgrow.os.trans h.up.os, hgrow.tape.trans h.up.tape, hgrow.output.trans h.up.output, by omega, fun k hk => ?_⟩⟩
  exact ((hgrow.block k (by simp; omega) (fun e => by have := (h.own.lt k e.symm).1; omega)).trans (Below.heap_alloc _ _ _ (by omega))).trans (h.up.block k hk)
theorem addN_yes {R : List Nat} {x : Nat} (h : x ∈ R) : addN R x = R := if_pos (by simpa using h)
theorem addN_no {R : List Nat} {x : Nat} (h : x ∉ R) : addN R x = R ++ [x] := if_neg (by simpa using h)
theorem addN_len (R : List Nat) (x : Nat) : R.length ≤ (addN R x).length := by unfold addN; split <;> simp
theorem rIn_len (R : List Nat) (ms : List Int) : ∀ k j, (rIn R ms j).length ≤ (rIn R ms (j + k)).length
  | 0, _ => Nat.le_refl _
  | k + 1, j => Nat.le_trans (rIn_len R ms k j) (addN_len _ _)
theorem rIn_mem (R : List Nat) (ms : List Int) {n : Nat} (h : ∀ y, y ∈ R → y < n) (hm : ∀ j, j < ms.length → (gi ms j).toNat < n) : ∀ j, j ≤ ms.length → ∀ y, y ∈ rIn R ms j → y < n
  | 0, _, y, hy => h y hy
  | j + 1, hj, y, hy => by
    rw [rIn] at hy
    unfold addN at hy
    split at hy
    · exact rIn_mem R ms h hm j (by omega) y hy
    · rcases List.mem_append.1 hy with hy | hy
      · exact rIn_mem R ms h hm j (by omega) y hy
      · rw [List.mem_singleton.1 hy]; exact hm j (by omega)
theorem rO_facts {g : List Int} (h : GB g) : (∀ i, i < 7 → (rO g i).length ≤ g.length ∧ (∀ x, x ∈ rO g i → x < g.length) ∧ 1 ≤ (rO g i).length) ∧ rO g 6 = rO g 5 ∧ ((rO g 5).length = g.length ↔ lnk g = 2 ^ g.length - 1) := by
  have t := List.all_eq_true.1 lk_table g (mem_graphs h)
  simp only [Bool.and_eq_true, rOk, List.all_eq_true, List.mem_range, decide_eq_true_eq, beq_iff_eq] at t
  refine ⟨fun i hi => ⟨(t.2.1.1 i hi).1.1, (t.2.1.1 i hi).1.2, (t.2.1.1 i hi).2⟩, t.2.1.2, ?_⟩
  have q := t.2.2
  by_cases e : (rO g 5).length = g.length <;> by_cases e2 : lnk g = 2 ^ g.length - 1 <;> simp [e, e2] at q ⊢
theorem rO_stay {g : List Int} {i : Nat} (h : (rO g i).length ≤ i) : ∀ d, rO g (i + d) = rO g i
  | 0 => rfl
  | d + 1 => by
    show (if i + d < (rO g (i + d)).length then _ else rO g (i + d)) = _
    rw [rO_stay h d, if_neg (by omega)]
theorem rO_next {g : List Int} {i : Nat} (h : i < (rO g i).length) : rO g (i + 1) = rIn (rO g i) (nb g ((rO g i).getD i 0)) (nb g ((rO g i).getD i 0)).length := if_pos h
set_option maxRecDepth 100000 in
set_option maxHeartbeats 3200000 in
theorem areReached_any (B : Nat) (g : List Int) (n : Nat) (s c : Nat → Int) (R : Nat → Value) (w : World) (hp : PLr B n (nn g) s c R w) (hl : g.length = n) (hb : GB g) :
    Calls Try.prog 48 #[.slice (some ⟨B, 0, none⟩) n n] w (Ret (.bool (decide (lnk g = 2 ^ g.length - 1))) w) := by
  have HP := Lib.hid hp
  have h5 : n ≤ 5 := by rw [← hl]; exact hb.n5
  have hn0 : 0 < n := by have := hb.n2; omega
  obtain ⟨HF, H6, HEND⟩ := rO_facts hb
  have HF := Lib.hid (show ∀ i, i < 7 → (rO g i).length ≤ n ∧ (∀ x, x ∈ rO g i → x < n) ∧ 1 ≤ (rO g i).length by rw [← hl]; exact HF)
  have H6 := Lib.hid H6
  have HEND := Lib.hid (show (rO g 5).length = n ↔ lnk g = 2 ^ g.length - 1 by rw [← hl] at *; exact HEND)
  have HNB := Lib.hid (fun v (hv : v < n) j (hj : j < (nb g v).length) => show gi (nb g v) j = (((nn g v).getD j 0 : Nat) : Int) ∧ (nn g v).getD j 0 < n by
    have := gi_nb hb.inn (by omega) (v := v) (by omega) hj; rwa [hl] at this)
  have HNL := Lib.hid (fun v (hv : v < n) => show (nb g v).length ≤ 5 from memL_le _ 5)
  have HS0 := Lib.hid (RU.start w B 0)
  have c1 : w.cell? ⟨B, 0, none⟩ = some (.pointer (some ⟨B + 1 + 0, 0, none⟩)) := HP.out.row.cell hn0
  clear hp hl
  have HGB := Lib.hid hb
  clear hb
  go_enter Try.func48, Try.ntmps48
  go_wp2
  go_loopg [3, 4] 7 (fun gh v i wr => ∃ k : Nat, k + gh = 7 ∧ k ≤ (rO g k).length ∧ i = .int .i64 k ∧ Hid (RU w B v (rO g k) wr))
  case atStart => exact ⟨0, by omega, Nat.zero_le _, rfl, HS0⟩
  case round =>
    clear HS0 c1
    obtain ⟨k, hkg, hkl, rfl, HR⟩ := hrel
    have hk5 : k ≤ 5 := by
      rcases Nat.lt_or_ge k 7 with h | h
      · have := (HF.out k h).1; omega
      · have h7 : rO g 7 = rO g 6 := rO_stay (by have := (HF.out 6 (by omega)).1; omega) 1
        have : k = 7 := by omega
        subst this
        have := (HF.out 6 (by omega)).1
        rw [h7] at hkl; omega
    obtain ⟨Av, cv, rfl, hPV⟩ := ptrs_of HR.out.own
    have HPV := Lib.hid hPV
    clear hPV
    by_cases hlt : k < (rO g k).length
    · obtain ⟨bv, rfl, hcv⟩ := HPV.out.at_ (by omega)
      have c2 := hcv k hlt
      have HX := Lib.hid (show (rO g k).getD k 0 < n from (HF.out k (by omega)).2.1 _ (getD_mem hlt))
      have HN1 := Lib.hid (rO_next hlt)
      have HLE := Lib.hid (show (rO g (k + 1)).length ≤ n from (HF.out (k + 1) (by omega)).1)
      have HK1 := Lib.hid (show k + 1 ≤ (rO g (k + 1)).length from by
        rw [rO_next hlt]
        have := rIn_len (rO g k) (nb g ((rO g k).getD k 0)) (nb g ((rO g k).getD k 0)).length 0
        rw [Nat.zero_add] at this
        have e : (rIn (rO g k) (nb g ((rO g k).getD k 0)) 0).length = (rO g k).length := rfl
        omega)
      have HRS : Hid (rIn (rO g k) (nb g ((rO g k).getD k 0)) 0 = rO g k) := Lib.hid rfl
      have HMB := Lib.hid (show ∀ x, x ∈ rO g k → x < n from (HF.out k (by omega)).2.1)
      have hlen := (HF.out k (by omega)).1
      have HMEM := Lib.hid (rIn_mem (rO g k) (nb g ((rO g k).getD k 0)) (n := n) (fun y hy => (HF.out k (by omega)).2.1 y hy) (fun j hj => by
        have h1 := (HNB.out _ HX.out j hj)
        rw [h1.1, Int.toNat_natCast]; exact h1.2))
      clear hcv
      generalize (rO g k).getD k 0 = x at *
      obtain ⟨A, kc, hRx, hN⟩ := HP.out.near HX.out
      have HNX := Lib.hid hN
      have c3 := blk_cell ((HP.out.next HR.out.up).bl x HX.out) (i := 0) rfl
      rw [hRx] at c3
      have HNI := Lib.hid (HNB.out x HX.out)
      have HLX := Lib.hid (nn_len g x)
      have hl5 := HNL.out x HX.out
      clear hN
      rw [HLX.out] at c3 hRx
      generalize hR0 : rO g k = R0 at *
      have HR0 := Lib.hid hR0
      clear hR0
      generalize hm : (nb g x).length = m at *
      have HM := Lib.hid hm
      clear hm
      go_wp2
      go_step3
      go_wp2
      go_step3
      go_wp2
      go_loopg [3, 27] m (fun g2 v j wi => ∃ l : Nat, l + g2 = m ∧ j = .int .i64 l ∧ Hid (RU w B v (rIn R0 (nb g x) l) wi))
      case atStart => exact ⟨0, by omega, rfl, Lib.hid (by rw [HRS.out]; exact HR.out)⟩
      case round =>
        clear HRS HR
        obtain ⟨l, hlg, rfl, HR⟩ := hrel
        obtain ⟨Av, cv, rfl, hPV⟩ := ptrs_of HR.out.own
        have HPV := Lib.hid hPV
        clear hPV c3
        by_cases hll : l < m
        · obtain ⟨bm, rfl, hcm⟩ := (HNX.out.keep (Keep.below HR.out.up)).at_ (by rw [HLX.out]; omega)
          have c4 := hcm l (by rw [HLX.out]; exact hll)
          obtain ⟨e1, hun⟩ := HNI.out l hll
          have HSN : Hid (rIn R0 (nb g x) (l + 1) = addN (rIn R0 (nb g x) l) ((nn g x).getD l 0)) := Lib.hid (by rw [rIn, e1, Int.toNat_natCast])
          have HLB := Lib.hid (show (rIn R0 (nb g x) l).length ≤ n from by
            have h1 := rIn_len R0 (nb g x) (m - l) l
            rw [show l + (m - l) = m by omega] at h1
            have h2 := HLE.out
            rw [HN1.out] at h2
            omega)
          have HMB2 := Lib.hid (show ∀ y, y ∈ rIn R0 (nb g x) l → y < n from HMEM.out l (by omega))
          clear hcm e1
          generalize (nn g x).getD l 0 = u at *
          generalize rIn R0 (nb g x) l = R1 at *
          generalize hr1 : R1.length = r1 at *
          have HR1 := Lib.hid hr1
          clear hr1
          have HPW := Lib.hid (HP.out.next HR.out.up)
          have hr5 := HLB.out
          go_wp2
          go_loopg [33] r1 (fun g3 j wi => ∃ y : Nat, y + g3 = r1 ∧ j = .int .i64 y ∧ Hid (∀ z, z < y → R1.getD z 0 ≠ u) ∧ wi = wr)
          case atStart => exact ⟨0, by omega, rfl, Lib.hid (fun _ h => absurd h (by omega)), rfl⟩
          case round =>
            obtain ⟨y, hyg, rfl, HY, rfl⟩ := hrel
            by_cases hyl : y < r1
            · obtain ⟨bv2, rfl, hcv2⟩ := HPV.out.at_ (by rw [HR1.out]; omega)
              have c5 := hcv2 y (by rw [HR1.out]; exact hyl)
              have HMY := Lib.hid (getD_mem (l := R1) (j := y) (by rw [HR1.out]; exact hyl))
              clear hcv2
              have hzz : ∃ z, z = R1.getD y 0 := ⟨_, rfl⟩
              obtain ⟨z, hz⟩ := hzz
              rw [← hz] at c5 HMY
              have HZ := Lib.hid hz
              clear hz
              by_cases he : z = u
              · subst he
                have HAD := Lib.hid (HSN.out.trans (addN_yes HMY.out))
                have hes := fun W => eqp_same W ⟨B + 1 + z, 0, none⟩
                go_wp2
                go_roundg (m - (l + 1))
                case measure => omega
                case rel => exact ⟨l + 1, by omega, by go_num, Lib.hid (by rw [HAD.out]; exact HR.out)⟩
              · have hes := HPW.out.eqp (HMB2.out z HMY.out) hun he
                have HEE := Lib.hid he
                go_wp2
                go_roundg (r1 - (y + 1))
                case measure => omega
                case rel => exact ⟨y + 1, by omega, by go_num, Lib.hid (fun i hi => by
                  by_cases hiy : i < y
                  · exact HY.out i hiy
                  · obtain rfl : i = y := by omega
                    rw [← HZ.out]; exact HEE.out), rfl⟩
            · obtain rfl : y = r1 := by omega
              have HAD := Lib.hid (HSN.out.trans (addN_no (x := u) (fun h => by
                obtain ⟨i, hi, e⟩ := List.mem_iff_getElem.1 h
                exact HY.out i (by rw [← HR1.out]; exact hi) (by simp [List.getD, List.getElem?_eq_getElem hi, e]))))
              have HB4 := Lib.hid (HR.out.own.alloc (.cells #[.pointer (some ⟨B + 1 + u, 0, none⟩)] 63))
              rw [HR1.out] at HB4
              have HNC := Lib.hid (cell_one_new wr (.pointer (some ⟨B + 1 + u, 0, none⟩)) 63)
              have hwz := HR.out.up.size
              have hy5 : y ≤ 5 := by omega
              obtain ⟨i0, hi0, hz0, hz1, hz2⟩ := info_parts Try.info_pp
              go_wp2_with (at_builtin; refine wpList_append_own_at _ rfl _ _ 57 rfl w.heap.size 63 i0 (.pointer none) 1 8 Try.underlying57 hi0 hz0 hz1 hz2 rfl (by decide) _ y (R1.map (pv B)) rfl HB4.out ⟨wr.heap.size, 0, none⟩ 1 1 [.pointer (some ⟨B + 1 + u, 0, none⟩)] rfl rfl ?c1 ?c2 ?c3 ?c4 ?c5 ?_)
              case c1 => exact HNC.out
              case c2 => intro u hu; simp at hu; subst hu; rfl
              case c3 => unfold maxLen; omega
              case c4 => omega
              case c5 => simp; omega
              intro v' w5 hown' hgrow _ hat
              have HE := Lib.hid (show RU w B v' (rIn R0 (nb g x) (l + 1)) w5 from by
                rw [HAD.out]
                exact HR.out.push (by rw [HR1.out]; exact hown') hgrow)
              clear HB4 HNC hown' hgrow hat HR
              go_wp2
              go_roundg (m - (l + 1))
              case measure => omega
              case rel => exact ⟨l + 1, by omega, by go_num, HE⟩
        · obtain rfl : l = m := by omega
          have HE := Lib.hid (show RU w B _ (rO g (k + 1)) _ from by rw [HN1.out]; exact HR.out)
          go_wp2
          rw [Exit.noGoto_normal]
          go_wp2
          go_roundg (7 - (k + 1))
          case measure => omega
          case rel => exact ⟨k + 1, by omega, HK1.out, by go_num, HE⟩
    · have hk : (rO g k).length = k := by omega
      have HE := Lib.hid (show (((k : Int) == (n : Int)) = decide (lnk g = 2 ^ g.length - 1)) from by
        have h5e : rO g 5 = rO g k := by have := rO_stay (g := g) (i := k) (by omega) (5 - k); rwa [show k + (5 - k) = 5 by omega] at this
        have := HEND.out
        rw [h5e, hk] at this
        by_cases e : k = n
        · rw [decide_eq_true (this.1 e), e]; simp
        · rw [decide_eq_false (fun h => e (this.2 h))]; simp; omega)
      have HB := Lib.hid HR.out.up
      rw [hk]
      clear HR hk HPV
      go_wp2
      go_ret
      exact ⟨ret_bool HE.out, HB.out⟩
end Go.Proofs.Ytnbkifpmoegaaaa

/- Places as the program makes them: placesOf. -/
namespace Go.Proofs.Ytnbkifpmoegaaaa
open Go.RowKit

set_option maxRecDepth 100000 in
set_option maxHeartbeats 3200000 in
theorem placesOf_any (A : Option Addr) (n c : Nat) (g : List Int) (w : World) (hx : Ints w A n c g) (hi : InG g) (h5 : n ≤ 5) :
    Calls Try.prog 46 #[.slice A n c] w (NewPl w n (nn g)) := by
  have HX := Lib.hid hx
  have hl := hx.len
  have HG := Lib.hid (fun v (hv : v < n) => show gi g v = ((gi g v).toNat : Int) ∧ (gi g v).toNat < 32 by
    have h1 := hi v (by omega)
    unfold InR at h1
    have h6 : ((2 ^ g.length : Nat) : Int) = (2 : Int) ^ g.length := by simp
    have h7 : 2 ^ g.length ≤ 2 ^ 5 := Nat.pow_le_pow_right (by omega) (by omega)
    omega)
  have HNB := Lib.hid (fun v (hv : v < n) j (hj : j < (nb g v).length) => show gi (nb g v) j = (((nn g v).getD j 0 : Nat) : Int) ∧ (nn g v).getD j 0 < n by
    have := gi_nb hi (by omega) (v := v) (by omega) hj; rwa [hl] at this)
  have HS0 := Lib.hid (PA.start w n)
  have hmk := run_make_row' (P := Try.prog) 57 63 (.pointer none) 8 Try.underlying57 Try.info_pp rfl .i64 .i64 n (by omega) (by omega)
  clear hx hi hl
  go_enter Try.func46, Try.ntmps46
  go_wp2
  clear hmk
  go_loopw [14] (fun i wr => ∃ k : Nat, k ≤ n ∧ i = .int .i64 k ∧ Hid (PA w n k wr)) (fun i _ => n - (intOf i).toNat)
  case atStart => exact ⟨0, Nat.zero_le _, rfl, HS0⟩
  case round =>
    clear HS0
    obtain ⟨k, hk, rfl, HA⟩ := hrel
    by_cases hlt : k < n
    · have HA1 := Lib.hid (HA.out.step hlt)
      have c0 := (HA.out.row.alloc (.cells #[.slice none 0 0, .int .i64 0, .int .i64 0] 65)).cell hlt
      have f0 := (HA.out.row.alloc (.cells #[.slice none 0 0, .int .i64 0, .int .i64 0] 65)).frozen k
      rw [if_neg (Nat.lt_irrefl k)] at c0
      clear HA
      go_wp2
      go_roundw
      case rel => exact ⟨k + 1, by omega, by go_num, HA1⟩
      case measure => simp [intOf]; omega
    · obtain rfl : k = n := by omega
      have HP0 := Lib.hid (show PO w k 0 (Lst g 0 0) wr from ⟨HA.out.done.1, _, HA.out.done.2.congr (fun v _ => by unfold Lst; simp) (fun _ _ => rfl) (fun _ _ => rfl), fun _ _ _ => rfl⟩)
      clear HA
      go_wp2
      go_loopw [25] (fun i wr2 => ∃ m : Nat, m ≤ k ∧ i = .int .i64 m ∧ Hid (PO w k m (Lst g m 0) wr2)) (fun i _ => k - (intOf i).toNat)
      case atStart => exact ⟨0, Nat.zero_le _, rfl, HP0⟩
      case round =>
        clear HP0
        obtain ⟨i, hik, rfl, HP⟩ := hrel
        by_cases hil : i < k
        · obtain ⟨b, o, rfl, hc⟩ := (HX.out.keep (Keep.below HP.out.up)).at_ (by omega)
          have c1 := hc i hil
          obtain ⟨e1, e2⟩ := HG.out i hil
          rw [e1] at c1
          have HC := Lib.hid (fun W => membersOf5_any (gi g i).toNat W e2)
          have HNI := Lib.hid (HNB.out i hil)
          have HLN := Lib.hid (show memL (gi g i).toNat 5 = nb g i from rfl)
          rw [HLN.out] at HC
          have HLL := Lib.hid (show (nb g i).length ≤ 5 from memL_le _ 5)
          clear hc e1 e2 HLN
          generalize (gi g i).toNat = s at *
          go_wp2_with fail
          refine (HC.out _).mono ?_
          rintro e w2 ⟨Am, m, cm, gm, rfl, hm, ho, hb⟩
          have HM := Lib.hid ho
          have hm5 : m ≤ 5 := by rw [hm]; exact HLL.out
          have HML := Lib.hid hm
          have HLO := Lib.hid (show w.heap.size + 1 + i < wr.heap.size by
            obtain ⟨R, q, _⟩ := HP.out.ex
            have := q.sz; omega)
          have HI0 := Lib.hid ((HP.out.next hb).start hil)
          clear HC hb HP ho hm c1
          go_wp2
          go_loopw [33] (fun j wi => ∃ l : Nat, l ≤ m ∧ j = .int .i64 l ∧ Hid (PI7 w w2 k i (Lst g i l) wi)) (fun j _ => m - (intOf j).toNat)
          case atStart => exact ⟨0, Nat.zero_le _, rfl, HI0⟩
          case round =>
            clear HI0
            obtain ⟨l, hlm, rfl, HI⟩ := hrel
            by_cases hll : l < m
            · obtain ⟨bm, om, rfl, hcm⟩ := (HI.out.ints HM.out HLO.out).at_ (by omega)
              have c2 := hcm l hll
              obtain ⟨e1, e2⟩ := HNI.out l (by rw [← HML.out]; exact hll)
              rw [e1] at c2
              have HLX := Lib.hid (fun v => Lst_next (g := g) (i := i) (j := l) (by rw [← HML.out]; exact hll) v)
              have HLL2 := Lib.hid (show (Lst g i l i).length ≤ 5 by rw [Lst_i, List.length_take]; omega)
              clear hcm e1
              generalize hu : (nn g i).getD l 0 = u at *
              clear hu
              obtain ⟨R, hPL, hR⟩ := HI.out.ex
              have HPL := Lib.hid hPL
              have HR := Lib.hid hR
              have p1 : wr.cell? ⟨w.heap.size, i, none⟩ = some (.pointer (some ⟨w.heap.size + 1 + i, 0, none⟩)) := HPL.out.row.cell hil
              have p2 : wr.cell? ⟨w.heap.size, u, none⟩ = some (.pointer (some ⟨w.heap.size + 1 + u, 0, none⟩)) := HPL.out.row.cell e2
              have p3 := blk_cell (HPL.out.bl i hil) (i := 0) rfl
              have HOW := Lib.hid (HPL.out.own i hil)
              have HSZ := Lib.hid (Nat.le_trans (Nat.le_refl (w.heap.size + 1 + k)) HPL.out.sz)
              clear hPL hR
              skip
              have HP2 := Lib.hid (And.intro p1 p2)
              obtain ⟨i0, hi0, hz0, hz1, hz2⟩ := info_parts Try.info_pp
              have al1 := below_alloc wr (.cells #[.pointer (some ⟨w.heap.size + 1 + u, 0, none⟩)] 63)
              have a1 := Keep.below al1 _ _ p1
              have a2 := Keep.below al1 _ _ p2
              have a3 := Keep.below al1 _ _ p3
              clear al1
              go_wp2
              apply region_put [37, 38, 39, 40, 41, 42, 43, 44, 45, 46, 47, 48, 49, 50, 51, 52, 53, 54, 55] (fun us v => ∃ (u37 u38 u39 u40 u41 u42 u43 u44 u45 u46 u47 u48 u49 u50 u51 u52 u53 u54 u55 : Value), us = [u37, u38, u39, u40, u41, u42, u43, u44, u45, u46, u47, u48, u49, u50, u51, u52, u53, u54, u55] ∧ Hid (PI7 w w2 k i (Lst g i (l + 1)) v))
              · go_region_law (
                  (first
                  | (refine step_append_lies _ (by rfl) _ _ _ (by rfl) (w.heap.size + 1 + k) 63 i0 _ 1 8 Try.underlying57 hi0 hz0 hz1 hz2 rfl (by omega) (R i) (Lst g i l i).length ((Lst g i l i).map (pv w.heap.size)) (by rfl) ((HOW.out.alloc _).drew) ⟨wr.heap.size, 0, none⟩ 1 1 [.pointer (some ⟨w.heap.size + 1 + u, 0, none⟩)] (by rfl) (by rfl) (World.news_of_block (w := (wr.alloc (.cells #[.pointer (some ⟨w.heap.size + 1 + u, 0, none⟩)] 63)).drew) (cs := #[.pointer (some ⟨w.heap.size + 1 + u, 0, none⟩)]) (t := 63) (fr := (0, 0)) (heap_alloc_new wr _)) (by simp [Value.oneCell']) (by omega) (by have := HLL2.out; unfold maxLen; omega) (by have := HLL2.out; omega) (by have := HSZ.out; simp; omega) (wr.heap.size + 1) (by simp) ?_; intro gg cap w1 hown1 hgrow hat hlt1; have HP3 := Lib.hid (show w1.cell? ⟨w.heap.size, i, none⟩ = some (.pointer (some ⟨w.heap.size + 1 + i, 0, none⟩)) ∧ w1.cell? ⟨w.heap.size, u, none⟩ = some (.pointer (some ⟨w.heap.size + 1 + u, 0, none⟩)) from (have q := HPL.out.low hil hgrow _ (by omega : w.heap.size < w.heap.size + 1 + k); And.intro ((World.cell?_of_block q).trans HP2.out.1) ((World.cell?_of_block q).trans HP2.out.2))); have HBK := (show Blk w1 (w.heap.size + 1 + i) 65 #[R i, .int .i64 0, .int .i64 0] from (HPL.out.low hil hgrow _ (by omega : w.heap.size + 1 + i < w.heap.size + 1 + k)).trans (HPL.out.bl i hil)); have b0 := blk_cell HBK (i := 0) rfl; have b2 := HP3.out.1; have b3 := HP3.out.2; have b1 := blk_frozen HBK 0; have HE := Lib.hid (PI7.congr (PI7.push HI.out (quiet_drew _) HPL.out HR.out hil (u := u) hown1 hgrow (hat.elim (fun h => .inl h.symm) (fun h => .inr (congrArg some h)))) (fun v _ => HLX.out v)); clear hown1 hgrow hat hlt1 HBK)
                  | fail))
                all_goals first
                  | exact PutQ.mk _ (by simp only [frmL, Act.put, List.setIfInBounds_toArray, List.set_cons_zero, List.set_cons_succ]; rfl) ⟨_, _, _, _, _, _, _, _, _, _, _, _, _, _, _, _, _, _, _, rfl, HE⟩
                  | fail
              · rintro _ v ⟨x37, x38, x39, x40, x41, x42, x43, x44, x45, x46, x47, x48, x49, x50, x51, x52, x53, x54, x55, rfl, HE⟩
                simp only [frmL, Act.put, List.setIfInBounds_toArray, List.set_cons_zero, List.set_cons_succ]
                clear HI HPL HR p1 p2 p3 HOW HP2 a1 a2 a3
                go_wp2
                go_roundw
                case rel => exact ⟨l + 1, by omega, by go_num, HE⟩
                case measure => simp [intOf]; omega
            · obtain rfl : l = m := by omega
              have HP1 := Lib.hid (HI.out.done (L' := Lst g (i + 1) 0) (fun v _ => by rw [HML.out]; exact Lst_up g i v))
              clear HI HM
              go_wp2
              go_roundw
              case rel => exact ⟨i + 1, by omega, by go_num, HP1⟩
              case measure => simp [intOf]; omega
        · obtain rfl : i = k := by omega
          have HE := Lib.hid (HP.out.done.congr (L' := nn g) (fun v hv => by unfold Lst; rw [if_pos hv]) (fun _ _ => rfl) (fun _ _ => rfl))
          clear HP
          go_wp2
          go_ret
          exact ⟨rfl, HE.out⟩
end Go.Proofs.Ytnbkifpmoegaaaa

/- Valid graphs, by the program. -/
namespace Go.Proofs.Ytnbkifpmoegaaaa
open Go.RowKit

theorem mem_memL (s : Nat) : ∀ k (x : Int), x ∈ memL s k ↔ ∃ j, j < k ∧ x = (j : Int) ∧ s / 2 ^ j % 2 = 1
  | 0, x => by simp [memL]
  | k + 1, x => by
    by_cases h : s / 2 ^ k % 2 = 1
    · rw [memL_yes h, List.mem_append, mem_memL s k x, List.mem_singleton]
      constructor
      · rintro (⟨j, hj, e, hb⟩ | rfl)
        · exact ⟨j, by omega, e, hb⟩
        · exact ⟨k, by omega, rfl, h⟩
      · rintro ⟨j, hj, e, hb⟩
        by_cases hjk : j < k
        · exact .inl ⟨j, hjk, e, hb⟩
        · obtain rfl : j = k := by omega
          exact .inr e
    · rw [memL_no h, mem_memL s k x]
      constructor
      · rintro ⟨j, hj, e, hb⟩; exact ⟨j, by omega, e, hb⟩
      · rintro ⟨j, hj, e, hb⟩
        by_cases hjk : j < k
        · exact ⟨j, hjk, e, hb⟩
        · obtain rfl : j = k := by omega
          exact absurd hb h
theorem mem_nn {g : List Int} {v u : Nat} : u ∈ nn g v ↔ u < 5 ∧ bt g v u = 1 := by
  unfold nn
  rw [List.mem_map]
  constructor
  · rintro ⟨x, hx, rfl⟩
    obtain ⟨j, hj, rfl, hb⟩ := (mem_memL _ 5 x).1 hx
    exact ⟨by rw [Int.toNat_natCast]; exact hj, by rw [Int.toNat_natCast]; exact hb⟩
  · rintro ⟨h5, hb⟩
    exact ⟨(u : Int), (mem_memL _ 5 _).2 ⟨u, h5, rfl, hb⟩, Int.toNat_natCast _⟩
theorem bt_in {g : List Int} (hi : InG g) {v u : Nat} (hv : v < g.length) (hb : bt g v u = 1) : u < g.length := by
  have h1 := hi v hv
  unfold InR at h1
  have h6 : ((2 ^ g.length : Nat) : Int) = (2 : Int) ^ g.length := by simp
  rcases Nat.lt_or_ge u g.length with h | h
  · exact h
  · have h2 : 2 ^ g.length ≤ 2 ^ u := Nat.pow_le_pow_right (by omega) h
    have h3 : (gi g v).toNat / 2 ^ u = 0 := Nat.div_eq_of_lt (by omega)
    unfold bt at hb
    rw [h3] at hb; cases hb
theorem mut_sym {g : List Int} (hi : InG g) (h5 : g.length ≤ 5) : MutP (nn g) g.length ↔ SyG g := by
  constructor
  · intro h v hv
    have key : ∀ v u, v < g.length → bt g v u = 1 → u ≠ v ∧ bt g u v = 1 := fun v u hv hb =>
      have hu := bt_in hi hv hb
      have q := h v hv u (mem_nn.2 ⟨by omega, hb⟩)
      ⟨q.1, (mem_nn.1 q.2).2⟩
    have lt := bt_lt g v v
    refine ⟨?_, fun u hu => ?_⟩
    · rcases Nat.eq_zero_or_pos (bt g v v) with h0 | h0
      · exact h0
      · exact absurd rfl (key v v hv (by omega)).1
    · have l1 := bt_lt g v u
      have l2 := bt_lt g u v
      by_cases e : bt g v u = 1
      · rw [e, (key v u hv e).2]
      · by_cases e2 : bt g u v = 1
        · exact absurd (key u v (by omega) e2).2 e
        · omega
  · intro h v hv u hu
    have hb := (mem_nn.1 hu).2
    have hul := bt_in hi hv hb
    have hne : u ≠ v := fun e => by rw [e, (h v hv).1] at hb; cases hb
    refine ⟨hne, mem_nn.2 ⟨by omega, ?_⟩⟩
    rcases Nat.lt_or_gt_of_ne hne with hlt | hgt
    · rw [← (h v hv).2 u hlt]; exact hb
    · rw [(h u hul).2 v hgt]; exact hb
theorem shl5 : ∀ n : Nat, n < 6 → wrap64 ((1 : Int) * 2 ^ n) = 2 ^ n := by decide +kernel
theorem pow5 : ∀ n : Nat, n < 6 → 1 ≤ (2 : Int) ^ n ∧ (2 : Int) ^ n ≤ 32 := by decide +kernel
set_option maxHeartbeats 400000 in
theorem isSetOf_any (n : Nat) (x : Int) (w : World) (h5 : n ≤ 5) : Calls Try.prog 45 #[.int .i64 n, .int .i64 x] w fun e w' => e = .returned (.bool (pb (InR x 0 (2 ^ n - 1)))) ∧ w = w' := by
  have hs := shl5 n (by omega)
  obtain ⟨p1, p2⟩ := pow5 n (by omega)
  by_cases h0 : 0 ≤ x
  · have d0 : decide (0 ≤ x) = true := decide_eq_true h0
    have HD : Hid (decide (x < (2 : Int) ^ n) = pb (InR x 0 (2 ^ n - 1))) := Lib.hid (by
      by_cases h : x < (2 : Int) ^ n
      · rw [pb_true ⟨h0, by omega⟩, decide_eq_true h]
      · rw [pb_false (fun k => h (by have := k.2; omega)), decide_eq_false h])
    go_enter Try.func45, Try.ntmps45
    go_wp2
    go_ret
    exact ⟨ret_bool HD.out, rfl⟩
  · have d0 : decide (0 ≤ x) = false := decide_eq_false h0
    have HD := Lib.hid (pb_false (p := InR x 0 (2 ^ n - 1)) (fun k => h0 k.1))
    go_enter Try.func45, Try.ntmps45
    go_wp2
    go_ret
    exact ⟨ret_bool HD.out.symm, rfl⟩
theorem GR.inn_no {g : List Int} {v : Nat} (hv : v < g.length) (h : ¬ InR (gi g v) 0 (2 ^ g.length - 1)) : pb (GR g) = false := pb_false fun k => h (k.b.inn v hv)
set_option maxRecDepth 100000 in
set_option maxHeartbeats 1600000 in
theorem ValidGraph_impl (A : Option Addr) (n c : Nat) (g : List Int) (w : World) (hx : Ints w A n c g) :
    Calls Try.prog 13 #[.slice A n c] w (Ret (.bool (pb (GR g))) w) := by
  have HX := Lib.hid hx
  have HL := Lib.hid hx.len
  have hmx := hx.max
  have HWF := Lib.hid (fun j (hj : j < n) => hx.wf _ (gi_mem (xs := g) (k := j) (by rw [hx.len]; exact hj)))
  clear hx
  by_cases h2 : n < 2
  · have HE := Lib.hid (show pb (GR g) = false from pb_false fun k => by have := k.b.n2; rw [HL.out] at this; omega)
    have d2 : decide ((n : Int) < 2) = true := decide_eq_true (by omega)
    go_enter Try.func13, Try.ntmps13
    go_wp2
    go_ret
    exact ⟨ret_bool HE.out.symm, Below.refl _ _⟩
  · by_cases h5 : n ≤ 5
    · have d2 : decide ((n : Int) < 2) = false := decide_eq_false (by omega)
      have d5 : decide (5 < (n : Int)) = false := decide_eq_false (by omega)
      go_enter Try.func13, Try.ntmps13
      go_wp2
      clear d2 d5
      go_loop [16] (fun i => ∃ v : Nat, v ≤ n ∧ i = .int .i64 v ∧ Hid (∀ j, j < v → InR (gi g j) 0 (2 ^ g.length - 1))) (fun i => n - (intOf i).toNat)
      case atStart => exact ⟨0, Nat.zero_le _, rfl, Lib.hid (fun _ h => absurd h (by omega))⟩
      case round =>
        obtain ⟨v, hv, rfl, HI⟩ := hrel
        by_cases hlt : v < n
        · obtain ⟨b, o, rfl, hc⟩ := HX.out.at_ (by omega)
          have c1 := hc v hlt
          clear hc
          by_cases hin : InR (gi g v) 0 (2 ^ n - 1)
          · have HC := Lib.hid (fun W => pb_true hin ▸ isSetOf_any n (gi g v) W h5)
            have HN := Lib.hid (show ∀ j, j < v + 1 → InR (gi g j) 0 (2 ^ g.length - 1) from fun j hj => by
              by_cases hjv : j < v
              · exact HI.out j hjv
              · obtain rfl : j = v := by omega
                rw [HL.out]; exact hin)
            clear hin
            go_wp2_with (go_at_call 45; refine (HC.out _).mono ?_; rintro e w' ⟨rfl, rfl⟩)
            go_round
            case rel => exact ⟨v + 1, by omega, by go_num, HN⟩
            case measure => simp [intOf]; omega
          · have HC := Lib.hid (fun W => pb_false hin ▸ isSetOf_any n (gi g v) W h5)
            have HE := Lib.hid (GR.inn_no (g := g) (v := v) (by rw [HL.out]; exact hlt) (by rw [HL.out]; exact hin))
            clear hin
            go_wp2_with (go_at_call 45; refine (HC.out _).mono ?_; rintro e w' ⟨rfl, rfl⟩)
            go_ret
            exact ⟨ret_bool HE.out.symm, Below.refl _ _⟩
        · obtain rfl : v = n := by omega
          have HIN := Lib.hid (show InG g from fun j hj => HI.out j (by rw [← HL.out]; exact hj))
          have HC := Lib.hid (placesOf_any A v c g w HX.out HIN.out h5)
          go_wp2_with fail
          refine HC.out.mono ?_
          rintro e w1 ⟨rfl, hpw⟩
          have HB1 := Lib.hid hpw.up
          obtain ⟨R, hpl⟩ := hpw.ex
          have HPL := Lib.hid hpl
          have HLL := Lib.hid (show ∀ x, x < v → (nn g x).length ≤ 5 ∧ ∀ u, u ∈ nn g x → u < v from fun x hx => ⟨by rw [nn_len]; exact memL_le _ 5, fun u hu => by rw [← HL.out] at hx ⊢; exact bt_in HIN.out hx (mem_nn.1 hu).2⟩)
          have HM := Lib.hid (areMutual_any _ v (nn g) _ _ R w1 hpl h5 HLL.out)
          clear HC hpw hpl
          by_cases hsy : SyG g
          · have HMT := Lib.hid (pb_true (by rw [← HL.out]; exact (mut_sym HIN.out (by rw [HL.out]; exact h5)).2 hsy : MutP (nn g) v))
            rw [HMT.out] at HM
            have HGB := Lib.hid (show GB g from ⟨HIN.out, hsy, by rw [HL.out]; omega, by rw [HL.out]; exact h5⟩)
            have HE : Hid (pb (GR g) = decide (lnk g = 2 ^ g.length - 1)) := Lib.hid (by
              by_cases e : lnk g = 2 ^ g.length - 1
              · rw [decide_eq_true e]; exact pb_true ⟨HGB.out, e⟩
              · rw [decide_eq_false e]; exact pb_false fun k => e k.all)
            clear HMT hsy
            go_wp2_with fail
            refine HM.out.mono ?_
            rintro e w2 ⟨rfl, hq⟩
            have HR := Lib.hid (areReached_any _ g v _ _ R w2 (HPL.out.quiet hq) HL.out HGB.out)
            have HB2 := Lib.hid (below_quiet HB1.out hq)
            clear hq HM HB1
            generalize decide (lnk g = 2 ^ g.length - 1) = r at *
            go_wp2_with fail
            refine HR.out.mono ?_
            rintro e w3 ⟨rfl, hb⟩
            have HB3 := Lib.hid (below_up HB2.out hb)
            clear hb HR HB2
            go_wp2
            go_ret
            exact ⟨ret_bool HE.out.symm, HB3.out⟩
          · have HMT := Lib.hid (pb_false (fun k => hsy ((mut_sym HIN.out (by rw [HL.out]; exact h5)).1 (by rw [HL.out]; exact k)) : ¬ MutP (nn g) v))
            rw [HMT.out] at HM
            have HE := Lib.hid (show pb (GR g) = false from pb_false fun k => hsy k.b.sym)
            clear HMT hsy
            go_wp2_with fail
            refine HM.out.mono ?_
            rintro e w2 ⟨rfl, hq⟩
            have HB2 := Lib.hid (below_quiet HB1.out hq)
            clear hq HM HB1
            go_wp2
            go_ret
            exact ⟨ret_bool HE.out.symm, HB2.out⟩
    · have HE := Lib.hid (show pb (GR g) = false from pb_false fun k => by have := k.b.n5; rw [HL.out] at this; omega)
      have d2 : decide ((n : Int) < 2) = false := decide_eq_false (by omega)
      have d5 : decide (5 < (n : Int)) = true := decide_eq_true (by omega)
      go_enter Try.func13, Try.ntmps13
      go_wp2
      go_ret
      exact ⟨ret_bool HE.out.symm, Below.refl _ _⟩
end Go.Proofs.Ytnbkifpmoegaaaa

