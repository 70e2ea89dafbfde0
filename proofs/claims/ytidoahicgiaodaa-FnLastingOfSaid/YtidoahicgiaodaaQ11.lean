/- Texts merged: C9U C9X. -/
import Derived.Test.YtidoahicgiaodaaQ10
/- Trees by rounds, by the model. -/
namespace Go.Proofs.Ytidoahicgiaodaa
open Go.RowKit

/-- A square in memory, every cell. -/
structure Grid (W : World) (b o : Nat) (R O C : Nat → Nat) (n : Nat) (a : List (List Int)) : Prop where
  row : ∀ i, i < n → W.cell? ⟨b, o + i, none⟩ = some (.slice (some ⟨R i, O i, none⟩) n (C i))
  cell : ∀ i j, i < n → j < n → W.cell? ⟨R i, O i + j, none⟩ = some (.int .i64 (g2 a i j))
theorem Grid.keep {W W' b o R O C n a} (h : Grid W b o R O C n a) (k : Keep W W') : Grid W' b o R O C n a := ⟨fun i hi => k _ _ (h.row i hi), fun i j hi hj => k _ _ (h.cell i j hi hj)⟩
theorem IntRows.grid {W A n c a} (h : IntRows W A n c a) (hr : ∀ i, i < n → (gr a i).length = n) (h1 : 0 < n) : ∃ b o R O C, A = some ⟨b, o, none⟩ ∧ Grid W b o R O C n a := by
  obtain ⟨b, o, rfl, hc⟩ := h.at_ h1
  have each : ∀ i, i < n → ∃ y : Nat × Nat × Nat, W.cell? ⟨b, o + i, none⟩ = some (.slice (some ⟨y.1, y.2.1, none⟩) n y.2.2) ∧ ∀ j, j < n → W.cell? ⟨y.1, y.2.1 + j, none⟩ = some (.int .i64 (g2 a i j)) := by
    intro i hi
    obtain ⟨R, c', h2, h3⟩ := hc i hi
    rw [hr i hi] at h2 h3
    obtain ⟨b2, o2, rfl, hc2⟩ := h3.at_ h1
    exact ⟨(b2, o2, c'), h2, hc2⟩
  obtain ⟨y, hy⟩ := Go.Deep.choose_lt each
  exact ⟨b, o, fun i => (y i).1, fun i => (y i).2.1, fun i => (y i).2.2, rfl, ⟨fun i hi => (hy i hi).1, fun i j hi hj => (hy i hi).2 j hj⟩⟩
theorem cs_bdB {a : List (List Int)} {n r : Nat} {t : List Int} (c : CB a n) (hl : t.length = n) (hb : InB t) : ∀ k, k ≤ n → -100 * (k : Int) ≤ cs a r t k ∧ cs a r t k ≤ 100 * k
  | 0, _ => by simp [cs]
  | k + 1, hk => by
    have h := cs_bdB (r := r) c hl hb k (by omega)
    have h1 := hb.bd k (by omega)
    have h2 := c.sq.bd k (gi t k).toNat (by omega) (by omega)
    rw [cs]; split <;> omega
/-- Which states are in the first ones of a round. -/
def insB (ring : List Int) (k : Nat) : Nat → Value := fun j => .bool ((ring.take k).contains (j : Int))
theorem insB_set {w : World} {g n k s : Nat} {ring : List Int} (h : w.rowIs g 4 n (insB ring k)) (hk : k < ring.length) (hs : gi ring k = s) : (w.setCell ⟨g, s, none⟩ (.bool true)).rowIs g 4 n (insB ring (k + 1)) :=
  (h.set s _).congr fun j _ => by
    unfold insB
    have e : (ring.take (k + 1)).contains (j : Int) = ((ring.take k).contains (j : Int) || (j : Int) == (s : Int)) := by
      rw [List.take_add_one, List.getElem?_eq_getElem hk, ← gi_get hk, hs]
      rw [List.contains_append, Option.toList_some, List.contains_cons, List.contains_nil, Bool.or_false]
    rw [e]
    by_cases hj : j = s
    · subst hj; simp
    · rw [if_neg hj]
      have : ((j : Int) == (s : Int)) = false := by rw [beq_eq_false_iff_ne]; omega
      rw [this, Bool.or_false]
theorem Try.info_bool9 : (Try.prog.info? 4).map (fun i => (i.zero, i.size, i.bytes)) = some (some (.bool false), 1, 1) := by kernel_rfl
/-- The new root's place, among the first ones. -/
def nrI (oth : List Nat) (r x : Nat) : Int := if oth.idxOf r < x then (oth.idxOf r : Int) else 0
theorem oth_getD_inj {ring : List Int} {n x y : Nat} (hx : x < (othL ring n).length) (hy : y < (othL ring n).length) (e : (othL ring n).getD x 0 = (othL ring n).getD y 0) : x = y := by
  have hnd : (othL ring n).Nodup := List.Nodup.sublist List.filter_sublist List.nodup_range
  rw [List.getD_eq_getElem?_getD, List.getElem?_eq_getElem hx, List.getD_eq_getElem?_getD, List.getElem?_eq_getElem hy] at e
  exact (List.getElem_inj hnd).1 e

theorem gi_cast {oth : List Nat} {x : Nat} (h : x < oth.length) : gi (oth.map fun (s : Nat) => (s : Int)) x = ((oth.getD x 0 : Nat) : Int) := by
  rw [gi_get (by simpa using h), List.getElem_map, List.getD_eq_getElem?_getD, List.getElem?_eq_getElem h]; rfl
theorem nrI_yes {t : List Int} {n r x : Nat} {ring : List Int} (h : Rnd t n r ring (othL ring n)) (hx : x < (othL ring n).length) (e : (othL ring n).getD x 0 = r) : nrI (othL ring n) r (x + 1) = x := by
  have h2 : (othL ring n).idxOf r = x := oth_getD_inj h.ix hx (h.at_.trans e.symm)
  unfold nrI; rw [h2, if_pos (by omega)]
theorem nrI_no {t : List Int} {n r x : Nat} {ring : List Int} (h : Rnd t n r ring (othL ring n)) (e : (othL ring n).getD x 0 ≠ r) : nrI (othL ring n) r (x + 1) = nrI (othL ring n) r x := by
  have h2 : (othL ring n).idxOf r ≠ x := fun e2 => e (by rw [← e2]; exact h.at_)
  unfold nrI
  by_cases h3 : (othL ring n).idxOf r < x
  · rw [if_pos (by omega), if_pos h3]
  · rw [if_neg (by omega), if_neg h3]
theorem take_map {oth : List Nat} {y : Nat} (f : Nat → Int) (h : y < oth.length) : (oth.take (y + 1)).map f = (oth.take y).map f ++ [f (oth.getD y 0)] := by
  rw [List.take_add_one, List.getElem?_eq_getElem h, List.map_append, List.getD_eq_getElem?_getD, List.getElem?_eq_getElem h]; rfl
theorem rowIs_drewN {w : World} {g n : Nat} {e : TypeId} {F : Nat → Value} (h : w.rowIs g e n F) (q : Nat) : (w.drewN q).rowIs g e n F := h
set_option maxRecDepth 100000 in
set_option maxHeartbeats 3200000 in
theorem byRounds_any : ∀ F n, n ≤ F → ∀ (A : Option Addr) (c : Nat) (a : List (List Int)) (r : Nat) (w : World), IntRows w A n c a → CB a n → r < n →
    Calls Try.prog 74 #[.slice A n c, .int .i64 r] w fun e w' => (∃ v, e = .returned (.int .i64 v) ∧ LF (g2 a) n r v) ∧ Below w.heap.size w w' := by
  intro F
  induction F with
  | zero => intro n hn A c a r w _ _ hr; omega
  | succ F ih =>
    intro n hF A c a r w hx hc hr
    have IH := Lib.hid ih
    clear ih
    have h4 := hc.n4
    have h1 := hc.n1
    by_cases hn1 : n = 1
    · subst hn1
      have HV := Lib.hid (show LF (g2 a) 1 r 0 by obtain rfl : r = 0 := by omega
                                                  exact ex_1_0.2 ⟨Int.le_refl _, rfl⟩)
      clear hx hc
      go_enter Try.func74, Try.ntmps74
      go_wp2
      go_ret
      exact ⟨⟨_, rfl, HV.out⟩, Below.refl _ _⟩
    have h2 : 2 ≤ n := by omega
    have hnb : ((n : Int) == 1) = false := by rw [beq_eq_false_iff_ne]; omega
    have HC := Lib.hid hc
    have HCC := Lib.hid (cheapest_any A n c a r w hx hc.row h2 h4)
    obtain ⟨bA, oA, RR, OO, CC, rfl, hgrid⟩ := hx.grid hc.row h1
    have HG0 := Lib.hid hgrid
    have HWL := Lib.hid (cwL_len a r n)
    have HWI := Lib.hid (cwL_in (a := a) (r := r) (n := n))
    have HNX := Lib.hid (show nx (cwL a r n) (r : Int) = r by unfold nx; simpa using cwL_root (a := a) hr)
    have HCT := Lib.hid (fun h : Ld (cwL a r n) r => show LF (g2 a) n r (cs a r (cwL a r n) n) by
      have h3 := cheap_tree (a := a) hr h
      rw [tot_cs ⟨cwL_len a r n, cwL_in, cwL_root hr, h⟩] at h3; exact h3)
    have HRN := Lib.hid (raL_nil (t := cwL a r n) (r := (r : Int)) HNX.out)
    have HCO : Hid (¬ Ld (cwL a r n) r → _ ∧ _ ∧ _ ∧ _) := Lib.hid (fun h => bs_ctr hc hr h rfl rfl)
    have HST := Lib.hid (fun h v => bs_step (v := v) hc hr h rfl rfl)
    have HRB := Lib.hid (fun h => rgS_bd hc hr h rfl)
    have HCB0 := Lib.hid (cs_bdB (r := r) hc (cwL_len a r n) cwL_in)
    have HSQ := Lib.hid hc.sq
    have HTN : Hid (∀ i, i < n → i ≠ r → (gi (cwL a r n) i).toNat ≠ i) := Lib.hid (fun i hi hne => by
      have q1 := (cwL_in (a := a) (r := r) (n := n)).bd i (by rw [cwL_len]; exact hi)
      have q2 := cwL_ne (a := a) (r := r) h2 hi hne
      omega)
    have HTL : Hid (∀ i j, i < n → j < n → i ≠ r → j ≠ i → g2 a i (gi (cwL a r n) i).toNat ≤ g2 a i j) := Lib.hid (fun i j hi hj hne hji => cwL_least hi hj hne hji)
    rw [HWL.out] at HRN
    clear hx hc hgrid
    generalize cwL a r n = ways at *
    go_enter Try.func74, Try.ntmps74
    go_wp2_with fail
    refine HCC.out.mono ?_
    rintro e w1 ⟨Tw, nw, cw_, gw, rfl, hnw, ho, hb⟩
    have HB1 := Lib.hid hb
    have HG1 := Lib.hid (HG0.out.keep (Keep.below hb))
    rw [HWL.out] at hnw
    subst hnw
    have HW1 := Lib.hid ho.ints
    clear hb ho HCC HG0
    have HRC := Lib.hid (roundOfS_any r Tw nw cw_ ways w1 HW1.out HWI.out h4 HNX.out)
    generalize hring : raL ways r nw = ring at *
    have HRING := Lib.hid hring
    clear hring
    go_wp2_with fail
    refine HRC.out.mono ?_
    rintro e w2 ⟨Ar, nr, cr, gr_, rfl, hnr, ho, hb⟩
    have HB2 := Lib.hid (HB1.out.trans (hb.mono HB1.out.size))
    have HG2 := Lib.hid (HG1.out.keep (Keep.below hb))
    have HW2 := Lib.hid (HW1.out.keep (Keep.below hb))
    have HR2 := Lib.hid ho.ints
    have hmr := ho.ints.max
    have HNR := Lib.hid hnr
    clear hb ho HRC HG1 HW1 HB1 hnr
    obtain ⟨bT, oT, rfl, hcT⟩ := HW2.out.at_ (by omega)
    have HTC := Lib.hid hcT
    clear hcT HW2
    by_cases hld : Ld ways r
    · have HV := Lib.hid (HCT.out hld)
      have h0 : nr = 0 := by rw [HNR.out, HRN.out.2 hld]; rfl
      subst h0
      clear hld HCT HCO HST HRN HRB HTN HTL HR2
      go_wp2
      go_loopw [7, 8] (fun s i wr => ∃ k : Nat, k ≤ nw ∧ i = .int .i64 k ∧ s = .int .i64 (cs a r ways k) ∧ Quiet w2 wr) (fun _ i _ => nw - (intOf i).toNat)
      case atStart => exact ⟨0, Nat.zero_le _, rfl, rfl, Quiet.refl _⟩
      case round =>
        obtain ⟨k, hk, rfl, rfl, hqq⟩ := hrel
        have hcb := HCB0.out k hk
        by_cases hkn : k < nw
        · have HCS : Hid (cs a r ways (k + 1) = if k = r then cs a r ways k else cs a r ways k + g2 a k (gi ways k).toNat) := Lib.hid rfl
          have hcb2 := HCB0.out (k + 1) hkn
          rw [HCS.out] at hcb2
          by_cases hkr : k = r
          · rw [if_pos hkr] at HCS hcb2
            have hkr' : ((k : Int) != (r : Int)) = false := by simp [hkr]
            clear hkr
            generalize cs a r ways k = S at *
            go_wp2
            go_roundw
            case rel => exact ⟨k + 1, by omega, by go_num, congrArg (Value.int .i64) (by rw [HCS.out]), hqq⟩
            case measure => simp [intOf]; omega
          · rw [if_neg hkr] at HCS hcb2
            have hkr' : ((k : Int) != (r : Int)) = true := by simp; omega
            have hd := HWI.out.bd k (by rw [HWL.out]; exact hkn)
            rw [HWL.out] at hd
            have HGq := Lib.hid (HG2.out.keep (Keep.quiet hqq))
            have c1 := Keep.quiet hqq _ _ (HTC.out k hkn)
            obtain ⟨d, hdd⟩ : ∃ d : Nat, gi ways k = d := ⟨(gi ways k).toNat, by omega⟩
            rw [hdd] at c1 hd hcb2 HCS
            simp only [Int.toNat_natCast] at hcb2 HCS
            have hdn : d < nw := by omega
            have c2 := HGq.out.row k hkn
            have c3 := HGq.out.cell k d hkn hdn
            clear hkr hdd
            generalize g2 a k d = G at *
            generalize cs a r ways k = S at *
            go_wp2
            go_quiet (fail)
            go_wp2
            go_roundw
            case rel => exact ⟨k + 1, by omega, by go_num, congrArg (Value.int .i64) (by rw [HCS.out]), hqq.trans ⟨_, rfl⟩⟩
            case measure => simp [intOf]; omega
        · obtain rfl : k = nw := by omega
          have HB3 := Lib.hid (below_quiet HB2.out hqq)
          generalize cs a r ways k = S at *
          go_wp2
          go_ret
          exact ⟨⟨_, rfl, HV.out⟩, HB3.out⟩
    · obtain ⟨hctr, hcb, hrnd, hshp⟩ := HCO.out hld
      have HCB := Lib.hid hcb
      have HRD := Lib.hid hrnd
      have HSP := Lib.hid (HST.out hld)
      have HRS := Lib.hid (HRB.out hld)
      have hrl := hrnd.l2
      have hrl4 := hrnd.l4
      have hrln := hrnd.ln
      have hnr2 : 0 < nr := by rw [HNR.out]; omega
      have hnrz : ((nr : Int) == 0) = false := by rw [beq_eq_false_iff_ne]; omega
      have hnr4 : nr ≤ 4 := by have := HNR.out; omega
      have HRSt : Hid (∀ k, k < nr → ∃ s : Nat, gi ring k = s ∧ s < nw ∧ s ≠ r ∧ (s : Int) ∈ ring) := Lib.hid (fun k hk => by
        have hm := gi_mem (show k < ring.length by rw [← HNR.out]; exact hk)
        have := HRD.out.bd _ hm
        exact ⟨(gi ring k).toNat, by omega, by omega, by omega, by rw [show (((gi ring k).toNat : Nat) : Int) = gi ring k by omega]; exact hm⟩)
      obtain ⟨bR, oR, rfl, hcR⟩ := HR2.out.at_ hnr2
      have HRC := Lib.hid hcR
      clear hctr hcb hrnd hshp hld HCT HCO HST HRN HRB hcR HR2 HCB0
      have hmk := run_make_row' (P := Try.prog) 108 4 (.bool false) 1 Try.underlying108 Try.info_bool9 rfl .i64 .i64 nw (by omega) (by omega)
      have HIN0 := Lib.hid (show (w2.alloc (.cells (madeCells #[.bool false] nw) 4)).rowIs w2.heap.size 4 nw (insB ring 0) from (World.rowIs_made w2 _ nw 4).congr (fun j _ => by simp [insB]))
      have HBI0 := Lib.hid ((Below.refl w2.heap.size w2).alloc (Nat.le_refl _) (.cells (madeCells #[.bool false] nw) 4))
      go_wp2
      clear hmk
      go_loopw [7, 10] (fun s i wr => ∃ k : Nat, k ≤ nr ∧ i = .int .i64 k ∧ s = .int .i64 (rgS a ways ring k) ∧ Hid (wr.rowIs w2.heap.size 4 nw (insB ring k)) ∧ Hid (Below w2.heap.size w2 wr)) (fun _ i _ => nr - (intOf i).toNat)
      case atStart => exact ⟨0, Nat.zero_le _, rfl, rfl, HIN0, HBI0⟩
      case round =>
        clear HIN0 HBI0
        obtain ⟨k, hk, rfl, rfl, HIN, HBI⟩ := hrel
        have hrb := HRS.out k (by rw [← HNR.out]; exact hk)
        by_cases hkn : k < nr
        · obtain ⟨s, hs, hsn, hsr, hsm⟩ := HRSt.out k hkn
          have c1 := Keep.below HBI.out _ _ (HRC.out k hkn)
          have HIS := Lib.hid (insB_set (n := nw) HIN.out (show k < ring.length by rw [← HNR.out]; exact hkn) hs)
          have HRS1 : Hid (rgS a ways ring (k + 1) = rgS a ways ring k + g2 a (gi ring k).toNat (gi ways (gi ring k).toNat).toNat) := Lib.hid rfl
          have hd := HWI.out.bd s (by rw [HWL.out]; exact hsn)
          rw [HWL.out] at hd
          obtain ⟨d, hdd⟩ : ∃ d : Nat, gi ways s = d := ⟨(gi ways s).toNat, by omega⟩
          have hdn : d < nw := by omega
          rw [hs] at c1 HRS1
          simp only [Int.toNat_natCast] at HRS1
          rw [hdd] at HRS1
          simp only [Int.toNat_natCast] at HRS1
          have hgb := HSQ.out.bd s d hsn hdn
          have HK2 := Lib.hid (show Keep w2 (wr.setCell ⟨w2.heap.size, s, none⟩ (.bool true)) from Keep.below (HBI.out.setCell (p := ⟨w2.heap.size, s, none⟩) (Nat.le_refl _) _))
          have HBI2 := Lib.hid (HBI.out.setCell (p := ⟨w2.heap.size, s, none⟩) (Nat.le_refl _) (.bool true))
          have c2 := HIN.out.cell hsn
          have c3 := HIN.out.frozen s
          have hs0 := hs
          clear HIN HBI hs hd
          have hval : ∃ u, insB ring k s = u := ⟨_, rfl⟩
          obtain ⟨u, hu⟩ := hval
          rw [hu] at c2
          clear hu
          generalize rgS a ways ring k = S at *
          go_wp2
          clear c1 c2 c3
          generalize wr.setCell ⟨w2.heap.size, s, none⟩ (.bool true) = wB at *
          have e1 := HK2.out _ _ (HRC.out k hkn)
          have e2 := HK2.out _ _ (HTC.out s hsn)
          have e3 := HK2.out _ _ (HG2.out.row s hsn)
          have e4 := HK2.out _ _ (HG2.out.cell s d hsn hdn)
          rw [hdd] at e2
          rw [hs0] at e1
          clear hs0
          generalize g2 a s d = G at *
          go_quiet (fail)
          go_wp2
          go_roundw
          case rel => exact ⟨k + 1, by omega, by go_num, congrArg (Value.int .i64) (by rw [HRS1.out]), Lib.hid (rowIs_drewN HIS.out _), Lib.hid (below_quiet HBI2.out ⟨_, rfl⟩)⟩
          case measure => simp [intOf]; omega
        · obtain rfl : k = nr := by omega
          have HSG := Lib.hid (show rgS a ways ring ring.length = rgS a ways ring k by rw [HNR.out])
          have hrb1 : 0 ≤ rgS a ways ring k ∧ rgS a ways ring k ≤ 80 := by omega
          clear hrb
          generalize rgS a ways ring k = S at *
          obtain ⟨w3, hw3⟩ : ∃ w3, w3 = wr := ⟨_, rfl⟩
          rw [← hw3] at HIN HBI ⊢
          clear hw3
          have HIC := Lib.hid (fun i (hi : i < nw) => show w3.cell? ⟨w2.heap.size, i, none⟩ = some (.bool (ring.contains (i : Int))) by
            have h := HIN.out.cell hi
            rwa [insB, List.take_of_length_le (by rw [← HNR.out]; exact Nat.le_refl _)] at h)
          have HU0 := Lib.hid (IU.start w3)
          clear HIN
          go_wp2
          go_loopw [11, 12] (fun v i wr => ∃ k : Nat, k ≤ nw ∧ i = .int .i64 k ∧ Hid (IU w3 v (selL (outB ring) k) wr)) (fun _ i _ => nw - (intOf i).toNat)
          case atStart => exact ⟨0, by omega, rfl, HU0⟩
          case round =>
            clear HU0
            obtain ⟨i, hi, rfl, HI⟩ := hrel
            obtain ⟨Av, cv, rfl⟩ := HI.out.bi.form
            by_cases hin : i < nw
            · have c1 := Keep.below HI.out.up _ _ (HIC.out i hin)
              by_cases hm : ring.contains (i : Int) = true
              · have HCS := Lib.hid (selL_no (f := outB ring) (k := i) (by simp only [outB, hm]; rfl))
                rw [hm] at c1
                clear hm
                go_wp2
                go_roundw
                case rel => exact ⟨i + 1, by omega, by go_num, Lib.hid (by rw [HCS.out]; exact HI.out)⟩
                case measure => simp [intOf]; omega
              · have hm0 : ring.contains (i : Int) = false := by simpa using hm
                have HCS := Lib.hid (selL_yes (f := outB ring) (k := i) (by simp only [outB, hm0]; rfl))
                rw [hm0] at c1
                clear hm hm0
                have HML := Lib.hid (selL_len (outB ring) i)
                have hb := below_alloc wr (.cells #[iv (i : Int)] 3)
                have HB4 := Lib.hid (HI.out.bi.below hb).own
                have HN := Lib.hid (cell_one_new wr (iv (i : Int)) 3)
                have hwz := HI.out.up.size
                clear hb
                generalize selL (outB ring) i = ys at *
                obtain ⟨i0, hi0, hz0, hz1, hz2⟩ := info_parts Try.info_int
                go_wp2_with (at_builtin; refine wpList_append_own_at _ rfl _ _ 36 rfl w3.heap.size 3 i0 (.int .i64 0) 1 8 Try.underlying36 hi0 hz0 hz1 hz2 rfl (by decide) _ ys.length (ys.map iv) rfl HB4.out ⟨wr.heap.size, 0, none⟩ 1 1 [iv (i : Int)] rfl rfl ?c1 ?c2 ?c3 ?c4 ?c5 ?_)
                case c1 => exact HN.out
                case c2 => intro u hu; simp at hu; subst hu; rfl
                case c3 => have := HML.out; unfold maxLen; omega
                case c4 => have := HML.out; omega
                case c5 => simp; omega
                intro v' w5 hown' hgrow _ hat
                have HI5 := Lib.hid (HI.out.push hown' hgrow (by simpa using hat))
                clear HB4 HN hown' hgrow hat HI c1
                go_wp2
                go_roundw
                case rel => exact ⟨i + 1, by omega, by go_num, Lib.hid (by rw [HCS.out]; exact HI5.out)⟩
                case measure => simp [intOf]; omega
            · have hie : nw = i := by omega
              subst hie
              obtain ⟨w4, hw4⟩ : ∃ w4, w4 = wr := ⟨_, rfl⟩
              rw [← hw4] at HI ⊢
              clear hw4
              have HB24 := Lib.hid (HBI.out.trans (HI.out.up.mono HBI.out.size))
              have HG4 := Lib.hid (HG2.out.keep (Keep.below HB24.out))
              have HRC4 := Lib.hid (fun q hq => Keep.below HB24.out _ _ (HRC.out q hq))
              have HTC4 := Lib.hid (fun q hq => Keep.below HB24.out _ _ (HTC.out q hq))
              have hsl := selL_len (outB ring) nw
              have HIN := HI.out.ints (by omega) (selL_small _ nw (by omega))
              have HNY := Lib.hid (fun x hx e => nrI_yes (x := x) HRD.out hx e)
              have HNN := Lib.hid (fun x e => nrI_no (x := x) HRD.out e)
              have HOB : Hid (∀ x, x < (othL ring nw).length → (othL ring nw).getD x 0 < nw) := Lib.hid (fun x hx => (othL_mem.1 (by rw [List.getD_eq_getElem?_getD, List.getElem?_eq_getElem hx]; exact List.getElem_mem hx)).1)
              have HOR : Hid (∀ x, x < (othL ring nw).length → (((othL ring nw).getD x 0 : Nat) : Int) ∉ ring) := Lib.hid (fun x hx => (othL_mem.1 (by rw [List.getD_eq_getElem?_getD, List.getElem?_eq_getElem hx]; exact List.getElem_mem hx)).2)
              rw [othL_sel] at HIN ⊢
              generalize hoth : othL ring nw = oth at *
              have HOT := Lib.hid hoth
              clear hoth
              have hol := HRD.out.ln
              have hix := HRD.out.ix
              rw [List.length_map] at HIN ⊢
              obtain ⟨bO, oO, rfl, hcO⟩ := HIN.at_ (by omega)
              have HOC : Hid (∀ x, x < oth.length → w4.cell? ⟨bO, oO + x, none⟩ = some (.int .i64 (oth.getD x 0 : Nat))) := Lib.hid (fun x hx => by rw [hcO x hx, gi_cast hx])
              have hom : oth.length ≤ 4 := by omega
              have HLN := Lib.hid hol
              have HT0 := Lib.hid (TM.start w4)
              clear HIN hcO HI HIC hol hsl
              obtain ⟨i0, hi0, hz0, hz1, hz2⟩ := info_parts Try.info_int
              go_wp2
              go_loopw [13, 14, 15] (fun sv nv xv wr => ∃ (x : Nat) (vs : List Value), x ≤ oth.length ∧ xv = .int .i64 x ∧ nv = .int .i64 (nrI oth r x) ∧ Hid (TM w4 sv vs ((List.range x).map (bsR a ring oth)) wr)) (fun _ _ xv _ => oth.length - (intOf xv).toNat)
              case atStart => exact ⟨0, [], Nat.zero_le _, rfl, by simp [nrI], Lib.hid (by simpa using HT0.out)⟩
              case round =>
                clear HT0
                obtain ⟨x, vs, hx, rfl, rfl, HT⟩ := hrel
                obtain ⟨As, cs_, rfl⟩ := HT.out.bo.form
                by_cases hxm : x < oth.length
                · have hsn := HOB.out x hxm
                  have q1 := HOC.out x hxm
                  have HLA := Lib.hid (show ((List.range x).map (bsR a ring oth)).length ≤ 4 by simp; omega)
                  have HACC : Hid ((List.range (x + 1)).map (bsR a ring oth) = (List.range x).map (bsR a ring oth) ++ [bsR a ring oth x]) := Lib.hid (by rw [List.range_succ, List.map_append]; rfl)
                  have HBS : Hid (bsR a ring oth x = (oth.map fun y => g2 a (oth.getD x 0) y) ++ [lst (ring.map fun s => g2 a (oth.getD x 0) s.toNat)]) := Lib.hid rfl
                  have HYX := Lib.hid (HNY.out x hxm)
                  have HNX2 := Lib.hid (HNN.out x)
                  have HR0 := Lib.hid HT.out.row
                  have HOX := Lib.hid q1
                  have hnb0 : 0 ≤ nrI oth r x ∧ nrI oth r x ≤ 4 := by unfold nrI; split <;> omega
                  clear q1
                  generalize (List.range x).map (bsR a ring oth) = acc at *
                  generalize hs : oth.getD x 0 = s at *
                  generalize nrI oth r x = NR at *
                  have HS := Lib.hid hs
                  clear hs
                  go_wp2
                  generalize wr.alloc (.cells #[] 3) = wA at *
                  generalize wr.heap.size = H at *
                  go_loopw [16, 17] (fun u yv wr => ∃ y : Nat, y ≤ oth.length ∧ yv = .int .i64 y ∧ Hid (TN w4 H (.slice As acc.length cs_) vs acc u ((oth.take y).map fun t => g2 a s t) wr)) (fun _ yv _ => oth.length - (intOf yv).toNat)
                  case atStart => exact ⟨0, Nat.zero_le _, rfl, HR0⟩
                  case round =>
                    clear HR0 HT
                    obtain ⟨y, hy, rfl, HN⟩ := hrel
                    obtain ⟨Au, cu, rfl⟩ := HN.out.bi.form
                    by_cases hym : y < oth.length
                    · have htn := HOB.out y hym
                      have q1 := HOC.out y hym
                      have HTK := Lib.hid (take_map (fun t => g2 a s t) hym)
                      have HLM := Lib.hid (show ((oth.take y).map fun t => g2 a s t).length ≤ 4 by simp; omega)
                      generalize (oth.take y).map (fun t => g2 a s t) = ys at *
                      generalize oth.getD y 0 = t at *
                      have HKA := Lib.hid (And.intro HOX.out (And.intro q1 (And.intro (HG4.out.row s hsn) (HG4.out.cell s t hsn htn))))
                      have r1 := Keep.below HN.out.up _ _ HKA.out.1
                      have r2 := Keep.below HN.out.up _ _ HKA.out.2.1
                      have r3 := Keep.below HN.out.up _ _ HKA.out.2.2.1
                      have r4 := Keep.below HN.out.up _ _ HKA.out.2.2.2
                      have hhs := HN.out.hs
                      have hgb := HSQ.out.bd s t hsn htn
                      clear q1
                      generalize g2 a s t = G at *
                      go_wp2
                      go_region_held3 (fun W => W.cell? ⟨bO, oO + x, none⟩ = some (.int .i64 (s : Nat)) ∧ W.cell? ⟨bO, oO + y, none⟩ = some (.int .i64 (t : Nat)) ∧ W.cell? ⟨bA, oA + s, none⟩ = some (.slice (some ⟨RR s, OO s, none⟩) nw (CC s)) ∧ W.cell? ⟨RR s, OO s + t, none⟩ = some (.int .i64 G))
                        (first | go_keep | exact HKK.out)
                        ((refine step_append_lies _ (by rfl) _ _ _ (by rfl) H 3 i0 _ 1 8 Try.underlying36 hi0 hz0 hz1 hz2 rfl (by omega) (.slice Au ys.length cu) ys.length (ys.map iv) (by rfl) ((HN.out.bi.own.alloc _).drew) ⟨wr.heap.size, 0, none⟩ 1 1 [iv G] (by rfl) (by rfl) (World.news_of_block (w := (wr.alloc (.cells #[iv G] 3)).drew) (cs := #[iv G]) (t := 3) (fr := (0, 0)) (heap_alloc_new wr _)) (by simp [Value.oneCell', iv]) (by omega) (by have := HLM.out; unfold maxLen; omega) (by have := HLM.out; omega) (by simp; omega) (wr.heap.size + 1) (by simp) ?_; intro gg cap w1 hown1 hgrow hat hlt1; have HN2 := Lib.hid (HN.out.push2 ((below_alloc wr _).drew) hown1 hgrow hlt1); have HKK := Lib.hid (And.intro (Keep.below HN2.out.up _ _ HKA.out.1) (And.intro (Keep.below HN2.out.up _ _ HKA.out.2.1) (And.intro (Keep.below HN2.out.up _ _ HKA.out.2.2.1) (Keep.below HN2.out.up _ _ HKA.out.2.2.2)))); clear hown1 hgrow hat hlt1 HN))
                      clear r1 r2 r3 r4
                      go_wp2
                      go_roundw
                      case rel => exact ⟨y + 1, by omega, by go_num, Lib.hid (by rw [HTK.out]; first | exact HN2.out | exact HN2.out.next (Quiet.below ⟨1, rfl⟩) | exact HN2.out.next (Quiet.below ⟨_, rfl⟩))⟩
                      case measure => simp [intOf]; omega
                    · have hye : oth.length = y := by omega
                      subst hye
                      rw [List.take_length] at HN ⊢
                      have HLXL : Hid ((ring.map fun z => g2 a s z.toNat).length = k) := Lib.hid (by rw [List.length_map, ← HNR.out])
                      have HLG : Hid (∀ q t : Nat, q < k → gi ring q = t → gi (ring.map fun z => g2 a s z.toNat) q = g2 a s t) := Lib.hid (fun q t hq e => by
                        have hq2 : q < ring.length := by rw [← HNR.out]; exact hq
                        rw [gi_get (by rw [List.length_map]; exact hq2), List.getElem_map, ← gi_get hq2, e]; simp)
                      have HL0 : Hid (∀ q, q < (ring.map fun z => g2 a s z.toNat).length → 0 ≤ gi (ring.map fun z => g2 a s z.toNat) q ∧ gi (ring.map fun z => g2 a s z.toNat) q ≤ 20) := Lib.hid (fun q hq => by
                        rw [HLXL.out] at hq
                        obtain ⟨t, ht, htn, -, htm⟩ := HRSt.out q hq
                        rw [HLG.out q t hq ht]
                        exact HC.out.off s t hsn htn (fun e => HOR.out x hxm (by rw [HS.out, e]; exact htm)))
                      have HYW : Hid (∀ y ∈ (oth.map fun t => g2 a s t), -1000 ≤ y ∧ y ≤ 1000) := Lib.hid (fun y hy => by
                        obtain ⟨t, ht, rfl⟩ := List.mem_map.1 hy
                        obtain ⟨j, hj, rfl⟩ := List.getElem_of_mem ht
                        have h1 := HOB.out j hj
                        rw [List.getD_eq_getElem?_getD, List.getElem?_eq_getElem hj] at h1
                        have := HSQ.out.bd s _ hsn h1
                        simp only [Option.getD_some] at this
                        omega)
                      have HYL : Hid ((oth.map fun t => g2 a s t).length ≤ 4) := Lib.hid (by simp; omega)
                      generalize (ring.map fun z => g2 a s z.toNat) = LX at *
                      generalize (oth.map fun t => g2 a s t) = ys at *
                      obtain ⟨wE, hwE⟩ : ∃ wE, wE = wr := ⟨_, rfl⟩
                      rw [← hwE] at HN ⊢
                      clear hwE
                      go_wp2
                      go_loopw [18, 19] (fun b qv wr => ∃ q : Nat, q ≤ k ∧ qv = .int .i64 q ∧ b = .int .i64 (bk LX q) ∧ Quiet wE wr) (fun _ qv _ => k - (intOf qv).toNat)
                      case atStart => exact ⟨0, Nat.zero_le _, rfl, rfl, Quiet.refl _⟩
                      case round =>
                        obtain ⟨q, hq, rfl, rfl, hqq⟩ := hrel
                        have hbb := bk_bd (L := LX) (lo := -1) (hi := 20) (fun j hj => ⟨by have := (HL0.out j hj).1; omega, (HL0.out j hj).2⟩) (by omega) (by omega) q (by rw [HLXL.out]; exact hq)
                        by_cases hqk : q < k
                        · obtain ⟨t, ht, htn, -, htm⟩ := HRSt.out q hqk
                          have HBK := Lib.hid (bk_step (L := LX) (k := q) (by rw [HLXL.out]; exact hqk) (fun j hj => (HL0.out j hj).1))
                          rw [HLG.out q t hqk ht] at HBK
                          have r1 := Keep.quiet hqq _ _ (Keep.below HN.out.up _ _ HOX.out)
                          have r2 := Keep.quiet hqq _ _ (Keep.below HN.out.up _ _ (HG4.out.row s hsn))
                          have r3 := Keep.quiet hqq _ _ (Keep.below HN.out.up _ _ (HRC4.out q hqk))
                          have r4 := Keep.quiet hqq _ _ (Keep.below HN.out.up _ _ (HG4.out.cell s t hsn htn))
                          rw [ht] at r3
                          have hgb := HSQ.out.bd s t hsn htn
                          clear ht htm
                          generalize g2 a s t = G at *
                          generalize bk LX q = B at *
                          by_cases hneg : B < 0
                          · have hd : decide (B < 0) = true := by simpa using hneg
                            rw [if_pos (.inl hneg)] at HBK
                            go_wp2
                            go_quiet (fail)
                            go_wp2
                            go_quiet (fail)
                            go_wp2
                            go_roundw
                            case rel => exact ⟨q + 1, by omega, by go_num, congrArg (Value.int .i64) (by rw [HBK.out]), hqq.trans ⟨_, rfl⟩⟩
                            case measure => simp [intOf]; omega
                          · have hd : decide (B < 0) = false := by simpa using hneg
                            by_cases hlt : G < B
                            · have hd2 : decide (G < B) = true := by simpa using hlt
                              rw [if_pos (.inr hlt)] at HBK
                              go_wp2
                              go_quiet (fail)
                              go_wp2
                              go_quiet (fail)
                              go_wp2
                              go_roundw
                              case rel => exact ⟨q + 1, by omega, by go_num, congrArg (Value.int .i64) (by rw [HBK.out]), hqq.trans ⟨_, rfl⟩⟩
                              case measure => simp [intOf]; omega
                            · have hd2 : decide (G < B) = false := by simpa using hlt
                              rw [if_neg (fun h => h.elim hneg hlt)] at HBK
                              go_wp2
                              go_quiet (fail)
                              go_wp2
                              go_roundw
                              case rel => exact ⟨q + 1, by omega, by go_num, congrArg (Value.int .i64) (by rw [HBK.out]), hqq.trans ⟨_, rfl⟩⟩
                              case measure => simp [intOf]; omega
                        · have hqe : k = q := by omega
                          subst hqe
                          have HBE := Lib.hid (show lst LX = bk LX k by rw [← HLXL.out]; exact (bk_end (by rw [HLXL.out]; omega)).symm)
                          have HQ := Lib.hid (HN.out.next hqq.below)
                          rw [HBE.out] at HBS
                          generalize bk LX k = BV at *
                          clear HN hqq HLG HL0 HBE
                          have hb := below_alloc wr (.cells #[iv BV] 3)
                          have HB4 := Lib.hid (HQ.out.bi.below hb).own
                          have HN := Lib.hid (cell_one_new wr (iv BV) 3)
                          have hHs := HQ.out.hs
                          have hlh := HQ.out.lh
                          clear hb
                          obtain ⟨i0, hi0, hz0, hz1, hz2⟩ := info_parts Try.info_int
                          go_wp2_with (at_builtin; refine wpList_append_own_at _ rfl _ _ 36 rfl H 3 i0 (.int .i64 0) 1 8 Try.underlying36 hi0 hz0 hz1 hz2 rfl (by decide) _ (ys).length ((ys).map iv) rfl HB4.out ⟨wr.heap.size, 0, none⟩ 1 1 [iv BV] rfl rfl ?c1 ?c2 ?c3 ?c4 ?c5 ?_)
                          case c1 => exact HN.out
                          case c2 => intro u hu; simp at hu; subst hu; rfl
                          case c3 => have := HYL.out; unfold maxLen; omega
                          case c4 => have := HYL.out; omega
                          case c5 => simp; omega
                          intro v' w5 hown' hgrow _ hat
                          have HI5 := Lib.hid (HQ.out.push hown' hgrow (by simpa using hat))
                          clear HB4 HN hown' hgrow hat
                          obtain ⟨Ar, nr2, cr2, gr2, rfl, hnr2', HOW, -⟩ : ∃ A n c g, v' = .slice A n c ∧ n = (ys ++ [BV]).length ∧ OwnI H w5.heap.size w5 g A n c (ys ++ [BV]) ∧ True := by
                            obtain ⟨A, n, c, g, h1, h2, h3, _⟩ := HI5.out.bi.owns (by simp; have := HYL.out; omega) (fun z hz => by
                              rcases List.mem_append.1 hz with hz | hz
                              · have := HYW.out z hz; omega
                              · simp at hz; omega)
                            exact ⟨A, n, c, g, h1, h2, h3, trivial⟩
                          generalize ys ++ [BV] = zs at *
                          subst hnr2'
                          have HOW := Lib.hid HOW
                          clear HQ
                          have HB4 := Lib.hid (HI5.out.bo.below (below_alloc w5 (.cells #[.slice Ar (zs).length cr2] 36))).own
                          have HN := Lib.hid (cell_one_new w5 (.slice Ar (zs).length cr2) 36)
                          have hHs := HI5.out.hs
                          have hlh := HI5.out.lh
                          obtain ⟨i1, hi1, hy0, hy1, hy2⟩ := info_parts Try.info_row
                          go_wp2_with (at_builtin; refine wpList_append_own_at _ rfl _ _ 22 rfl w4.heap.size 36 i1 (.slice none 0 0) 1 24 Try.underlying22 hi1 hy0 hy1 hy2 rfl (by decide) _ (acc).length vs rfl HB4.out ⟨w5.heap.size, 0, none⟩ 1 1 [.slice Ar (zs).length cr2] rfl rfl (by exact HN.out) ?d2 ?d3 ?d4 ?d5 ?_)
                          case d2 => first | (intro u hu; simp at hu; subst hu; rfl) | rfl | simp [Value.oneCell']
                          case d3 => have := HLA.out; unfold maxLen; omega
                          case d4 => have := HLA.out; omega
                          case d5 => first | omega | (simp; omega)
                          intro v2 w6 hown' hgrow _ hat
                          have HT6 := Lib.hid (HI5.out.done HOW.out hown' hgrow (by simpa using hat))
                          clear HB4 HN hown' hgrow hat
                          have q1 := Keep.below HT6.out.up _ _ HOX.out
                          have HEX : Hid ((List.range (x + 1)).map (bsR a ring oth) = acc ++ [zs]) := Lib.hid (by rw [HACC.out, HBS.out])
                          clear HI5 HOW
                          by_cases hsr : s = r
                          · have hsr' : ((s : Int) == (r : Int)) = true := by simp [hsr]
                            have HY2 := Lib.hid (HYX.out hsr)
                            clear hsr
                            go_wp2
                            go_roundw
                            case rel => exact ⟨x + 1, _, by omega, by go_num, by rw [HY2.out], Lib.hid (by rw [HEX.out]; exact HT6.out)⟩
                            case measure => simp [intOf]; omega
                          · have hsr' : ((s : Int) == (r : Int)) = false := by rw [beq_eq_false_iff_ne]; omega
                            have HY2 := Lib.hid (HNX2.out hsr)
                            clear hsr
                            go_wp2
                            go_roundw
                            case rel => exact ⟨x + 1, _, by omega, by go_num, by rw [HY2.out], Lib.hid (by rw [HEX.out]; exact HT6.out)⟩
                            case measure => simp [intOf]; omega
                · have hxe : oth.length = x := by omega
                  subst hxe
                  have HNRI := Lib.hid (show nrI oth r oth.length = ((oth.idxOf r : Nat) : Int) by unfold nrI; rw [if_pos hix])
                  rw [HNRI.out]
                  have HACL := Lib.hid (show ((List.range oth.length).map (bsR a ring oth)).length ≤ 4 by simp; omega)
                  have HR0 := Lib.hid HT.out.row
                  have HBT : Hid (bsT a ways ring oth = (List.range oth.length).map (bsR a ring oth) ++ [bsZ a ways ring oth]) := Lib.hid rfl
                  have HBZ : Hid (bsZ a ways ring oth = (oth.map fun y => lst (bsL a ways ring y)) ++ [0]) := Lib.hid rfl
                  generalize (List.range oth.length).map (bsR a ring oth) = acc at *
                  go_wp2
                  generalize wr.alloc (.cells #[] 3) = wA at *
                  generalize wr.heap.size = H at *
                  go_loopw [20, 21] (fun u yv wr => ∃ y : Nat, y ≤ oth.length ∧ yv = .int .i64 y ∧ Hid (TN w4 H (.slice As acc.length cs_) vs acc u ((oth.take y).map fun y => lst (bsL a ways ring y)) wr)) (fun _ yv _ => oth.length - (intOf yv).toNat)
                  case atStart => exact ⟨0, Nat.zero_le _, rfl, HR0⟩
                  case round =>
                    clear HR0 HT
                    obtain ⟨y, hy, rfl, HN⟩ := hrel
                    obtain ⟨Au, cu, rfl⟩ := HN.out.bi.form
                    by_cases hym : y < oth.length
                    · have hen := HOB.out y hym
                      have HOY := Lib.hid (HOC.out y hym)
                      have HER := Lib.hid (HOR.out y hym)
                      have HTK := Lib.hid (take_map (fun y => lst (bsL a ways ring y)) hym)
                      have HYL := Lib.hid (show ((oth.take y).map fun y => lst (bsL a ways ring y)).length ≤ 4 by simp; omega)
                      generalize (oth.take y).map (fun y => lst (bsL a ways ring y)) = ys at *
                      generalize oth.getD y 0 = e at *
                      have HLXL : Hid ((bsL a ways ring e).length = k) := Lib.hid (by rw [bsL, List.length_map, ← HNR.out])
                      have HLG : Hid (∀ q t d : Nat, q < k → gi ring q = t → gi ways t = d → gi (bsL a ways ring e) q = g2 a t e - g2 a t d) := Lib.hid (fun q t d hq e1 e2 => by
                        have hq2 : q < ring.length := by rw [← HNR.out]; exact hq
                        rw [gi_get (by rw [bsL, List.length_map]; exact hq2)]
                        simp only [bsL, List.getElem_map]
                        rw [← gi_get hq2, e1]
                        simp only [Int.toNat_natCast]
                        rw [e2]
                        simp only [Int.toNat_natCast])
                      have HDS : Hid (∀ t, t < nw → ∃ d : Nat, gi ways t = d ∧ d < nw) := Lib.hid (fun t htn => by
                        have hd := HWI.out.bd t (by rw [HWL.out]; exact htn)
                        rw [HWL.out] at hd
                        exact ⟨(gi ways t).toNat, by omega, by omega⟩)
                      have HL0 : Hid (∀ q, q < (bsL a ways ring e).length → 0 ≤ gi (bsL a ways ring e) q ∧ gi (bsL a ways ring e) q ≤ 20) := Lib.hid (fun q hq => by
                        rw [HLXL.out] at hq
                        obtain ⟨t, ht, htn, htr, htm⟩ := HRSt.out q hq
                        obtain ⟨d, hd, hdn⟩ := HDS.out t htn
                        rw [HLG.out q t d hq ht hd]
                        have hne : e ≠ t := fun e2 => HER.out (by rw [e2]; exact htm)
                        have h1 := HTL.out t e htn hen htr hne
                        have h2 := HC.out.off t e htn hen (Ne.symm hne)
                        have h3 := HTN.out t htn htr
                        rw [hd] at h1 h3
                        simp only [Int.toNat_natCast] at h1 h3
                        have h5 := HC.out.off t d htn hdn (Ne.symm h3)
                        omega)
                      generalize bsL a ways ring e = LX at *
                      obtain ⟨wE, hwE⟩ : ∃ wE, wE = wr := ⟨_, rfl⟩
                      rw [← hwE] at HN ⊢
                      clear hwE
                      go_wp2
                      go_loopw [22, 23] (fun b qv wr => ∃ q : Nat, q ≤ k ∧ qv = .int .i64 q ∧ b = .int .i64 (bk LX q) ∧ Quiet wE wr) (fun _ qv _ => k - (intOf qv).toNat)
                      case atStart => exact ⟨0, Nat.zero_le _, rfl, rfl, Quiet.refl _⟩
                      case round =>
                        obtain ⟨q, hq, rfl, rfl, hqq⟩ := hrel
                        have hbb := bk_bd (L := LX) (lo := -1) (hi := 20) (fun j hj => ⟨by have := (HL0.out j hj).1; omega, (HL0.out j hj).2⟩) (by omega) (by omega) q (by rw [HLXL.out]; exact hq)
                        by_cases hqk : q < k
                        · obtain ⟨t, ht, htn, -, -⟩ := HRSt.out q hqk
                          obtain ⟨d, hd, hdn⟩ := HDS.out t htn
                          have HBK := Lib.hid (bk_step (L := LX) (k := q) (by rw [HLXL.out]; exact hqk) (fun j hj => (HL0.out j hj).1))
                          rw [HLG.out q t d hqk ht hd] at HBK
                          have r1 := Keep.quiet hqq _ _ (Keep.below HN.out.up _ _ HOY.out)
                          have r2 := Keep.quiet hqq _ _ (Keep.below HN.out.up _ _ (HG4.out.row t htn))
                          have r3 := Keep.quiet hqq _ _ (Keep.below HN.out.up _ _ (HRC4.out q hqk))
                          have r4 := Keep.quiet hqq _ _ (Keep.below HN.out.up _ _ (HG4.out.cell t e htn hen))
                          have r5 := Keep.quiet hqq _ _ (Keep.below HN.out.up _ _ (HTC4.out t htn))
                          have r6 := Keep.quiet hqq _ _ (Keep.below HN.out.up _ _ (HG4.out.cell t d htn hdn))
                          rw [ht] at r3
                          rw [hd] at r5
                          have hgb := HSQ.out.bd t e htn hen
                          have hgb2 := HSQ.out.bd t d htn hdn
                          clear ht hd
                          generalize g2 a t e = G1 at *
                          generalize g2 a t d = G2 at *
                          generalize bk LX q = B at *
                          by_cases hneg : B < 0
                          · have hd1 : decide (B < 0) = true := by simpa using hneg
                            rw [if_pos (.inl hneg)] at HBK
                            go_wp2
                            go_quiet (fail)
                            go_wp2
                            go_roundw
                            case rel => exact ⟨q + 1, by omega, by go_num, congrArg (Value.int .i64) (by rw [HBK.out]), hqq.trans ⟨_, rfl⟩⟩
                            case measure => simp [intOf]; omega
                          · have hd1 : decide (B < 0) = false := by simpa using hneg
                            by_cases hlt : G1 - G2 < B
                            · have hd2 : decide (G1 - G2 < B) = true := by simpa using hlt
                              rw [if_pos (.inr hlt)] at HBK
                              go_wp2
                              go_quiet (fail)
                              go_wp2
                              go_roundw
                              case rel => exact ⟨q + 1, by omega, by go_num, congrArg (Value.int .i64) (by rw [HBK.out]), hqq.trans ⟨_, rfl⟩⟩
                              case measure => simp [intOf]; omega
                            · have hd2 : decide (G1 - G2 < B) = false := by simpa using hlt
                              rw [if_neg (fun h => h.elim hneg hlt)] at HBK
                              go_wp2
                              go_quiet (fail)
                              go_wp2
                              go_roundw
                              case rel => exact ⟨q + 1, by omega, by go_num, congrArg (Value.int .i64) (by rw [HBK.out]), hqq.trans ⟨_, rfl⟩⟩
                              case measure => simp [intOf]; omega
                        · have hqe : k = q := by omega
                          subst hqe
                          have HBE := Lib.hid (show lst LX = bk LX k by rw [← HLXL.out]; exact (bk_end (by rw [HLXL.out]; omega)).symm)
                          have HQ := Lib.hid (HN.out.next hqq.below)
                          rw [HBE.out] at HTK
                          generalize bk LX k = BV at *
                          clear HN hqq HLG HL0 HBE
                          have hb := below_alloc wr (.cells #[iv BV] 3)
                          have HB4 := Lib.hid (HQ.out.bi.below hb).own
                          have HN := Lib.hid (cell_one_new wr (iv BV) 3)
                          have hHs := HQ.out.hs
                          have hlh := HQ.out.lh
                          clear hb
                          obtain ⟨i0, hi0, hz0, hz1, hz2⟩ := info_parts Try.info_int
                          go_wp2_with (at_builtin; refine wpList_append_own_at _ rfl _ _ 36 rfl H 3 i0 (.int .i64 0) 1 8 Try.underlying36 hi0 hz0 hz1 hz2 rfl (by decide) _ (ys).length ((ys).map iv) rfl HB4.out ⟨wr.heap.size, 0, none⟩ 1 1 [iv BV] rfl rfl ?c1 ?c2 ?c3 ?c4 ?c5 ?_)
                          case c1 => exact HN.out
                          case c2 => intro u hu; simp at hu; subst hu; rfl
                          case c3 => have := HYL.out; unfold maxLen; omega
                          case c4 => have := HYL.out; omega
                          case c5 => simp; omega
                          intro v' w5 hown' hgrow _ hat
                          have HI5 := Lib.hid (HQ.out.push hown' hgrow (by simpa using hat))
                          clear HB4 HN hown' hgrow hat
                          go_wp2
                          go_roundw
                          case rel => exact ⟨y + 1, by omega, by go_num, Lib.hid (by rw [HTK.out]; exact HI5.out)⟩
                          case measure => simp [intOf]; omega
                    · have hye : oth.length = y := by omega
                      subst hye
                      rw [List.take_length] at HN ⊢
                      have HYL : Hid ((oth.map fun y => lst (bsL a ways ring y)).length ≤ 4) := Lib.hid (by simp; omega)
                      have HYW : Hid (∀ v ∈ (oth.map fun y => lst (bsL a ways ring y)), -1000 ≤ v ∧ v ≤ 1000) := Lib.hid (fun v hv => by
                        obtain ⟨t, ht, rfl⟩ := List.mem_map.1 hv
                        obtain ⟨j, hj, rfl⟩ := List.getElem_of_mem ht
                        have h1 := HCB.out.off oth.length j (by omega) (by omega) (by omega)
                        rw [bs_my hj, List.getD_eq_getElem?_getD, List.getElem?_eq_getElem hj] at h1
                        simp only [Option.getD_some] at h1
                        omega)
                      generalize (oth.map fun y => lst (bsL a ways ring y)) = ys at *
                      have HQ := HN
                      clear HN
                      have hb := below_alloc wr (.cells #[iv 0] 3)
                      have HB4 := Lib.hid (HQ.out.bi.below hb).own
                      have HN := Lib.hid (cell_one_new wr (iv 0) 3)
                      have hHs := HQ.out.hs
                      have hlh := HQ.out.lh
                      clear hb
                      obtain ⟨i0, hi0, hz0, hz1, hz2⟩ := info_parts Try.info_int
                      go_wp2_with (at_builtin; refine wpList_append_own_at _ rfl _ _ 36 rfl H 3 i0 (.int .i64 0) 1 8 Try.underlying36 hi0 hz0 hz1 hz2 rfl (by decide) _ (ys).length ((ys).map iv) rfl HB4.out ⟨wr.heap.size, 0, none⟩ 1 1 [iv 0] rfl rfl ?c1 ?c2 ?c3 ?c4 ?c5 ?_)
                      case c1 => exact HN.out
                      case c2 => intro u hu; simp at hu; subst hu; rfl
                      case c3 => have := HYL.out; unfold maxLen; omega
                      case c4 => have := HYL.out; omega
                      case c5 => simp; omega
                      intro v' w5 hown' hgrow _ hat
                      have HI5 := Lib.hid (HQ.out.push hown' hgrow (by simpa using hat))
                      clear HB4 HN hown' hgrow hat
                      obtain ⟨Ar, nr2, cr2, gr2, rfl, hnr2', HOW, -⟩ : ∃ A n c g, v' = .slice A n c ∧ n = (ys ++ [0]).length ∧ OwnI H w5.heap.size w5 g A n c (ys ++ [0]) ∧ True := by
                        obtain ⟨A, n, c, g, h1, h2, h3, _⟩ := HI5.out.bi.owns (by simp; have := HYL.out; omega) (fun z hz => by
                          rcases List.mem_append.1 hz with hz | hz
                          · have := HYW.out z hz; omega
                          · simp at hz; omega)
                        exact ⟨A, n, c, g, h1, h2, h3, trivial⟩
                      generalize ys ++ [0] = zs at *
                      subst hnr2'
                      have HOW := Lib.hid HOW
                      clear HQ
                      have HB4 := Lib.hid (HI5.out.bo.below (below_alloc w5 (.cells #[.slice Ar (zs).length cr2] 36))).own
                      have HN := Lib.hid (cell_one_new w5 (.slice Ar (zs).length cr2) 36)
                      have hHs := HI5.out.hs
                      have hlh := HI5.out.lh
                      obtain ⟨i1, hi1, hy0, hy1, hy2⟩ := info_parts Try.info_row
                      go_wp2_with (at_builtin; refine wpList_append_own_at _ rfl _ _ 22 rfl w4.heap.size 36 i1 (.slice none 0 0) 1 24 Try.underlying22 hi1 hy0 hy1 hy2 rfl (by decide) _ (acc).length vs rfl HB4.out ⟨w5.heap.size, 0, none⟩ 1 1 [.slice Ar (zs).length cr2] rfl rfl (by exact HN.out) ?g2 ?g3 ?g4 ?g5 ?_)
                      case g2 => first | (intro u hu; simp at hu; subst hu; rfl) | rfl | simp [Value.oneCell']
                      case g3 => have := HACL.out; unfold maxLen; omega
                      case g4 => have := HACL.out; omega
                      case g5 => first | omega | (simp; omega)
                      intro v2 w6 hown' hgrow _ hat
                      have HT6 := Lib.hid (HI5.out.done HOW.out hown' hgrow (by simpa using hat))
                      clear HB4 HN hown' hgrow hat
                      rw [HBZ.out] at HBT
                      clear HI5 HOW
                      obtain ⟨A9, n9, c9, g9, rfl, hn9, ho9⟩ := HT6.out.bo.owns (by simp; have := HACL.out; omega)
                      have hr9 := ho9.rows
                      rw [← HBT.out] at hr9 hn9
                      rw [bsT_len] at hn9
                      subst hn9
                      have HIH := Lib.hid (IH.out (oth.length + 1) (by have := HLN.out; omega) A9 c9 _ (oth.idxOf r) w6 hr9 HCB.out (by omega))
                      clear hr9 ho9
                      go_wp2_with fail
                      refine HIH.out.mono ?_
                      rintro e w7 ⟨⟨v, rfl, hlf⟩, hb⟩
                      have hvb := LF.bd HCB.out hlf
                      have HF := Lib.hid (HSP.out v hlf)
                      rw [HSG.out] at HF
                      have HBL := Lib.hid (below_up (HB2.out.trans ((HB24.out.trans (HT6.out.up.mono HB24.out.size)).mono HB2.out.size)) hb)
                      clear hlf hb
                      go_wp2
                      go_ret
                      exact ⟨⟨_, rfl, HF.out⟩, HBL.out⟩
end Go.Proofs.Ytidoahicgiaodaa

/- Trees by rounds, by the model: the function itself. -/
namespace Go.Proofs.Ytidoahicgiaodaa
open Go.RowKit

set_option maxRecDepth 100000 in
set_option maxHeartbeats 1600000 in
theorem TreeByRounds_spec (A : Option Addr) (n c : Nat) (a : List (List Int)) (root : Int) (w : World) (hx : IntRows w A n c a) (hf : Fit root) :
    Calls Try.prog 27 #[.slice A n c, .int .i64 root] w (Ret (.int .i64 (TF a root)) w) := by
  have HX := Lib.hid hx
  have HL := Lib.hid hx.len
  have HF := Lib.hid hf
  have hmx := hx.max
  clear hx hf
  by_cases hv : VC a
  · have HC := Lib.hid (pb_true hv ▸ validCosts_any A n c a w HX.out)
    have h1 := hv.n1
    have h4 := hv.n4
    rw [HL.out] at h1 h4
    by_cases hr : InR root 0 ((n : Int) - 1)
    · have QR := Lib.hid (fun W => pb_true hr ▸ inRange_any root 0 ((n : Int) - 1) W)
      have HP := Lib.hid (show TF a root = bw a n root.toNat (n ^ n) by rw [TF, pb_true hv, pb_true (p := Blw a.length root) ⟨hr.1, by have := hr.2; rw [HL.out]; omega⟩, HL.out]; rfl)
      unfold InR at hr
      obtain ⟨r, rfl⟩ : ∃ r : Nat, root = r := ⟨root.toNat, by omega⟩
      have hrn : r < n := by omega
      simp only [Int.toNat_natCast] at HP
      have HBL := Lib.hid (LeastT.f.1 (bw_least hv HL.out hrn))
      have HCB := Lib.hid hv.cb
      rw [HL.out] at HCB
      clear hv hr HF
      go_enter Try.func27, Try.ntmps27
      go_wp2_with fail
      refine HC.out.mono ?_
      rintro e w1 ⟨rfl, hq⟩
      have HB := Lib.hid (Quiet.below (B := w.heap.size) hq)
      have HX1 := Lib.hid (HX.out.keep (Keep.quiet hq))
      clear hq HC HX
      go_wp2_with fail
      refine (QR.out _).mono ?_
      rintro e w2 ⟨rfl, rfl⟩
      clear QR
      go_wp2_with fail
      refine (byRounds_any n n (Nat.le_refl _) A c a r w1 HX1.out HCB.out hrn).mono ?_
      rintro e w2 ⟨⟨v, rfl, hv⟩, hb⟩
      have HE := Lib.hid (show v = TF a (r : Int) by rw [HP.out]; exact hv.one HBL.out)
      have HB2 := Lib.hid (below_up HB.out hb)
      clear hb hv
      go_wp2
      go_ret
      exact ⟨ret_int HE.out, HB2.out⟩
    · have QR := Lib.hid (fun W => pb_false hr ▸ inRange_any root 0 ((n : Int) - 1) W)
      have HP := Lib.hid (show TF a root = -1 by
        rw [TF, pb_false (p := Blw a.length root) (fun h => hr ⟨h.1, by have := h.2; rw [HL.out] at this; omega⟩), Bool.and_false]; rfl)
      clear hv hr
      go_enter Try.func27, Try.ntmps27
      go_wp2_with fail
      refine HC.out.mono ?_
      rintro e w1 ⟨rfl, hq⟩
      have HB := Lib.hid (Quiet.below (B := w.heap.size) hq)
      clear hq HC HX
      go_wp2_with fail
      refine (QR.out _).mono ?_
      rintro e w2 ⟨rfl, rfl⟩
      clear QR
      go_wp2
      go_ret
      exact ⟨ret_int HP.out.symm, HB.out⟩
  · have HC := Lib.hid (pb_false hv ▸ validCosts_any A n c a w HX.out)
    have HP := Lib.hid (show TF a root = -1 by rw [TF, pb_false hv, Bool.false_and]; rfl)
    clear hv
    go_enter Try.func27, Try.ntmps27
    go_wp2_with fail
    refine HC.out.mono ?_
    rintro e w1 ⟨rfl, hq⟩
    have HB := Lib.hid (Quiet.below (B := w.heap.size) hq)
    clear hq HC HX
    go_wp2
    go_ret
    exact ⟨ret_int HP.out.symm, HB.out⟩
end Go.Proofs.Ytidoahicgiaodaa

