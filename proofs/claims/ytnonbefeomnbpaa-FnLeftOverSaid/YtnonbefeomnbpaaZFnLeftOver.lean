/- The law FnLeftOver holds: whatever the bytes, of the game that is drawn from them the program leaves over what the model does, the same with both players exchanged, with all rests in it, and ascending. No condition. -/
import Derived.Test.YtnonbefeomnbpaaQ11
import Derived.Deep.RegionHeld3
namespace Go.Proofs.Ytnonbefeomnbpaa
open Go.ChangeShapes Go.WideShapes Go.ChangeAt Go.RowKit Go.Deep

/-- What is known all along: the game, and what is left over of it. -/
structure LVo (w : World) (h : Nat) (Aa : Option Addr) (na ca : Nat) (xa : List (List Int)) (Ab : Option Addr) (nb cb : Nat) (xb : List (List Int)) (A1 : Option Addr) (c1 : Nat) (R : List Int) (A2 : Option Addr) (c2 : Nat) (C : List Int) (W : World) : Prop where
  gw : GW w h Aa na ca xa Ab nb cb xb W
  r : Ints W A1 R.length c1 R
  c : Ints W A2 C.length c2 C
theorem LVo.up {w h Aa na ca xa Ab nb cb xb A1 c1 R A2 c2 C W W'} (o : LVo w h Aa na ca xa Ab nb cb xb A1 c1 R A2 c2 C W) (k : Below W.heap.size W W') : LVo w h Aa na ca xa Ab nb cb xb A1 c1 R A2 c2 C W' :=
  ⟨o.gw.up k, o.r.keep (Keep.below k), o.c.keep (Keep.below k)⟩
theorem pureR_two {xs ys : List (List Int)} (v : VG xs ys) : ∀ r ∈ pureR xs ys, ∃ i j : Nat, r = [(i : Int), (j : Int)] ∧ i < xs.length ∧ j < (gr xs 0).length ∧ RestAt xs ys xs.length (gr xs 0).length i j := fun r hr => by
  rw [pureR, if_pos (pb_true v), allRests_mem] at hr
  obtain ⟨i, j, hi, hj, e, h⟩ := hr
  exact ⟨i, j, e, hi, hj, h⟩
theorem LoIs.asc {xs ys : List (List Int)} {R C : List Int} (h : LoIs xs ys R C) : AscL R ∧ AscL C := by
  rcases h with ⟨_, rfl, rfl⟩ | ⟨_, k, _, rfl, rfl⟩
  · exact ⟨fun j _ h => absurd h (by simp), fun j _ h => absurd h (by simp)⟩
  · exact ⟨selL_ascO _ _, selL_ascO _ _⟩
theorem pureR_offs2 (a b : List (List Int)) : (pureR a b).length ≤ 100 := by
  unfold pureR
  split
  · rename_i h
    have v := pb_iff.1 h
    have h1 := allRests_len a b a.length (gr a 0).length v.ta.m3 a.length
    have h2 := v.ta.n3
    omega
  · simp
theorem mem_has {xs : List Int} {x : Int} (h : x ∈ xs) : HasN xs x := by
  obtain ⟨k, hk, e⟩ := List.mem_iff_getElem.1 h
  exact ⟨k, hk, by rw [gi_get hk]; exact e⟩

set_option maxRecDepth 100000 in
set_option maxHeartbeats 12800000 in
theorem fnLeftOver_calls (A : Option Addr) (n c : Nat) (w : World) (hx : Bytes w A n c) :
    Calls Try.prog 13 #[.slice A n c] w fun e w' => e = .returned (.bool true) ∧ Below w.heap.size w w' := by
  have hmx := hx.max
  have H0 := Lib.hid (DrawLeftOver_any A n c w hx)
  clear hx
  by_cases hs : 1048576 < n
  · go_enter Try.func13, Try.ntmps13
    go_wp2
    go_ret
    exact ⟨rfl, Below.refl _ _⟩
  go_enter Try.func13, Try.ntmps13
  go_wp2_with fail
  refine H0.out.mono ?_
  rintro e w1 ⟨Aa, na, ca, xa, Ab, nb, cb, xb, rfl, sa, sb, ra, rb, hb⟩
  have HSA := Lib.hid sa
  have HSB := Lib.hid sb
  have HLA := Lib.hid ra.len
  have HLB := Lib.hid rb.len
  have HG := Lib.hid (GW.start hb ra rb)
  clear sa sb ra rb hb H0
  have c0 := HG.out.cells.1
  have c1_ := HG.out.cells.2
  have HC := Lib.hid (LeftOver_impl Aa Ab na ca nb cb xa xb _ HG.out.ra HG.out.rb)
  go_wp2_with fail
  generalize w1.alloc (.cells #[.slice Aa na ca, .slice Ab nb cb] 29) = W1 at *
  generalize w1.heap.size = h at *
  refine HC.out.mono ?_
  rintro e w2 hl
  obtain ⟨R, C, hrc, A1, n1, c1, g1, A2, n2, c2, g2_, rfl, hn1, hn2, o1, o2, hb, -⟩ := hl.lists
  have HRC := Lib.hid hrc
  subst hn1
  subst hn2
  have HL2 := Lib.hid (LVo.mk (HG.out.up hb) o1.ints o2.ints)
  clear hl hrc o1 o2 hb HC HG c0 c1_
  have c0 := HL2.out.gw.cells.1
  have c1_ := HL2.out.gw.cells.2
  have HC := Lib.hid (LeftOver_spec Aa Ab na ca nb cb xa xb _ HL2.out.gw.ra HL2.out.gw.rb)
  go_wp2_with fail
  refine HC.out.mono ?_
  rintro e w3 hl
  obtain ⟨R', C', hrc, A3, n3, c3, g3, A4, n4, c4, g4, rfl, hn3, hn4, o3, o4, hb⟩ := hl.lists
  have he := hrc.one HRC.out
  have he1 := he.1
  have he2 := he.2
  subst he1
  subst he2
  subst hn3
  subst hn4
  have HL3 := Lib.hid (HL2.out.up hb)
  have HU := Lib.hid o3.ints
  have HV := Lib.hid o4.ints
  clear hl hrc he o3 o4 hb HC HL2 c0 c1_
  have HE1 := Lib.hid (show eqI R' R' = true by simp [eqI])
  have HE2 := Lib.hid (show eqI C' C' = true by simp [eqI])
  have HC := Lib.hid (HE1.out ▸ equalInts_any _ _ _ _ _ _ R' R' w3 HL3.out.r HU.out)
  go_wp2_with fail
  refine HC.out.mono ?_
  rintro e w4 ⟨rfl, hq⟩
  have HL4 := Lib.hid (HL3.out.up hq.below)
  have HU4 := Lib.hid (HU.out.keep (Keep.quiet hq))
  have HV4 := Lib.hid (HV.out.keep (Keep.quiet hq))
  clear hq HC HL3 HU HV
  have HC := Lib.hid (HE2.out ▸ equalInts_any _ _ _ _ _ _ C' C' w4 HL4.out.c HV4.out)
  go_wp2_with fail
  refine HC.out.mono ?_
  rintro e w5 ⟨rfl, hq⟩
  have HL5 := Lib.hid (HL4.out.up hq.below)
  have HU5 := Lib.hid (HU4.out.keep (Keep.quiet hq))
  have HV5 := Lib.hid (HV4.out.keep (Keep.quiet hq))
  clear hq HC HL4 HU4 HV4
  have HLE := Lib.hid HRC.out.le
  have hle1 := HLE.out.1
  by_cases hz : R'.length = 0
  · have hz1 : (((R'.length : Nat) : Int) == 0) = true := by rw [hz]; rfl
    have HC := Lib.hid (HE1.out ▸ equalInts_any _ _ _ _ _ _ R' R' w5 HL5.out.r HU5.out)
    have HZ := Lib.hid hz
    clear hz
    go_wp2_with fail
    refine HC.out.mono ?_
    rintro e w6 ⟨rfl, hq⟩
    have HL6 := Lib.hid (HL5.out.up hq.below)
    have HV6 := Lib.hid (HV5.out.keep (Keep.quiet hq))
    clear hq HC HL5 HU5 HV5
    have HC := Lib.hid (HE2.out ▸ equalInts_any _ _ _ _ _ _ C' C' w6 HL6.out.c HV6.out)
    go_wp2_with fail
    refine HC.out.mono ?_
    rintro e w7 ⟨rfl, hq⟩
    have HB := Lib.hid (HL6.out.up hq.below).gw.below
    clear hq HC HL6 HV6
    go_wp2
    go_ret
    exact ⟨rfl, HB.out⟩
  · have hz1 : (((R'.length : Nat) : Int) == 0) = false := by rw [beq_eq_false_iff_ne]; omega
    have hv : VG xa xb := by
      rcases HRC.out with ⟨_, e, _⟩ | ⟨v, _⟩
      · rw [e] at hz; exact absurd rfl hz
      · exact v
    have HVG := Lib.hid hv
    have HORD : Hid (∀ X Y, LoIs (flip xb nb (gr xb 0).length) (flip xa na (gr xa 0).length) X Y → C' = X ∧ R' = Y) := Lib.hid (fun X Y h => (fun k : X = C' ∧ Y = R' => ⟨k.1.symm, k.2.symm⟩) (lo_order hv HRC.out (by rw [HLA.out, HLB.out]; exact h)))
    have HREST := Lib.hid (pureR_two hv)
    have HIN : Hid (∀ i j : Nat, i < xa.length → j < (gr xa 0).length → RestAt xa xb xa.length (gr xa 0).length i j → pb (HasN R' (i : Int)) = true ∧ pb (HasN C' (j : Int)) = true) := Lib.hid (fun i j hi hj hr => by
      have := lo_rest hv HRC.out hi hj hr
      exact ⟨pb_true (mem_has this.1), pb_true (mem_has this.2)⟩)
    have HASC := Lib.hid HRC.out.asc
    have HFB := Lib.hid (fun W (r : IntRows W Ab nb cb xb) => flipped_any Ab nb cb (gr xb 0).length xb W r HSB.out (by have := HLB.out; have := HVG.out.tb.n1; omega) HVG.out.tb.even)
    have HFA := Lib.hid (fun W (r : IntRows W Aa na ca xa) => flipped_any Aa na ca (gr xa 0).length xa W r HSA.out (by have := HLA.out; have := HVG.out.ta.n1; omega) HVG.out.ta.even)
    have HE := Lib.hid (HL5.out.up ((Below.refl _ _).drew))
    have HPRL := Lib.hid (pureR_offs2 xa xb)
    have HZ := Lib.hid hz
    clear hz hv HL5 HU5 HV5
    go_wp2_with fail
    refine wp_region_held_drew (S := (fun W => W.cell? ⟨h, 0, none⟩ = some (.slice Aa na ca) ∧ W.cell? ⟨h, 1, none⟩ = some (.slice Ab nb cb))) (by kernel_rfl) HE.out.gw.cells (fun hHeld => ?_)
    refine wpAnyH_take (i := 0) (oi := { dst := some 51, op := Go.Op.fieldAddr 29 (Go.Operand.tmp 3) 1, type := 0, pos := "laws.go:279", after := #[], guard := none }) (v := ?_) rfl (by kernel_rfl) (by kernel_rfl) (by kernel_rfl) (fun _ _ _ h => h) (Or.inl ⟨by rfl, ?_⟩) (by assumption) ?_
    rotate_left
    · (intro w hSw; (try dsimp only at hSw); go_simp; try with_reducible rfl)
    simp only [Act.put, List.setIfInBounds_toArray, List.set_cons_zero, List.set_cons_succ]
    refine wpAnyH_take (i := 1) (oi := { dst := some 52, op := Go.Op.load 23 (Go.Operand.tmp 51), type := 23, pos := "laws.go:279", after := #[{ on := 0, ground := Go.Ground.data }], guard := none }) (v := ?_) rfl (by kernel_rfl) (by kernel_rfl) (by kernel_rfl) (fun _ _ _ h => h) (Or.inl ⟨by rfl, ?_⟩) (by assumption) ?_
    rotate_left
    · (intro w hSw; (try dsimp only at hSw); go_simp; try with_reducible rfl)
    simp only [Act.put, List.setIfInBounds_toArray, List.set_cons_zero, List.set_cons_succ]
    refine wpAnyH_take (i := 3) (oi := { dst := some 54, op := Go.Op.fieldAddr 29 (Go.Operand.tmp 3) 0, type := 0, pos := "laws.go:279", after := #[], guard := none }) (v := ?_) rfl (by kernel_rfl) (by kernel_rfl) (by kernel_rfl) (fun _ _ _ h => h) (Or.inl ⟨by rfl, ?_⟩) (by assumption) ?_
    rotate_left
    · (intro w hSw; (try dsimp only at hSw); go_simp; try with_reducible rfl)
    simp only [Act.put, List.setIfInBounds_toArray, List.set_cons_zero, List.set_cons_succ]
    refine wpAnyH_take (i := 4) (oi := { dst := some 55, op := Go.Op.load 23 (Go.Operand.tmp 54), type := 23, pos := "laws.go:279", after := #[{ on := 3, ground := Go.Ground.data }], guard := none }) (v := ?_) rfl (by kernel_rfl) (by kernel_rfl) (by kernel_rfl) (fun _ _ _ h => h) (Or.inl ⟨by rfl, ?_⟩) (by assumption) ?_
    rotate_left
    · (intro w hSw; (try dsimp only at hSw); go_simp; try with_reducible rfl)
    simp only [Act.put, List.setIfInBounds_toArray, List.set_cons_zero, List.set_cons_succ]
    refine wpAnyH_ready (rs := [2]) (by kernel_rfl) (by simp) ?_
    refine AllReadyH.cons (o := { dst := some 53, op := Go.Op.call { callee := Go.Callee.value (Go.Operand.func 17), args := #[Go.Operand.tmp 52], argTypes := #[23] }, type := 23, pos := "laws.go:279", after := #[{ on := 1, ground := Go.Ground.data }], guard := none }) rfl (fun K hK => ?_) AllReadyH.nil
    go_simp
    go_at_call 17
    refine (HFB.out _ HE.out.gw.rb).mono ?_
    rintro e v8 ⟨A3, n3, c3, g3, rfl, hn3, ho, hb⟩
    have HF := Lib.hid (HE.out.up hb)
    have R2 := Lib.hid ho.rows
    clear hn3 ho hb HE
    refine hK.out _ _ HF.out.gw.cells (fun hHeld => ?_)
    clear hK K
    try simp only [Act.put, List.setIfInBounds_toArray, List.set_cons_zero, List.set_cons_succ]
    refine wpAnyH_ready (rs := [5]) (by kernel_rfl) (by simp) ?_
    refine AllReadyH.cons (o := { dst := some 56, op := Go.Op.call { callee := Go.Callee.value (Go.Operand.func 17), args := #[Go.Operand.tmp 55], argTypes := #[23] }, type := 23, pos := "laws.go:279", after := #[{ on := 4, ground := Go.Ground.data }, { on := 2, ground := Go.Ground.chain }], guard := none }) rfl (fun K hK => ?_) AllReadyH.nil
    go_simp
    go_at_call 17
    refine (HFA.out _ HF.out.gw.ra).mono ?_
    rintro e v9 ⟨A4, n4, c4, g4, rfl, hn4, ho, hb⟩
    have HK := Lib.hid (HF.out.up hb)
    have R3 := Lib.hid ho.rows
    have R4 := Lib.hid (R2.out.keep (Keep.below hb))
    clear hn4 ho hb HF R2
    refine hK.out _ _ HK.out.gw.cells (fun hHeld => ?_)
    clear hK K
    try simp only [Act.put, List.setIfInBounds_toArray, List.set_cons_zero, List.set_cons_succ]
    refine wpAnyH_take (i := 6) (oi := { dst := some 57, op := Go.Op.build 29 #[(0, Go.Operand.tmp 53), (1, Go.Operand.tmp 56)], type := 29, pos := "laws.go:279", after := #[{ on := 2, ground := Go.Ground.data }, { on := 5, ground := Go.Ground.data }], guard := none }) (v := ?_) rfl (by kernel_rfl) (by kernel_rfl) (by kernel_rfl) (fun _ _ _ h => h) (Or.inl ⟨by rfl, ?_⟩) (by assumption) ?_
    rotate_left
    · (intro w hSw; (try dsimp only at hSw); go_simp; try with_reducible rfl)
    simp only [Act.put, List.setIfInBounds_toArray, List.set_cons_zero, List.set_cons_succ]
    refine wpAnyH_ready (rs := [7]) (by kernel_rfl) (by simp) ?_
    refine AllReadyH.cons (o := { dst := some 58, op := Go.Op.call { callee := Go.Callee.value (Go.Operand.func 43), args := #[Go.Operand.tmp 57], argTypes := #[29] }, type := 46, pos := "laws.go:279", after := #[{ on := 6, ground := Go.Ground.data }, { on := 5, ground := Go.Ground.chain }], guard := none }) rfl (fun K hK => ?_) AllReadyH.nil
    go_simp
    go_at_call 43
    refine (LeftOver_impl A3 A4 n3 c3 n4 c4 _ _ _ R4.out R3.out).mono ?_
    rintro e v10 hl
    obtain ⟨X, Y, hxy, A5, n5, c5, g5, A6, n6, c6, g6, rfl, hn5, hn6, o5, o6, hb, -⟩ := hl.lists
    have HXY := Lib.hid (HORD.out X Y hxy)
    have hxc := HXY.out.1
    have hyr := HXY.out.2
    subst hxc
    subst hyr
    subst hn5
    subst hn6
    have HM := Lib.hid (HK.out.up hb)
    have HX5 := Lib.hid o5.ints
    have HX6 := Lib.hid o6.ints
    clear hl hxy o5 o6 hb HK R3 R4 HXY
    refine hK.out _ _ HM.out.gw.cells (fun hHeld => ?_)
    clear hK K
    try simp only [Act.put, List.setIfInBounds_toArray, List.set_cons_zero, List.set_cons_succ]
    refine wpAnyH_take (i := 8) (oi := { dst := some 50, op := Go.Op.move (Go.Operand.tmp 58), type := 46, pos := "laws.go:279", after := #[{ on := 7, ground := Go.Ground.data }], guard := none }) (v := ?_) rfl (by kernel_rfl) (by kernel_rfl) (by kernel_rfl) (fun _ _ _ h => h) (Or.inl ⟨by rfl, ?_⟩) (by assumption) ?_
    rotate_left
    · (intro w hSw; (try dsimp only at hSw); go_simp; try with_reducible rfl)
    simp only [Act.put, List.setIfInBounds_toArray, List.set_cons_zero, List.set_cons_succ]
    refine wpAnyH_take (i := 9) (oi := { dst := some 59, op := Go.Op.extract (Go.Operand.tmp 50) 0, type := 34, pos := "laws.go:279", after := #[{ on := 8, ground := Go.Ground.data }], guard := none }) (v := ?_) rfl (by kernel_rfl) (by kernel_rfl) (by kernel_rfl) (fun _ _ _ h => h) (Or.inl ⟨by rfl, ?_⟩) (by assumption) ?_
    rotate_left
    · (intro w hSw; (try dsimp only at hSw); go_simp; try with_reducible rfl)
    simp only [Act.put, List.setIfInBounds_toArray, List.set_cons_zero, List.set_cons_succ]
    refine wpAnyH_take (i := 10) (oi := { dst := some 60, op := Go.Op.extract (Go.Operand.tmp 50) 1, type := 34, pos := "laws.go:279", after := #[{ on := 8, ground := Go.Ground.data }, { on := 11, ground := Go.Ground.gcOnly Go.Departure.lateStores }], guard := none }) (v := ?_) rfl (by kernel_rfl) (by kernel_rfl) (by kernel_rfl) (fun _ _ _ h => h) (Or.inl ⟨by rfl, ?_⟩) (by assumption) ?_
    rotate_left
    · (intro w hSw; (try dsimp only at hSw); go_simp; try with_reducible rfl)
    simp only [Act.put, List.setIfInBounds_toArray, List.set_cons_zero, List.set_cons_succ]
    refine wpAnyH_take (i := 11) (oi := { dst := some 8, op := Go.Op.assign (Go.Operand.tmp 59), type := 34, pos := "laws.go:279", after := #[{ on := 9, ground := Go.Ground.data }, { on := 7, ground := Go.Ground.chain }, { on := 0, ground := Go.Ground.phase }, { on := 1, ground := Go.Ground.phase }, { on := 2, ground := Go.Ground.phase }, { on := 3, ground := Go.Ground.phase }, { on := 4, ground := Go.Ground.phase }, { on := 5, ground := Go.Ground.phase }, { on := 6, ground := Go.Ground.phase }, { on := 7, ground := Go.Ground.phase }, { on := 8, ground := Go.Ground.phase }, { on := 9, ground := Go.Ground.phase }, { on := 10, ground := Go.Ground.textOnly Go.Departure.lateStores }], guard := none }) (v := ?_) rfl (by kernel_rfl) (by kernel_rfl) (by kernel_rfl) (fun _ _ _ h => h) (Or.inl ⟨by rfl, ?_⟩) (by assumption) ?_
    rotate_left
    · (intro w hSw; (try dsimp only at hSw); go_simp; try with_reducible rfl)
    simp only [Act.put, List.setIfInBounds_toArray, List.set_cons_zero, List.set_cons_succ]
    refine wpAnyH_take (i := 12) (oi := { dst := some 9, op := Go.Op.assign (Go.Operand.tmp 60), type := 34, pos := "laws.go:279", after := #[{ on := 10, ground := Go.Ground.data }, { on := 11, ground := Go.Ground.chain }, { on := 0, ground := Go.Ground.phase }, { on := 1, ground := Go.Ground.phase }, { on := 2, ground := Go.Ground.phase }, { on := 3, ground := Go.Ground.phase }, { on := 4, ground := Go.Ground.phase }, { on := 5, ground := Go.Ground.phase }, { on := 6, ground := Go.Ground.phase }, { on := 7, ground := Go.Ground.phase }, { on := 8, ground := Go.Ground.phase }, { on := 9, ground := Go.Ground.phase }, { on := 10, ground := Go.Ground.phase }, { on := 11, ground := Go.Ground.phase }], guard := none }) (v := ?_) rfl (by kernel_rfl) (by kernel_rfl) (by kernel_rfl) (fun _ _ _ h => h) (Or.inl ⟨by rfl, ?_⟩) (by assumption) ?_
    rotate_left
    · (intro w hSw; (try dsimp only at hSw); go_simp; try with_reducible rfl)
    simp only [Act.put, List.setIfInBounds_toArray, List.set_cons_zero, List.set_cons_succ]
    refine wpAnyH_done (by kernel_rfl) ?_ _
    have c0 := HM.out.gw.cells.1
    have c1_ := HM.out.gw.cells.2
    have HC := Lib.hid (PureRests_impl Aa Ab na ca nb cb xa xb _ HM.out.gw.ra HM.out.gw.rb)
    clear HFA HFB HORD
    go_wp2_with fail
    refine HC.out.mono ?_
    rintro e w6 ⟨Ao, no_, co, go, rfl, hno, oo, hb⟩
    have HL6 := Lib.hid (HM.out.up hb)
    have HO6 := Lib.hid oo.rows
    have HX6_ := Lib.hid (HX6.out.keep (Keep.below hb))
    have HX5_ := Lib.hid (HX5.out.keep (Keep.below hb))
    subst hno
    clear hb HC HM oo HX5 HX6 c0 c1_
    generalize hro : pureR xa xb = ro at *
    clear hro
    have hro9 := HPRL.out
    go_wp2
    go_loopw [11] (fun k_ wr => ∃ k : Nat, k ≤ ro.length ∧ k_ = .int .i64 k ∧ Quiet w6 wr) (fun k_ _ => ro.length - (intOf k_).toNat)
    case atStart => exact ⟨0, Nat.zero_le _, rfl, Quiet.refl _⟩
    case round =>
      obtain ⟨k, hk, rfl, hq⟩ := hrel
      have HQ := Lib.hid hq
      clear hq
      by_cases hkl : k < ro.length
      · obtain ⟨i, j, er, hi, hj, hr⟩ := HREST.out _ (gr_mem hkl)
        obtain ⟨bo, oo, rfl, hco⟩ := (HO6.out.keep (Keep.quiet HQ.out)).at_ (by omega)
        obtain ⟨Rr, cr, r1, hRr⟩ := hco k hkl
        rw [er] at r1 hRr
        obtain ⟨br, orr, rfl, hcr⟩ := hRr.at_ (by simp)
        have q1 : wr.cell? ⟨br, orr, none⟩ = some (.int .i64 (i : Int)) := hcr 0 (by simp)
        have q2 : wr.cell? ⟨br, orr + 1, none⟩ = some (.int .i64 (j : Int)) := hcr 1 (by simp)
        replace r1 : wr.cell? ⟨bo, oo + k, none⟩ = some (.slice (some ⟨br, orr, none⟩) 2 cr) := r1
        obtain ⟨hi2, hj2⟩ := HIN.out i j hi hj hr
        have HL := Lib.hid (HL6.out.up (HQ.out.below))
        have HC1 := Lib.hid (hi2 ▸ isIn_any A1 _ _ R' (i : Int) wr HL.out.r)
        have HC2 := Lib.hid (fun W (q : Quiet wr W) => hj2 ▸ isIn_any A2 _ _ C' (j : Int) W (HL.out.c.keep (Keep.quiet q)))
        have hki : (k : Int) < (ro.length : Int) := by omega
        clear hco hRr hcr er hi hj hr hi2 hj2
        go_wp2_with fail
        refine HC1.out.mono ?_
        rintro e v1 ⟨rfl, q, rfl⟩
        have HC2 := Lib.hid (HC2.out _ ⟨q, rfl⟩)
        have r1 : (wr.drewN q).cell? ⟨bo, oo + k, none⟩ = some (.slice (some ⟨br, orr, none⟩) 2 cr) := r1
        have q2 : (wr.drewN q).cell? ⟨br, orr + 1, none⟩ = some (.int .i64 (j : Int)) := q2
        go_wp2_with fail
        refine HC2.out.mono ?_
        rintro e v2 ⟨rfl, q', rfl⟩
        have HQ2 := Lib.hid (show Quiet w6 (wr.drewN (q + q')) from HQ.out.trans ⟨q + q', rfl⟩)
        clear HC1 HC2 HL
        go_wp2
        go_roundw
        case rel => exact ⟨k + 1, by omega, by go_num, HQ2.out⟩
        case measure => simp [intOf]; omega
      · obtain rfl : k = ro.length := by omega
        have HL := Lib.hid (HL6.out.up (HQ.out.below))
        have HY5 := Lib.hid (HX5_.out.keep (Keep.quiet HQ.out))
        have HY6 := Lib.hid (HX6_.out.keep (Keep.quiet HQ.out))
        have HC := Lib.hid (HE2.out ▸ equalInts_any _ _ _ _ _ _ C' C' wr HY5.out HL.out.c)
        go_wp2_with fail
        refine HC.out.mono ?_
        rintro e v1 ⟨rfl, hq⟩
        have HL1 := Lib.hid (HL.out.up hq.below)
        have HY6 := Lib.hid (HY6.out.keep (Keep.quiet hq))
        clear hq HC HL HY5
        have HC := Lib.hid (HE1.out ▸ equalInts_any _ _ _ _ _ _ R' R' v1 HY6.out HL1.out.r)
        go_wp2_with fail
        refine HC.out.mono ?_
        rintro e v2 ⟨rfl, hq⟩
        have HL2 := Lib.hid (HL1.out.up hq.below)
        clear hq HC HL1 HY6
        have HC := Lib.hid (ascends_any A1 _ _ R' v2 HL2.out.r HASC.out.1)
        go_wp2_with fail
        refine HC.out.mono ?_
        rintro e v3 ⟨rfl, hq⟩
        have HL3 := Lib.hid (HL2.out.up hq.below)
        clear hq HC HL2
        have HC := Lib.hid (ascends_any A2 _ _ C' v3 HL3.out.c HASC.out.2)
        go_wp2_with fail
        refine HC.out.mono ?_
        rintro e v4 ⟨rfl, hq⟩
        have HB := Lib.hid (HL3.out.up hq.below).gw.below
        clear hq HC HL3
        go_wp2
        go_ret
        exact ⟨rfl, HB.out⟩

set_option maxRecDepth 100000 in
theorem hFnLeftOver_lifted (os : Os) (started : os.Started) (H : Type) (enc : TypeId × Value → H) :
    ReturnsInHanded {} Try.checked os 13 .any (Rows.fnLeftOverSpec.pre6 enc Try.prog Try.f13 Rows.fnLeftOverRow.domain false) (Rows.fnLeftOverSpec.post enc Try.prog Try.f13 false true false false) := by
  refine returnsInHanded_of_change_sized (C := Try.checked) Try.own started (by kernel_rfl) Try.func13
    (ChangeSpec.witness6 (enc := enc) (C := Try.checked) false ⟨#[], #[.slice none 0 0], []⟩ 8 (by kernel_rfl) (by kernel_rfl) (by kernel_rfl) (by kernel_rfl)) ?_
  intro W base args ds gs before hval0 hW _ hwt _
  have hval : ∀ (j : Nat) t v, Try.f13.params[j]? = some t → args[j]? = some v → Value.okWide Try.prog W .any base t v := hval0
  have hA : ∃ p, DataW.TrodAll enc Try.prog W 0 (fun _ => true) true Try.f13.params.toList args.toList ds p := by obtain ⟨p, q, hA0, _⟩ := hW; exact ⟨p, hA0⟩
  obtain ⟨p, hA⟩ := hA
  have hwt' := weights_arg hwt (j := 0) (t := 22) (by rw [Try.params13]; rfl) (d := ds.getD 0 .nil)
  rw [Try.params13] at hA hval
  obtain ⟨v0, d0, rfl, rfl, h0⟩ := trodAll_one hA
  obtain ⟨A, n, c, rfl, hx⟩ := open_bytes (hval 0 22 v0 rfl rfl) h0 (hwt' rfl)
  refine (fnLeftOver_calls A n c W hx).mono fun e W' ⟨he, hb⟩ => ?_
  subst he
  exact ⟨_, rfl, law_post (F := Try.f13) rfl rfl (by rw [Try.params13]; simp only [List.mem_cons, List.not_mem_nil, or_false, forall_eq]; exact ⟨by kernel_rfl, of_decide_eq_true (by kernel_rfl)⟩) hW (fun h => by subst h; rfl) hb⟩

theorem hFnLeftOver_holds : Rows.FnLeftOverSaid :=
  OpenClaim.holds_of_wide 13 Try.f13 rfl rfl rfl rfl rfl rfl rfl ⟨rfl, rfl, rfl, rfl, rfl⟩ rfl rfl rfl rfl rfl (by kernel_rfl) Try.func13
    (by unfold joinedFacts; simp only [Bool.and_eq_true]; (repeat' apply And.intro) <;> (first | (with_reducible exact prog_enters) | ((with_reducible refine prog_lifts ?_); rfl) | ((with_reducible refine prog_make ?_); rfl) | kernel_rfl))
    (of_decide_eq_true (by kernel_rfl)) (by unfold Func.isWrapper; first | (rw [if_pos (by decide +kernel)]; kernel_rfl) | (rw [if_neg (by decide +kernel)]; exact ⟨rfl, rfl⟩))
    (fun os started H enc _ => hFnLeftOver_lifted os started H enc)

end Go.Proofs.Ytnonbefeomnbpaa
