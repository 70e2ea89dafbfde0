/- Texts merged: LiftB LiftC Enter LO1 LO2 LO3 RI C9 E9. -/
import Derived.Test.YtbmacoppeidhaaaQ10
import Derived.ChangeSlices
/- An argument of bytes, opened. -/
namespace Go.Proofs.Ytbmacoppeidhaaa
open Go.ChangeShapes Go.WideShapes Go.ChangeAt Go.RowKit Go.Deep

theorem Try.cells_u8 : Try.prog.cellsOf 5 = 1 := by kernel_rfl
theorem Try.bytes_u8 : Try.prog.bytesOf 5 = 1 := by kernel_rfl
set_option maxRecDepth 100000 in
theorem open_bytes {H : Type} {enc : TypeId × Value → H} {W : World} {v : Value} {d : DataW H} {p : List MemPlace} {b0 : Nat} (hval : Value.okWide Try.prog W .any b0 34 v)
    (h : DataW.Trod enc Try.prog W 0 (fun _ => true) true 34 v d p) (hw : ∀ n ∈ d.weights Try.prog 34, n ≤ reachBytes) :
    ∃ A n c, v = .slice A n c ∧ Bytes W A n c := by
  obtain ⟨a1, len, cap, rfl⟩ := okWide_slice Try.underlying34 hval
  obtain ⟨fuel, hf⟩ := h
  rcases open_ints Try.underlying34 Try.underlying5 Try.cells_u8 hf with ⟨hcs, hx⟩ | ⟨a, len', cap', zs, hcs, _, hl, hm, hz, hx, hcell, hwz⟩
  · simp [Value.cells] at hcs
    obtain ⟨rfl, rfl, rfl⟩ := hcs
    exact ⟨none, 0, 0, rfl, Nat.le_refl _, by omega, fun h => absurd h (by omega)⟩
  · simp [Value.cells] at hcs
    obtain ⟨rfl, rfl, rfl⟩ := hcs
    simp only [Prod.mk.injEq] at hx
    obtain ⟨rfl, rfl⟩ := hx
    simp only [if_true] at hz
    have h1 := hw _ (weights_slice Try.underlying34 (.inl rfl))
    simp only [lits, List.length_map, List.length_take, List.length_drop, Try.bytes_u8, reachBytes] at h1
    refine ⟨some a, len, cap, rfl, hl, by omega, fun hn => ?_⟩
    have hspot : a.spot = none := by simpa [Addr.add] using World.cell?_spot (hcell 0 (by omega))
    obtain ⟨b, o, sp⟩ := a
    simp only at hspot
    subst hspot
    refine ⟨b, o, rfl, fun k hk => ⟨zs.getD k 0, ?_, ?_, by rw [← add_plain]; exact hcell k (by omega)⟩⟩
    · rw [List.getD_eq_getElem?_getD]; have := hwz (zs.getD k 0) (by rw [List.getD_eq_getElem?_getD, List.getElem?_eq_getElem (show k < zs.length by omega)]; simp)
      simp [Lit.wf, IntKind.min, IntKind.max, IntKind.signed, IntKind.bits] at this
      omega
    · rw [List.getD_eq_getElem?_getD]; have := hwz (zs.getD k 0) (by rw [List.getD_eq_getElem?_getD, List.getElem?_eq_getElem (show k < zs.length by omega)]; simp)
      simp [Lit.wf, IntKind.min, IntKind.max, IntKind.signed, IntKind.bits] at this
      omega
end Go.Proofs.Ytbmacoppeidhaaa

/- Arguments that are a slice of ints, or an int, opened. -/
namespace Go.Proofs.Ytbmacoppeidhaaa
open Go.ChangeShapes Go.WideShapes Go.ChangeAt Go.RowKit Go.Deep

set_option maxRecDepth 100000 in
theorem open_intS {H : Type} {enc : TypeId × Value → H} {W : World} {v : Value} {d : DataW H} {p : List MemPlace} {b0 : Nat} (hval : Value.okWide Try.prog W .any b0 23 v)
    (h : DataW.Trod enc Try.prog W 0 (fun _ => true) true 23 v d p) (hw : ∀ n ∈ d.weights Try.prog 23, n ≤ reachBytes) :
    ∃ A n c xs, v = .slice A n c ∧ Ints W A n c xs := by
  obtain ⟨a1, len, cap, rfl⟩ := okWide_slice Try.underlying23 hval
  obtain ⟨fuel, hf⟩ := h
  rcases open_ints Try.underlying23 Try.underlying3 Try.cells3 hf with ⟨hcs, hx⟩ | ⟨a, len', cap', zs, hcs, _, hl, hm, hz, hx, hcell, hwz⟩
  · simp [Value.cells] at hcs
    obtain ⟨rfl, rfl, rfl⟩ := hcs
    exact ⟨none, 0, 0, [], rfl, rfl, Nat.le_refl _, by omega, fun _ h => by simp at h, fun h => absurd h (by omega)⟩
  · simp [Value.cells] at hcs
    obtain ⟨rfl, rfl, rfl⟩ := hcs
    simp only [Prod.mk.injEq] at hx
    obtain ⟨rfl, rfl⟩ := hx
    simp only [if_true] at hz
    have h1 := hw _ (weights_slice Try.underlying23 (.inl rfl))
    simp only [lits, List.length_map, List.length_take, List.length_drop, Try.bytes3, reachBytes] at h1
    have hlen : (zs.take len).length = len := by rw [List.length_take]; omega
    refine ⟨some a, len, cap, zs.take len, rfl, hlen, hl, by omega, fun x hx => ?_, fun hn => ?_⟩
    · have := hwz x (List.mem_of_mem_take hx)
      simp [Lit.wf, IntKind.min, IntKind.max, IntKind.signed, IntKind.bits] at this
      omega
    have hspot : a.spot = none := by simpa [Addr.add] using World.cell?_spot (hcell 0 (by omega))
    obtain ⟨b, o, sp⟩ := a
    simp only at hspot
    subst hspot
    refine ⟨b, o, rfl, fun k hk => ?_⟩
    rw [← add_plain, hcell k (by omega)]
    congr 2
    rw [gi_get (by rw [hlen]; exact hk), List.getElem_take]
    simp [List.getD, show k < zs.length by omega]

set_option maxRecDepth 100000 in
theorem open_num {H : Type} {enc : TypeId × Value → H} {W : World} {v : Value} {d : DataW H} {p : List MemPlace} {b0 : Nat} (hval : Value.okWide Try.prog W .any b0 3 v)
    (h : DataW.Trod enc Try.prog W 0 (fun _ => true) true 3 v d p) : ∃ x, v = .int .i64 x ∧ Fit x := by
  obtain ⟨x, rfl, _, _, hw⟩ := open_int Try.underlying3 hval h
  refine ⟨x, rfl, ?_⟩
  simp [Lit.wf, IntKind.min, IntKind.max, IntKind.signed, IntKind.bits] at hw
  unfold Fit
  omega
end Go.Proofs.Ytbmacoppeidhaaa

/- The program may be entered: facts of its head, once for all laws. -/
namespace Go.Proofs.Ytbmacoppeidhaaa

theorem prog_enters : Try.pinned.checked.prog.mayEnter = true := by kernel_rfl
theorem prog_lifts0 : (false == Try.pinned.checked.prog.liftsFinal) = true := by kernel_rfl
theorem prog_make0 : (Try.pinned.checked.prog.make == some .cut) = true := by kernel_rfl
theorem prog_lifts {b : Bool} (h : b = false) : (b == Try.pinned.checked.prog.liftsFinal) = true := by subst h; exact prog_lifts0
theorem prog_make {m : Make} (h : m = .cut) : (Try.pinned.checked.prog.make == some m) = true := by subst h; exact prog_make0
end Go.Proofs.Ytbmacoppeidhaaa

/- What is left over, by the model: numbers up to n, beaten rows, rows that are kept. -/
namespace Go.Proofs.Ytbmacoppeidhaaa
open Go.RowKit

/-- Row r is more than row i in all of the first l columns told. -/
def BeatC (a : List (List Int)) (cols : List Int) (r i l : Nat) : Prop := ∀ y, y < l → g2 a i (gi cols y).toNat < g2 a r (gi cols y).toNat
theorem BeatC.zero (a : List (List Int)) (cols : List Int) (r i : Nat) : BeatC a cols r i 0 := fun _ h => absurd h (by omega)
theorem BeatC.succ {a : List (List Int)} {cols : List Int} {r i l : Nat} : BeatC a cols r i (l + 1) ↔ BeatC a cols r i l ∧ g2 a i (gi cols l).toNat < g2 a r (gi cols l).toNat := by
  constructor
  · exact fun h => ⟨fun j hj => h j (by omega), h l (by omega)⟩
  · rintro ⟨h1, h2⟩ j hj
    by_cases e : j = l
    · subst e; exact h2
    · exact h1 j (by omega)
def Beaten (a : List (List Int)) (rows cols : List Int) (i : Nat) : Prop := ∃ x, x < rows.length ∧ BeatC a cols (gi rows x).toNat i cols.length
/-- The rows before place k that are not beaten. -/
noncomputable def keepL (a : List (List Int)) (rows cols : List Int) : Nat → List Int
  | 0 => []
  | k + 1 => keepL a rows cols k ++ (if pb (Beaten a rows cols (gi rows k).toNat) = true then [] else [gi rows k])
theorem keepL_no {a : List (List Int)} {rows cols : List Int} {k : Nat} (h : Beaten a rows cols (gi rows k).toNat) : keepL a rows cols (k + 1) = keepL a rows cols k := by rw [keepL, if_pos (pb_true h), List.append_nil]
theorem keepL_yes {a : List (List Int)} {rows cols : List Int} {k : Nat} (h : ¬ Beaten a rows cols (gi rows k).toNat) : keepL a rows cols (k + 1) = keepL a rows cols k ++ [gi rows k] := by rw [keepL, if_neg (by rw [pb_false h]; decide)]
theorem keepL_len (a : List (List Int)) (rows cols : List Int) : ∀ k, (keepL a rows cols k).length ≤ k
  | 0 => by simp [keepL]
  | k + 1 => by
    have := keepL_len a rows cols k
    rw [keepL, List.length_append]
    split <;> simp <;> omega
theorem keepL_mem (a : List (List Int)) (rows cols : List Int) : ∀ k, ∀ y ∈ keepL a rows cols k, ∃ j, j < k ∧ y = gi rows j
  | 0, y, h => by simp [keepL] at h
  | k + 1, y, h => by
    rw [keepL, List.mem_append] at h
    rcases h with h | h
    · obtain ⟨j, hj, e⟩ := keepL_mem a rows cols k y h; exact ⟨j, by omega, e⟩
    · split at h
      · simp at h
      · simp only [List.mem_singleton] at h; exact ⟨k, by omega, h⟩
/-- The numbers before n. -/
def upL (n : Nat) : List Int := (List.range n).map fun (k : Nat) => (k : Int)
theorem upL_succ (n : Nat) : upL (n + 1) = upL n ++ [(n : Int)] := by simp [upL, List.range_succ]
theorem upL_len (n : Nat) : (upL n).length = n := by simp [upL]
theorem upL_bd (n : Nat) : ∀ y ∈ upL n, 0 ≤ y ∧ y < (n : Int) := fun y h => by
  simp only [upL, List.mem_map, List.mem_range] at h
  obtain ⟨k, hk, rfl⟩ := h
  omega

set_option maxRecDepth 100000 in
set_option maxHeartbeats 1600000 in
theorem upTo_any (n : Nat) (w : World) (hn : n ≤ 100) : Calls Try.prog 70 #[.int .i64 n] w (NewI w (upL n)) := by
  have HS0 := Lib.hid (IU.start w)
  go_enter Try.func70, Try.ntmps70
  go_wp2
  go_loopw [3, 4] (fun v i wr => ∃ k : Nat, k ≤ n ∧ i = .int .i64 k ∧ Hid (IU w v (upL k) wr)) (fun _ i _ => n - (intOf i).toNat)
  case atStart => exact ⟨0, Nat.zero_le _, rfl, HS0⟩
  case round =>
    clear HS0
    obtain ⟨k, hk, rfl, HI⟩ := hrel
    obtain ⟨Av, cv, rfl⟩ := HI.out.bi.form
    by_cases hlt : k < n
    · have HCS := Lib.hid (upL_succ k)
      have HML := Lib.hid (upL_len k)
      have hb := below_alloc wr (.cells #[iv (k : Int)] 3)
      have HB4 := Lib.hid (HI.out.bi.below hb).own
      have HN := Lib.hid (cell_one_new wr (iv (k : Int)) 3)
      have hwz := HI.out.up.size
      clear hb
      generalize upL k = ys at *
      obtain ⟨i0, hi0, hz0, hz1, hz2⟩ := info_parts Try.info_int
      go_wp2_with (at_builtin; refine wpList_append_own_at _ rfl _ _ 23 rfl w.heap.size 3 i0 (.int .i64 0) 1 8 Try.underlying23 hi0 hz0 hz1 hz2 rfl (by decide) _ ys.length (ys.map iv) rfl HB4.out ⟨wr.heap.size, 0, none⟩ 1 1 [iv (k : Int)] rfl rfl ?c1 ?c2 ?c3 ?c4 ?c5 ?_)
      case c1 => exact HN.out
      case c2 => intro u hu; simp at hu; subst hu; rfl
      case c3 => have := HML.out; unfold maxLen; omega
      case c4 => have := HML.out; omega
      case c5 => simp; omega
      intro v' w5 hown' hgrow _ hat
      have HI5 := Lib.hid (HI.out.push hown' hgrow (by simpa using hat))
      clear HB4 HN hown' hgrow hat HI
      go_wp2
      go_roundw
      case rel => exact ⟨k + 1, by omega, by go_num, Lib.hid (by rw [HCS.out]; exact HI5.out)⟩
      case measure => simp [intOf]; omega
    · obtain rfl : k = n := by omega
      have HNW := Lib.hid (HI.out.new (by have := upL_len k; omega) (fun y hy => by have := upL_bd k y hy; omega))
      go_wp2
      go_ret
      exact HNW.out
set_option maxRecDepth 100000 in
set_option maxHeartbeats 6400000 in
theorem beatenRow_any (b o : Nat) (rb ro cc : Nat → Nat) (n m c : Nat) (a : List (List Int)) (R : Option Addr) (nr cr : Nat) (rows : List Int) (C : Option Addr) (nc ccol : Nat) (cols : List Int) (i : Nat) (w : World)
    (h : Tab w b o rb ro cc n m a) (hr : Ints w R nr cr rows) (hc : Ints w C nc ccol cols) (hrb : ∀ x, x < nr → 0 ≤ gi rows x ∧ gi rows x < n) (hcb : ∀ y, y < nc → 0 ≤ gi cols y ∧ gi cols y < m) (hi : i < n) (hn1 : nr ≤ 100) (hn2 : nc ≤ 100) :
    Calls Try.prog 98 #[.slice (some ⟨b, o, none⟩) n c, .slice R nr cr, .slice C nc ccol, .int .i64 i] w fun e w' => e = .returned (.bool (pb (Beaten a rows cols i))) ∧ Quiet w w' := by
  have HT := Lib.hid h
  have HR := Lib.hid hr
  have HC := Lib.hid hc
  have HRB := Lib.hid hrb
  have HCB := Lib.hid hcb
  have LR := Lib.hid hr.len
  have LC := Lib.hid hc.len
  have hn3 := h.n3
  have hm3 := h.m3
  clear h hr hc hrb hcb
  go_enter Try.func98, Try.ntmps98
  go_wp2
  go_loopw [9] (fun s wr => ∃ x : Nat, x ≤ nr ∧ s = .int .i64 x ∧ Hid (∀ x', x' < x → ¬ BeatC a cols (gi rows x').toNat i nc) ∧ Hid (Quiet w wr)) (fun s _ => nr - (intOf s).toNat)
  case atStart => exact ⟨0, Nat.zero_le _, rfl, Lib.hid (fun _ h => absurd h (by omega)), Lib.hid (Quiet.refl _)⟩
  case round =>
    obtain ⟨x, hx, rfl, HN, HQ⟩ := hrel
    by_cases hlt : x < nr
    · obtain ⟨bR, oR, rfl, hcR⟩ := HR.out.at_ (by omega)
      have hxr := HRB.out x hlt
      obtain ⟨r, hr⟩ : ∃ r : Nat, gi rows x = r := ⟨(gi rows x).toNat, by omega⟩
      have hrn : r < n := by omega
      have c1 := hcR x hlt
      rw [hr] at c1
      have HRX := Lib.hid (show (gi rows x).toNat = r by omega)
      have C1 := Lib.hid c1
      clear c1 hcR hr hxr
      generalize wr = W0 at *
      go_wp2
      go_loopw [10, 11] (fun s j wi => ∃ (l : Nat) (bb : Bool), l ≤ nc ∧ j = .int .i64 l ∧ s = .bool bb ∧ Hid (pb (BeatC a cols r i l) = bb) ∧ Hid (Quiet W0 wi)) (fun _ j _ => nc - (intOf j).toNat)
      case atStart => exact ⟨0, true, Nat.zero_le _, rfl, rfl, Lib.hid (pb_true (BeatC.zero a cols r i)), Lib.hid (Quiet.refl _)⟩
      case round =>
        obtain ⟨l, bb, hl, rfl, rfl, HB, HQ2⟩ := hrel
        have HQ3 := Lib.hid (HQ.out.trans HQ2.out)
        by_cases hll : l < nc
        · cases bb
          · have HM := Lib.hid (pb_false (p := BeatC a cols r i (l + 1)) (fun h => by have := pb_true (BeatC.succ.1 h).1; rw [HB.out] at this; cases this))
            go_wp2
            go_quiet (fail)
            all_goals
              go_wp2
              go_roundw
              case rel => exact ⟨l + 1, false, by omega, by go_num, rfl, HM, Lib.hid (HQ2.out.trans ⟨_, rfl⟩)⟩
              case measure => simp [intOf]; omega
          · have HP := Lib.hid (pb_iff.1 HB.out)
            obtain ⟨bC, oC, rfl, hcC⟩ := HC.out.at_ (by omega)
            have hyc := HCB.out l hll
            obtain ⟨q, hq⟩ : ∃ q : Nat, gi cols l = q := ⟨(gi cols l).toNat, by omega⟩
            have hqm : q < m := by omega
            have hqt : (gi cols l).toNat = q := by omega
            have HSC := Lib.hid (BeatC.succ (a := a) (cols := cols) (r := r) (i := i) (l := l))
            rw [hqt] at HSC
            have k1 := Keep.quiet HQ3.out _ _ C1.out
            have k2 := Keep.quiet HQ3.out _ _ (hcC l hll)
            rw [hq] at k2
            have k3 := Keep.quiet HQ3.out _ _ (HT.out.row r hrn)
            have k4 := Keep.quiet HQ3.out _ _ (HT.out.row i hi)
            have k5 := Keep.quiet HQ3.out _ _ (HT.out.cell r q hrn hqm)
            have k6 := Keep.quiet HQ3.out _ _ (HT.out.cell i q hi hqm)
            clear hcC hyc hq hqt
            generalize g2 a r q = gr_ at *
            generalize g2 a i q = gi_ at *
            by_cases e : gi_ < gr_
            · have hd : decide (gi_ < gr_) = true := decide_eq_true e
              have HM := Lib.hid (pb_true (p := BeatC a cols r i (l + 1)) (HSC.out.2 ⟨HP.out, e⟩))
              clear e
              go_wp2
              go_quiet (fail)
              all_goals
                clear k1 k2 k3 k4 k5 k6
                go_wp2
                go_roundw
                case rel => exact ⟨l + 1, true, by omega, by go_num, rfl, HM, Lib.hid (HQ2.out.trans ⟨_, rfl⟩)⟩
                case measure => simp [intOf]; omega
            · have hd : decide (gi_ < gr_) = false := decide_eq_false e
              have HM := Lib.hid (pb_false (p := BeatC a cols r i (l + 1)) (fun h => e (HSC.out.1 h).2))
              clear e
              go_wp2
              go_quiet (fail)
              all_goals
                clear k1 k2 k3 k4 k5 k6
                go_wp2
                go_roundw
                case rel => exact ⟨l + 1, false, by omega, by go_num, rfl, HM, Lib.hid (HQ2.out.trans ⟨_, rfl⟩)⟩
                case measure => simp [intOf]; omega
        · obtain rfl : l = nc := by omega
          cases bb
          · go_wp2
            go_roundw
            case rel => exact ⟨x + 1, by omega, by go_num, Lib.hid (fun x' hx' => by
              by_cases e : x' = x
              · subst e
                rw [HRX.out]
                intro h
                have := pb_true h
                rw [HB.out] at this
                cases this
              · exact HN.out x' (by omega)), HQ3⟩
            case measure => simp [intOf]; omega
          · have HE := Lib.hid (pb_true (p := Beaten a rows cols i) ⟨x, by rw [LR.out]; exact hlt, by rw [HRX.out, LC.out]; exact pb_iff.1 HB.out⟩)
            go_wp2
            go_ret
            exact ⟨ret_bool HE.out.symm, HQ3.out⟩
    · obtain rfl : x = nr := by omega
      have HE := Lib.hid (pb_false (p := Beaten a rows cols i) (by rintro ⟨x', h1, h2⟩; rw [LR.out] at h1; rw [LC.out] at h2; exact HN.out x' h1 h2))
      go_wp2
      go_ret
      exact ⟨ret_bool HE.out.symm, HQ.out⟩
set_option maxRecDepth 100000 in
set_option maxHeartbeats 6400000 in
theorem keepRows_any (b o : Nat) (rb ro cc : Nat → Nat) (n m c : Nat) (a : List (List Int)) (R : Option Addr) (nr cr : Nat) (rows : List Int) (C : Option Addr) (nc ccol : Nat) (cols : List Int) (w : World)
    (h : Tab w b o rb ro cc n m a) (hr : Ints w R nr cr rows) (hc : Ints w C nc ccol cols) (hrb : ∀ x, x < nr → 0 ≤ gi rows x ∧ gi rows x < n) (hcb : ∀ y, y < nc → 0 ≤ gi cols y ∧ gi cols y < m) (hn1 : nr ≤ 100) (hn2 : nc ≤ 100) :
    Calls Try.prog 72 #[.slice (some ⟨b, o, none⟩) n c, .slice R nr cr, .slice C nc ccol] w (NewI w (keepL a rows cols nr)) := by
  have HB := Lib.hid (fun W (k : Keep w W) i (hi : i < n) => beatenRow_any b o rb ro cc n m c a R nr cr rows C nc ccol cols i W (h.keep k) (hr.keep k) (hc.keep k) hrb hcb hi hn1 hn2)
  have HR := Lib.hid hr
  have HRB := Lib.hid hrb
  have HS0 := Lib.hid (IU.start w)
  have hn3 := h.n3
  clear h hr hc hrb hcb
  go_enter Try.func72, Try.ntmps72
  go_wp2
  go_loopw [7, 8] (fun v i wr => ∃ k : Nat, k ≤ nr ∧ i = .int .i64 k ∧ Hid (IU w v (keepL a rows cols k) wr)) (fun _ i _ => nr - (intOf i).toNat)
  case atStart => exact ⟨0, Nat.zero_le _, rfl, HS0⟩
  case round =>
    clear HS0
    obtain ⟨k, hk, rfl, HI⟩ := hrel
    obtain ⟨Av, cv, rfl⟩ := HI.out.bi.form
    by_cases hlt : k < nr
    · obtain ⟨bR, oR, rfl, hcR⟩ := HR.out.at_ (by omega)
      have hxr := HRB.out k hlt
      obtain ⟨r, hr⟩ : ∃ r : Nat, gi rows k = r := ⟨(gi rows k).toNat, by omega⟩
      have hrn : r < n := by omega
      have HRX := Lib.hid (show (gi rows k).toNat = r by omega)
      have C0 := Lib.hid (hcR k hlt)
      have HC := Lib.hid (HB.out wr (Keep.below HI.out.up) r hrn)
      have HCS := Lib.hid (keepL_no (a := a) (rows := rows) (cols := cols) (k := k))
      have HCT := Lib.hid (keepL_yes (a := a) (rows := rows) (cols := cols) (k := k))
      rw [HRX.out] at HCS HCT
      rw [hr] at C0 HCT
      have c1 := Keep.below HI.out.up _ _ C0.out
      have HML := Lib.hid (keepL_len a rows cols k)
      clear hcR hxr hr HRX
      by_cases hp : Beaten a rows cols r
      · rw [pb_true hp] at HC
        have HCS1 := Lib.hid (HCS.out hp)
        clear hp HCS HCT
        go_wp2_with fail
        refine HC.out.mono ?_
        rintro e w1 ⟨rfl, hq⟩
        have HI1 := Lib.hid (HI.out.next (Quiet.below hq))
        clear hq HC HI c1
        go_wp2
        go_roundw
        case rel => exact ⟨k + 1, by omega, by go_num, Lib.hid (by rw [HCS1.out]; exact HI1.out)⟩
        case measure => simp [intOf]; omega
      · rw [pb_false hp] at HC
        have HCS1 := Lib.hid (HCT.out hp)
        clear hp HCS HCT
        go_wp2_with fail
        refine HC.out.mono ?_
        rintro e w1 ⟨rfl, hq⟩
        have HI1 := Lib.hid (HI.out.next (Quiet.below hq))
        have c2 := Keep.below HI1.out.up _ _ C0.out
        clear hq HC HI c1
        have hb := below_alloc w1 (.cells #[iv (r : Int)] 3)
        have HB4 := Lib.hid (HI1.out.bi.below hb).own
        have HN := Lib.hid (cell_one_new w1 (iv (r : Int)) 3)
        have hwz := HI1.out.up.size
        clear hb
        generalize keepL a rows cols k = ys at *
        obtain ⟨i0, hi0, hz0, hz1, hz2⟩ := info_parts Try.info_int
        go_wp2_with (at_builtin; refine wpList_append_own_at _ rfl _ _ 23 rfl w.heap.size 3 i0 (.int .i64 0) 1 8 Try.underlying23 hi0 hz0 hz1 hz2 rfl (by decide) _ ys.length (ys.map iv) rfl HB4.out ⟨w1.heap.size, 0, none⟩ 1 1 [iv (r : Int)] rfl rfl ?c1 ?c2 ?c3 ?c4 ?c5 ?_)
        case c1 => exact HN.out
        case c2 => intro u hu; simp at hu; subst hu; rfl
        case c3 => have := HML.out; unfold maxLen; omega
        case c4 => have := HML.out; omega
        case c5 => simp; omega
        intro v' w5 hown' hgrow _ hat
        have HI5 := Lib.hid (HI1.out.push hown' hgrow (by simpa using hat))
        clear HB4 HN hown' hgrow hat HI1 c2
        go_wp2
        go_roundw
        case rel => exact ⟨k + 1, by omega, by go_num, Lib.hid (by rw [HCS1.out]; exact HI5.out)⟩
        case measure => simp [intOf]; omega
    · obtain rfl : k = nr := by omega
      have HNW := Lib.hid (HI.out.new (by have := keepL_len a rows cols k; omega) (fun y hy => by obtain ⟨j, hj, rfl⟩ := keepL_mem a rows cols k y hy; have := HRB.out j hj; omega))
      go_wp2
      go_ret
      exact HNW.out
end Go.Proofs.Ytbmacoppeidhaaa

/- What is left over, as sets: f tells which of the first n numbers are left. Plain. -/
namespace Go.Proofs.Ytbmacoppeidhaaa

theorem keepL_filter (a : List (List Int)) (rows cols : List Int) : ∀ k, k ≤ rows.length → keepL a rows cols k = (rows.take k).filter fun y => !pb (Beaten a rows cols y.toNat)
  | 0, _ => by simp [keepL]
  | k + 1, h => by
    have hk : k < rows.length := by omega
    rw [keepL, keepL_filter a rows cols k (by omega), List.take_succ_eq_append_getElem hk, List.filter_append, gi_get hk]
    congr 1
    cases e : pb (Beaten a rows cols (rows[k].toNat)) <;> simp [e]
theorem keepL_all (a : List (List Int)) (rows cols : List Int) : keepL a rows cols rows.length = rows.filter fun y => !pb (Beaten a rows cols y.toNat) := by
  rw [keepL_filter a rows cols _ (Nat.le_refl _), List.take_length]
/-- The numbers before n that f tells, ascending. -/
def selL (f : Nat → Bool) (n : Nat) : List Int := ((List.range n).filter f).map fun (k : Nat) => (k : Int)
theorem selL_up (n : Nat) : selL (fun _ => true) n = upL n := by unfold selL upL; rw [List.filter_eq_self.2 (fun _ _ => rfl)]
theorem selL_mem {f : Nat → Bool} {n : Nat} {y : Int} : y ∈ selL f n ↔ ∃ k : Nat, k < n ∧ f k = true ∧ y = k := by
  simp only [selL, List.mem_map, List.mem_filter, List.mem_range]
  constructor
  · rintro ⟨k, ⟨h1, h2⟩, rfl⟩; exact ⟨k, h1, h2, rfl⟩
  · rintro ⟨k, h1, h2, rfl⟩; exact ⟨k, ⟨h1, h2⟩, rfl⟩
theorem selL_len (f : Nat → Bool) (n : Nat) : (selL f n).length ≤ n := by
  have := List.length_filter_le f (List.range n)
  simp [selL] at this ⊢; exact this
theorem selL_bd {f : Nat → Bool} {n x : Nat} (h : x < (selL f n).length) : 0 ≤ gi (selL f n) x ∧ gi (selL f n) x < n := by
  rw [gi_get h]
  obtain ⟨k, hk, _, e⟩ := selL_mem.1 (List.getElem_mem h)
  omega
/-- Row i is beaten among those that f tells, against the columns that h tells. -/
def BT (a : List (List Int)) (f h : Nat → Bool) (n m i : Nat) : Prop := ∃ r, r < n ∧ f r = true ∧ ∀ y, y < m → h y = true → g2 a i y < g2 a r y
theorem beaten_sel {a : List (List Int)} {f h : Nat → Bool} {n m i : Nat} : Beaten a (selL f n) (selL h m) i ↔ BT a f h n m i := by
  constructor
  · rintro ⟨x, hx, hb⟩
    obtain ⟨r, hr, hf, e⟩ := selL_mem.1 (List.getElem_mem hx)
    refine ⟨r, hr, hf, fun y hy hh => ?_⟩
    obtain ⟨l, hl, e2⟩ := List.mem_iff_getElem.1 (selL_mem.2 ⟨y, hy, hh, rfl⟩ : (y : Int) ∈ selL h m)
    have := hb l hl
    rw [gi_get hl, e2, gi_get hx, e] at this
    simpa using this
  · rintro ⟨r, hr, hf, hb⟩
    obtain ⟨x, hx, e⟩ := List.mem_iff_getElem.1 (selL_mem.2 ⟨r, hr, hf, rfl⟩ : (r : Int) ∈ selL f n)
    refine ⟨x, hx, fun l hl => ?_⟩
    obtain ⟨y, hy, hh, e2⟩ := selL_mem.1 (List.getElem_mem hl)
    rw [gi_get hl, e2, gi_get hx, e]
    simpa using hb y hy hh
/-- Those that stay. -/
noncomputable def stayF (a : List (List Int)) (f h : Nat → Bool) (n m : Nat) : Nat → Bool := fun i => f i && !pb (BT a f h n m i)
theorem keepL_sel (a : List (List Int)) (f h : Nat → Bool) (n m : Nat) : keepL a (selL f n) (selL h m) (selL f n).length = selL (stayF a f h n m) n := by
  rw [keepL_all]
  unfold selL stayF
  rw [List.filter_map, List.filter_filter]
  congr 1
  apply List.filter_congr
  intro k _
  have e : pb (Beaten a (selL f n) (selL h m) k) = pb (BT a f h n m k) := pb_congr beaten_sel
  unfold selL at e
  simp only [Function.comp, Int.toNat_natCast]
  rw [e, Bool.and_comm]
/-- One round: first the rows, then the columns against the rows that stay. -/
noncomputable def loStep (a b : List (List Int)) (n m : Nat) (s : (Nat → Bool) × (Nat → Bool)) : (Nat → Bool) × (Nat → Bool) :=
  (stayF a s.1 s.2 n m, stayF b s.2 (stayF a s.1 s.2 n m) m n)
noncomputable def loIt (a b : List (List Int)) (n m : Nat) : Nat → (Nat → Bool) × (Nat → Bool)
  | 0 => (fun _ => true, fun _ => true)
  | k + 1 => loStep a b n m (loIt a b n m k)
/-- The same numbers before n and before m. -/
def SameS (n m : Nat) (s t : (Nat → Bool) × (Nat → Bool)) : Prop := (∀ i, i < n → s.1 i = t.1 i) ∧ ∀ j, j < m → s.2 j = t.2 j
theorem BT_congr {a : List (List Int)} {f f' h h' : Nat → Bool} {n m : Nat} (hf : ∀ i, i < n → f i = f' i) (hh : ∀ j, j < m → h j = h' j) (i : Nat) : BT a f h n m i ↔ BT a f' h' n m i := by
  constructor
  · rintro ⟨r, h1, h2, h3⟩; exact ⟨r, h1, by rw [← hf r h1]; exact h2, fun y hy e => h3 y hy (by rw [hh y hy]; exact e)⟩
  · rintro ⟨r, h1, h2, h3⟩; exact ⟨r, h1, by rw [hf r h1]; exact h2, fun y hy e => h3 y hy (by rw [← hh y hy]; exact e)⟩
theorem stayF_congr {a : List (List Int)} {f f' h h' : Nat → Bool} {n m : Nat} (hf : ∀ i, i < n → f i = f' i) (hh : ∀ j, j < m → h j = h' j) (i : Nat) (hi : i < n) : stayF a f h n m i = stayF a f' h' n m i := by
  unfold stayF; rw [hf i hi, pb_congr (BT_congr hf hh i)]
theorem loStep_congr {a b : List (List Int)} {n m : Nat} {s t : (Nat → Bool) × (Nat → Bool)} (h : SameS n m s t) : SameS n m (loStep a b n m s) (loStep a b n m t) := by
  have h1 : ∀ i, i < n → stayF a s.1 s.2 n m i = stayF a t.1 t.2 n m i := fun i hi => stayF_congr h.1 h.2 i hi
  exact ⟨h1, fun j hj => stayF_congr h.2 h1 j hj⟩
theorem SameS.trans {n m s t u} (h : SameS n m s t) (k : SameS n m t u) : SameS n m s u := ⟨fun i hi => (h.1 i hi).trans (k.1 i hi), fun j hj => (h.2 j hj).trans (k.2 j hj)⟩
theorem SameS.symm {n m s t} (h : SameS n m s t) : SameS n m t s := ⟨fun i hi => (h.1 i hi).symm, fun j hj => (h.2 j hj).symm⟩
theorem SameS.refl (n m : Nat) (s : (Nat → Bool) × (Nat → Bool)) : SameS n m s s := ⟨fun _ _ => rfl, fun _ _ => rfl⟩
/-- Where a round changes nothing, none behind it does. -/
theorem loIt_fix {a b : List (List Int)} {n m k : Nat} (h : SameS n m (loIt a b n m (k + 1)) (loIt a b n m k)) : ∀ l, SameS n m (loIt a b n m (k + l)) (loIt a b n m k)
  | 0 => SameS.refl _ _ _
  | l + 1 => (show SameS n m (loStep a b n m (loIt a b n m (k + l))) (loIt a b n m k) from (loStep_congr (loIt_fix h l)).trans h)
/-- Two rounds that change nothing agree. -/
theorem loIt_one {a b : List (List Int)} {n m k l : Nat} (h : SameS n m (loIt a b n m (k + 1)) (loIt a b n m k)) (h' : SameS n m (loIt a b n m (l + 1)) (loIt a b n m l)) : SameS n m (loIt a b n m k) (loIt a b n m l) := by
  by_cases e : k ≤ l
  · obtain ⟨d, rfl⟩ := Nat.le.dest e; exact (loIt_fix h d).symm
  · obtain ⟨d, rfl⟩ := Nat.le.dest (show l ≤ k by omega); exact loIt_fix h' d
theorem selL_congr {f g : Nat → Bool} {n : Nat} (h : ∀ i, i < n → f i = g i) : selL f n = selL g n := by
  unfold selL; congr 1; exact List.filter_congr fun k hk => h k (List.mem_range.1 hk)
/-- What stays is all, if it is as many. -/
theorem sel_same {f g : Nat → Bool} {n : Nat} (hs : ∀ i, g i = true → f i = true) (h : (selL g n).length = (selL f n).length) : ∀ i, i < n → g i = f i := by
  have hl : (selL f n).filter (fun y => g y.toNat) = selL g n := by
    unfold selL
    rw [List.filter_map, List.filter_filter]
    congr 1
    apply List.filter_congr
    intro k _
    simp only [Function.comp, Int.toNat_natCast]
    cases e : g k
    · simp
    · rw [hs k e]; rfl
  have hall : ∀ y ∈ selL f n, g y.toNat = true := List.length_filter_eq_length_iff.1 (by rw [hl]; exact h)
  intro i hi
  cases e : f i
  · cases e2 : g i
    · rfl
    · rw [hs i e2] at e; cases e
  · simpa using hall i (selL_mem.2 ⟨i, hi, e, rfl⟩)
theorem stay_sub {a : List (List Int)} {f h : Nat → Bool} {n m i : Nat} (e : stayF a f h n m i = true) : f i = true := by
  unfold stayF at e; simp at e; exact e.1
theorem stay_le (a : List (List Int)) (f h : Nat → Bool) (n m : Nat) : (selL (stayF a f h n m) n).length ≤ (selL f n).length := by
  rw [← keepL_sel]; exact keepL_len a (selL f n) (selL h m) _
/-- As many as before: nothing was left out. -/
theorem lo_same {a b : List (List Int)} {n m : Nat} {s : (Nat → Bool) × (Nat → Bool)}
    (h : (selL (loStep a b n m s).1 n).length + (selL (loStep a b n m s).2 m).length = (selL s.1 n).length + (selL s.2 m).length) : SameS n m (loStep a b n m s) s := by
  have h1 := stay_le a s.1 s.2 n m
  have h2 := stay_le b s.2 (stayF a s.1 s.2 n m) m n
  simp only [loStep] at h
  exact ⟨sel_same (fun i => stay_sub) (by show (selL (stayF a s.1 s.2 n m) n).length = _; omega), sel_same (fun i => stay_sub) (by show (selL (stayF b s.2 (stayF a s.1 s.2 n m) m n) m).length = _; omega)⟩
theorem lo_less {a b : List (List Int)} {n m : Nat} {s : (Nat → Bool) × (Nat → Bool)}
    (h : (selL (loStep a b n m s).1 n).length + (selL (loStep a b n m s).2 m).length ≠ (selL s.1 n).length + (selL s.2 m).length) : (selL (loStep a b n m s).1 n).length + (selL (loStep a b n m s).2 m).length < (selL s.1 n).length + (selL s.2 m).length := by
  have h1 := stay_le a s.1 s.2 n m
  have h2 := stay_le b s.2 (stayF a s.1 s.2 n m) m n
  simp only [loStep] at h ⊢
  omega
end Go.Proofs.Ytbmacoppeidhaaa

/- What is left over, by the model. -/
namespace Go.Proofs.Ytbmacoppeidhaaa
open Go.RowKit

/-- Two new slices of ints. -/
def NewII (w : World) (xs ys : List Int) (e : Ending) (w' : World) : Prop :=
  ∃ A n c g B m d h, e = .returned (.tuple #[.slice A n c, .slice B m d]) ∧ n = xs.length ∧ m = ys.length ∧ OwnI w.heap.size w'.heap.size w' g A n c xs ∧ OwnI w.heap.size w'.heap.size w' h B m d ys ∧ Below w.heap.size w w'
/-- What LeftOver answers: what is left where a round leaves out nothing more. -/
def LeftO (xs ys : List (List Int)) (w : World) (e : Ending) (w' : World) : Prop :=
  (¬ VG xs ys ∧ NewII w [] [] e w') ∨ VG xs ys ∧ ∃ k, SameS xs.length (gr xs 0).length (loIt xs (flip ys xs.length (gr xs 0).length) xs.length (gr xs 0).length (k + 1)) (loIt xs (flip ys xs.length (gr xs 0).length) xs.length (gr xs 0).length k) ∧
    NewII w (selL (loIt xs (flip ys xs.length (gr xs 0).length) xs.length (gr xs 0).length k).1 xs.length) (selL (loIt xs (flip ys xs.length (gr xs 0).length) xs.length (gr xs 0).length k).2 (gr xs 0).length) e w'
/-- A list of chosen numbers, in memory of its own. -/
structure SelO (lo : Nat) (w : World) (f : Nat → Bool) (N : Nat) (A : Option Addr) (n c g : Nat) : Prop where
  own : OwnI lo w.heap.size w g A n c (selL f N)
  len : n = (selL f N).length
theorem SelO.up {lo w w' f N A n c g} (h : SelO lo w f N A n c g) (k : Below w.heap.size w w') : SelO lo w' f N A n c g := ⟨(h.own.below k).mono (Nat.le_refl _) k.size, h.len⟩
theorem SelO.new {w0 w w' : World} {f N e} (h0 : w0.heap.size ≤ w.heap.size) (h : NewI w (selL f N) e w') : ∃ A n c g, e = .returned (.slice A n c) ∧ SelO w0.heap.size w' f N A n c g ∧ Below w.heap.size w w' := by
  obtain ⟨A, n, c, g, e1, e2, ho, hb⟩ := h
  exact ⟨A, n, c, g, e1, ⟨ho.mono h0 (Nat.le_refl _), e2⟩, hb⟩
theorem SelO.le {lo w f N A n c g} (h : SelO lo w f N A n c g) : n ≤ N := by rw [h.len]; exact selL_len f N
theorem SelO.bd {lo w f N A n c g} (h : SelO lo w f N A n c g) : ∀ x, x < n → 0 ≤ gi (selL f N) x ∧ gi (selL f N) x < N := fun x hx => selL_bd (by rw [← h.len]; exact hx)
theorem gr_flip0 {a : List (List Int)} {n m : Nat} (h : 0 < m) : (gr (flip a n m) 0).length = n := by rw [gr_flip h]; simp

set_option maxRecDepth 100000 in
set_option maxHeartbeats 6400000 in
theorem LeftOver_spec (A B : Option Addr) (n c m d : Nat) (xs ys : List (List Int)) (w : World) (hx : IntRows w A n c xs) (hy : IntRows w B m d ys) :
    Calls Try.prog 31 #[.agg #[.slice A n c, .slice B m d]] w (LeftO xs ys w) := by
  have hb0 := below_alloc w (.cells #[.slice A n c, .slice B m d] 40)
  have b0 := blk_new w 40 #[.slice A n c, .slice B m d]
  have HB := Lib.hid hb0
  have HK := Lib.hid b0
  have HX := Lib.hid (hx.keep (Keep.below hb0))
  have HY := Lib.hid (hy.keep (Keep.below hb0))
  have HX0 := Lib.hid hx
  have HY0 := Lib.hid hy
  clear hx hy hb0 b0
  go_enter Try.func31, Try.ntmps31
  go_wp2_with fail
  generalize w.alloc (.cells #[.slice A n c, .slice B m d] 40) = W1 at *
  have HC := Lib.hid (validGame_any _ _ _ _ _ _ _ _ _ HX.out HY.out)
  by_cases hv : VG xs ys
  · refine ((pb_true hv) ▸ HC.out).mono ?_
    rintro e w1 ⟨rfl, hb⟩
    have hb2 := below_up HB.out hb
    have hk2 := blk_below HK.out hb
    have HYI := Lib.hid (HY.out.keep (Keep.below hb))
    obtain ⟨p, rfl, rfl, rfl, rfl, rfl, rfl, hg⟩ := GV.of HX0.out HY0.out hv
    have HT := Lib.hid (show GT p w w1 w.heap.size xs ys from ⟨hb2, hk2, hg⟩)
    have hn3 := hg.tx.n3
    have hm3 := hg.tx.m3
    have hn1 := hg.tx.n1
    have hm1 := hg.tx.m1
    have HLX := Lib.hid hg.lx
    have HMX := Lib.hid hg.mx
    have HLY := Lib.hid (show ys.length = p.n from HY0.out.len)
    have HMY := Lib.hid (show (gr ys 0).length = p.m by rw [← hv.m, hg.mx])
    have HVG := Lib.hid hv
    have HF := Lib.hid (show VT (flip ys p.n p.m) by have := hv.tb.flip; rw [HLY.out, HMY.out] at this; exact this)
    clear hb hv hb2 hk2 hg HX HY HX0 HY0 HB HK HC
    have c0 := HT.out.c0
    have HU := Lib.hid (upTo_any p.n w1 (by omega))
    go_wp2_with fail
    clear c0
    refine HU.out.mono ?_
    intro e w2 h
    rw [← selL_up] at h
    obtain ⟨A2, n2, c2, g2_, rfl, hs, hb⟩ := SelO.new HT.out.below.size h
    have HS2 := Lib.hid hs
    have HT2 := Lib.hid (HT.out.up hb)
    have HY2 := Lib.hid (HYI.out.keep (Keep.below hb))
    clear h hs hb HU HT HYI
    have c0 := HT2.out.c0
    have r0 := HT2.out.gv.tx.row 0 (by omega)
    simp only [Nat.add_zero] at r0
    have HU := Lib.hid (upTo_any p.m w2 (by omega))
    go_wp2_with fail
    clear c0 r0
    refine HU.out.mono ?_
    intro e w3 h
    rw [← selL_up] at h
    obtain ⟨A3, n3, c3, g3_, rfl, hs, hb⟩ := SelO.new HT2.out.below.size h
    have HS3 := Lib.hid hs
    have HS2b := Lib.hid (HS2.out.up hb)
    have HT3 := Lib.hid (HT2.out.up hb)
    have HY3 := Lib.hid (HY2.out.keep (Keep.below hb))
    clear h hs hb HU HT2 HY2 HS2
    have c1 := HT3.out.c1
    have HU := Lib.hid (turnedS_any (some ⟨p.bb, p.ob, none⟩) p.n p.d p.m ys w3 HY3.out HVG.out.tb.small (by omega) (by have := HVG.out.tb.even; rw [HMY.out] at this; exact this))
    go_wp2_with fail
    clear c1
    refine HU.out.mono ?_
    rintro e w4 ⟨A4, n4, c4, g4, rfl, hn4, ho, hb⟩
    rw [flip_len] at hn4
    subst hn4
    obtain ⟨b4, o4, rb4, ro4, cc4, rfl, ht4⟩ := ho.rows.tab HF.out
    rw [gr_flip0 (by omega)] at ht4
    have HO4 := Lib.hid ht4
    have HS3b := Lib.hid (HS3.out.up hb)
    have HS2c := Lib.hid (HS2b.out.up hb)
    have HT4 := Lib.hid (HT3.out.up hb)
    clear hb HU HT3 HY3 HS2b HS3 ho ht4
    go_wp2
    go_loopw [4, 5] (fun u v wr => ∃ (k : Nat) (A : Option Addr) (n c g : Nat) (B : Option Addr) (m d h : Nat), u = .slice A n c ∧ v = .slice B m d ∧ Hid (SelO w.heap.size wr (loIt xs (flip ys p.n p.m) p.n p.m k).1 p.n A n c g) ∧ Hid (SelO w.heap.size wr (loIt xs (flip ys p.n p.m) p.n p.m k).2 p.m B m d h) ∧ Hid (Below w4.heap.size w4 wr)) (fun u v _ => (match u with | .slice _ k _ => k | _ => 0) + (match v with | .slice _ k _ => k | _ => 0))
    case atStart => exact ⟨0, _, _, _, _, _, _, _, _, rfl, rfl, HS2c, HS3b, Lib.hid (Below.refl _ _)⟩
    case round =>
      clear HS2c HS3b
      obtain ⟨k, A5, n5, c5, g5, A6, n6, c6, g6, rfl, rfl, HS5, HS6, HQ⟩ := hrel
      have HTr := Lib.hid (HT4.out.up HQ.out)
      have HOr := Lib.hid (HO4.out.keep (Keep.below HQ.out))
      have hle5 := HS5.out.le
      have hle6 := HS6.out.le
      obtain ⟨f, hf⟩ : ∃ f, f = (loIt xs (flip ys p.n p.m) p.n p.m k).1 := ⟨_, rfl⟩
      obtain ⟨h, hh⟩ : ∃ h, h = (loIt xs (flip ys p.n p.m) p.n p.m k).2 := ⟨_, rfl⟩
      have HF1 := Lib.hid hf
      have HH1 := Lib.hid hh
      have HN1 := Lib.hid (show (loIt xs (flip ys p.n p.m) p.n p.m (k + 1)).1 = stayF xs f h p.n p.m by rw [hf, hh]; rfl)
      have HN2 := Lib.hid (show (loIt xs (flip ys p.n p.m) p.n p.m (k + 1)).2 = stayF (flip ys p.n p.m) h (stayF xs f h p.n p.m) p.m p.n by rw [hf, hh]; rfl)
      rw [← hf] at HS5
      rw [← hh] at HS6
      clear hf hh
      have c0 := HTr.out.c0
      have HC := Lib.hid (keepRows_any p.ba p.oa p.ra p.pa p.ca p.n p.m p.c xs A5 n5 c5 (selL f p.n) A6 n6 c6 (selL h p.m) wr HTr.out.gv.tx HS5.out.own.ints HS6.out.own.ints HS5.out.bd HS6.out.bd (by omega) (by omega))
      have HE := Lib.hid HS5.out.len
      rw [HE.out, keepL_sel, ← HE.out] at HC
      go_wp2_with fail
      clear c0
      refine HC.out.mono ?_
      intro e w7 hnew
      obtain ⟨A7, n7, c7, g7, rfl, hs, hb⟩ := SelO.new HTr.out.below.size hnew
      have HS7 := Lib.hid hs
      have HS6b := Lib.hid (HS6.out.up hb)
      have HT7 := Lib.hid (HTr.out.up hb)
      have HO7 := Lib.hid (HOr.out.keep (Keep.below hb))
      have HQ7 := Lib.hid (below_up HQ.out hb)
      have hle7 := HS7.out.le
      have HEL5 := Lib.hid HS5.out.len
      clear hnew hs hb HC HTr HOr HQ HS5 HE
      have HC := Lib.hid (keepRows_any b4 o4 rb4 ro4 cc4 p.m p.n c4 (flip ys p.n p.m) A6 n6 c6 (selL h p.m) A7 n7 c7 (selL (stayF xs f h p.n p.m) p.n) w7 HO7.out HS6b.out.own.ints HS7.out.own.ints HS6b.out.bd HS7.out.bd (by omega) (by omega))
      have HE := Lib.hid HS6b.out.len
      rw [HE.out, keepL_sel, ← HE.out] at HC
      go_wp2_with fail
      refine HC.out.mono ?_
      intro e w8 hnew
      obtain ⟨A8, n8, c8, g8, rfl, hs, hb⟩ := SelO.new HT7.out.below.size hnew
      have HS8 := Lib.hid hs
      have HS7b := Lib.hid (HS7.out.up hb)
      have HQ8 := Lib.hid (below_up HQ7.out hb)
      have HB8 := Lib.hid (HT7.out.up hb).below
      have hle8 := HS8.out.le
      have HEL6 := Lib.hid HE.out
      have HEL7 := Lib.hid HS7.out.len
      have HEL8 := Lib.hid HS8.out.len
      clear hnew hs hb HC HT7 HO7 HQ7 HS7 HE HS6b
      have HL := Lib.hid (lo_same (a := xs) (b := flip ys p.n p.m) (n := p.n) (m := p.m) (s := (f, h)))
      have HL2 := Lib.hid (lo_less (a := xs) (b := flip ys p.n p.m) (n := p.n) (m := p.m) (s := (f, h)))
      simp only [loStep] at HL HL2
      rw [← HEL5.out, ← HEL6.out, ← HEL7.out, ← HEL8.out] at HL HL2
      rw [← HN1.out] at HS7b
      rw [← HN2.out] at HS8
      have hsum : ((n7 : Int) + (n8 : Int) == (n5 : Int) + (n6 : Int)) = decide (n7 + n8 = n5 + n6) := by
        rw [Bool.eq_iff_iff, beq_iff_eq, decide_eq_true_iff]; omega
      by_cases he : n7 + n8 = n5 + n6
      · have hd : ((n7 : Int) + (n8 : Int) == (n5 : Int) + (n6 : Int)) = true := by rw [beq_iff_eq]; omega
        have HSM := Lib.hid (HL.out he)
        clear hsum he HL HL2
        go_wp2
        go_ret2
        refine .inr ⟨HVG.out, k + 1, ?_, A7, n7, c7, g7, A8, n8, c8, g8, rfl, ?_, ?_, ?_, ?_, HB8.out⟩
        · rw [HLX.out, HMX.out]
          have h0 : SameS p.n p.m (loIt xs (flip ys p.n p.m) p.n p.m (k + 1)) (loIt xs (flip ys p.n p.m) p.n p.m k) := by
            refine ⟨fun i hi => ?_, fun j hj => ?_⟩
            · rw [HN1.out, ← HF1.out]; exact HSM.out.1 i hi
            · rw [HN2.out, ← HH1.out]; exact HSM.out.2 j hj
          exact loStep_congr h0
        · rw [HLX.out, HMX.out]; exact HS7b.out.len
        · rw [HLX.out, HMX.out]; exact HS8.out.len
        · rw [HLX.out, HMX.out]; exact HS7b.out.own
        · rw [HLX.out, HMX.out]; exact HS8.out.own
      · have hd : ((n7 : Int) + (n8 : Int) == (n5 : Int) + (n6 : Int)) = false := by rw [beq_eq_false_iff_ne]; omega
        have hlt := HL2.out he
        clear hsum HL HL2
        go_wp2
        go_roundw
        case rel => exact ⟨k + 1, A7, n7, c7, g7, A8, n8, c8, g8, rfl, rfl, HS7b, HS8, HQ8⟩
        case measure => simpa using hlt
  · refine ((pb_false hv) ▸ HC.out).mono ?_
    rintro e w1 ⟨rfl, hb⟩
    have HB2 := Lib.hid (below_up HB.out hb)
    have HVG := Lib.hid hv
    clear hb hv HX HY HX0 HY0 HB HK HC
    go_wp2
    go_ret2
    exact .inl ⟨HVG.out, none, 0, 0, 0, none, 0, 0, 0, rfl, rfl, rfl, OwnI.nil _ _ _ _, OwnI.nil _ _ _ _, HB2.out⟩
end Go.Proofs.Ytbmacoppeidhaaa

/- A region that draws its order, by an invariant: each operation is run once, whatever has come up before it. -/
namespace Go.Proofs.Ytbmacoppeidhaaa
open Go.RowKit

/-- Operation j has come up. -/
def On (L : Array Bool) (j : Nat) : Prop := L.getD j false = true
theorem On.of_set {L : Array Bool} {i j : Nat} (h : On (L.setIfInBounds i true) j) (hne : i ≠ j) : On L j := by
  unfold On at *; rwa [getD_set_ne false hne] at h
theorem On.old {L : Array Bool} {i j : Nat} (h : On L j) : On (L.setIfInBounds i true) j := by
  unfold On at *; exact getD_set_true h
theorem On.not_start {n j : Nat} (h : On (Array.replicate n false) j) : False := by
  unfold On at h
  rcases Nat.lt_or_ge j n with h' | h'
  · simp [h'] at h
  · simp [h'] at h
/-- What an operation waits for. -/
def waitsOn (ops : Array Oper) (i : Nat) : List Nat :=
  match ops[i]? with
  | some o => (o.after.toList.filter (Region.binds .any)).map (·.on)
  | none => []
def earlierB (ops : Array Oper) : Bool := (List.range ops.size).all fun i => (waitsOn ops i).all fun j => decide (j < i)
theorem mem_waits {ops : Array Oper} {i : Nat} {o : Oper} (ho : ops[i]? = some o) {e : Edge} (he : e ∈ o.after) (hb : Region.binds .any e = true) : e.on ∈ waitsOn ops i := by
  unfold waitsOn; rw [ho]; exact List.mem_map.2 ⟨e, List.mem_filter.2 ⟨by simpa using he, hb⟩, rfl⟩
theorem waits_mem {ops : Array Oper} {i j : Nat} {o : Oper} (ho : ops[i]? = some o) (h : j ∈ waitsOn ops i) : ∃ e ∈ o.after, Region.binds .any e = true ∧ e.on = j := by
  unfold waitsOn at h; rw [ho] at h
  obtain ⟨e, he, hj⟩ := List.mem_map.1 h
  obtain ⟨h1, h2⟩ := List.mem_filter.1 he
  exact ⟨e, by simpa using h1, h2, hj⟩

section
variable {P : Program} {ops : Array Oper} {Q : Exit → Act → World → Prop} {I : Array Bool → Act → World → Prop}
/-- The operation i, run in whatever state the invariant allows. -/
def StepI (P : Program) (ops : Array Oper) (Q : Exit → Act → World → Prop) (I : Array Bool → Act → World → Prop) (i : Nat) : Prop :=
  ∀ L a w, I L a w → ¬ On L i → On (L.setIfInBounds i true) i → (∀ j ∈ waitsOn ops i, On L j) → wpOp P ops Q i (fun a' w' => I (L.setIfInBounds i true) a' w') a w
def StepsI (P : Program) (ops : Array Oper) (Q : Exit → Act → World → Prop) (I : Array Bool → Act → World → Prop) (rs : List Nat) : Prop := ∀ i ∈ rs, StepI P ops Q I i
theorem StepsI.nil : StepsI P ops Q I [] := fun _ h => by cases h
theorem StepsI.cons {i : Nat} {o : Oper} {ws rs : List Nat} (ho : ops[i]? = some o) (hw : waitsOn ops i = ws)
    (h : ∀ L a w, I L a w → ¬ On L i → On (L.setIfInBounds i true) i → (∀ j ∈ ws, On L j) → ∀ K' : Act → World → Prop, Shut (∀ a w, I (L.setIfInBounds i true) a w → K' a w) → if Region.wanted o (yielded ops a.tmps) = true then Oper.wp P o a w K' Q else K' (a.put o.dst undef) w)
    (hs : StepsI P ops Q I rs) : StepsI P ops Q I (i :: rs) := fun j hj => by
  rcases List.mem_cons.1 hj with rfl | hj
  · intro L a w hI hn hi hL
    rw [hw] at hL
    exact wpOp_step ho (fun K' hK => h L a w hI hn hi hL K' hK)
  · exact hs j hj

theorem wpAny_inv (hs : ∀ i, i < ops.size → StepI P ops Q I i) (he : earlierB ops = true) (hend : ∀ L a w, (∀ i, i < ops.size → On L i) → I L a w → Q .normal a w) :
    ∀ (fuel : Nat) (L : Array Bool) (a : Act) (w : World), L.size = ops.size → L.toList.countP (fun b => !b) ≤ fuel → I L a w → wpAny P .any ops Q fuel L a w := by
  have hall : ∀ L : Array Bool, L.size = ops.size → Region.ready .any ops L = [] → ∀ i, i < ops.size → On L i := by
    intro L hL hr i
    induction i using Nat.strongRecOn with
    | _ i ih =>
      intro hi
      apply Classical.byContradiction
      intro hn
      have ho : ops[i]? = some ops[i] := Array.getElem?_eq_getElem hi
      have hmem : i ∈ Region.ready .any ops L := by
        rw [mem_ready]
        refine ⟨?_, ops[i], ho, fun e hee hb => ?_⟩
        · have hiL : i < L.size := by omega
          unfold On at hn
          simp only [Array.getD_eq_getD_getElem?, Array.getElem?_eq_getElem hiL, Option.getD_some] at hn ⊢
          cases hx : L[i] with
          | true => exact absurd hx hn
          | false => rfl
        · have hm := mem_waits ho hee hb
          have hlt : e.on < i := by
            unfold earlierB at he
            have h1 := List.all_eq_true.1 he i (List.mem_range.2 hi)
            have h2 := List.all_eq_true.1 h1 _ hm
            simpa using h2
          exact ih e.on hlt (by omega)
      rw [hr] at hmem
      cases hmem
  intro fuel
  induction fuel with
  | zero =>
    intro L a w hL hc hI
    have hon : ∀ i, i < ops.size → On L i := fun i hi => by
      have hiL : i < L.size := by omega
      have h0 : L.toList.countP (fun b => !b) = 0 := by omega
      rw [List.countP_eq_zero] at h0
      have := h0 L[i] (by simp)
      unfold On
      simp only [Array.getD_eq_getD_getElem?, Array.getElem?_eq_getElem hiL, Option.getD_some]
      simpa using this
    refine ⟨?_, hend L a w hon hI⟩
    cases hr : Region.ready .any ops L with
    | nil => rfl
    | cons i rs =>
      have hi : i ∈ Region.ready .any ops L := by rw [hr]; simp
      obtain ⟨h0, o, ho, _⟩ := mem_ready.1 hi
      have hlt : i < ops.size := (Array.getElem?_eq_some_iff.1 ho).1
      have h1 := hon i hlt
      have hiL : i < L.size := by omega
      unfold On at h1
      simp only [Array.getD_eq_getD_getElem?, Array.getElem?_eq_getElem hiL, Option.getD_some] at h0 h1
      rw [h0] at h1; cases h1
  | succ fuel ih =>
    intro L a w hL hc hI
    refine ⟨fun hr => hend L a w (hall L hL hr) hI, fun i hi => ?_⟩
    obtain ⟨h0, o, ho, hw⟩ := mem_ready.1 hi
    have hlt : i < ops.size := (Array.getElem?_eq_some_iff.1 ho).1
    have hiL : i < L.size := by omega
    refine wpOp_mono (fun a' w' h => ih _ a' w' (by simpa using hL) ?_ h) (hs i hlt L a w hI ?_ ?_ (fun j hj => ?_))
    · have hb : L[i] = false := by simpa [Array.getD_eq_getD_getElem?, Array.getElem?_eq_getElem hiL] using h0
      rw [Array.toList_setIfInBounds, List.countP_set (by simpa using hiL)]
      have h1 : 0 < L.toList.countP (fun b => !b) := List.countP_pos_iff.2 ⟨L[i], by simp, by simp [hb]⟩
      have h2 : (if (!L.toList[i]'(by simpa using hiL)) = true then 1 else 0) = 1 := by simp [hb]
      have h3 : (if (!true) = true then 1 else 0) = 0 := by simp
      rw [h2, h3]
      omega
    · unfold On
      simp only [Array.getD_eq_getD_getElem?, Array.getElem?_eq_getElem hiL, Option.getD_some] at h0 ⊢
      rw [h0]; decide
    · unfold On
      simp [hiL]
    · obtain ⟨e, he1, he2, rfl⟩ := waits_mem ho hj
      exact hw e he1 he2

theorem wp_region_inv {id : Nat} {a : Act} {w : World} {rs : List Nat} (I : Array Bool → Act → World → Prop) (hm : P.follows .mixedOrders = true) (h0 : I (Array.replicate ops.size false) a w.drew)
    (hr : List.range ops.size = rs) (he : earlierB ops = true) (hs : StepsI P ops Q I rs) (hend : ∀ L a w, (∀ i, i ∈ rs → On L i) → I L a w → Q .normal a w) : (Code.region id ops true).wp P Q a w :=
  wp_region_any hm (wpAny_inv (I := I) (fun i hi => hs i (by rw [← hr]; exact List.mem_range.2 hi)) he (fun L a w h => hend L a w (fun i hi => h i (by rw [← hr] at hi; exact List.mem_range.1 hi))) ops.size _ a _ (by simp)
    (by rw [Array.toList_replicate]; exact Nat.le_trans List.countP_le_length (by simp)) h0)
end
/-- A frame with other values in some slots, and what is known of these and of the world. -/
def FI (a0 : Act) (ds : List Nat) (J : Array Bool → List Value → World → Prop) (L : Array Bool) (a : Act) (w : World) : Prop := ∃ us, a = frmL a0 ds us ∧ J L us w
theorem wp_region_invF {P : Program} {ops : Array Oper} {Q : Exit → Act → World → Prop} {id : Nat} {a : Act} {w : World} {rs : List Nat} (ds : List Nat) (J : Array Bool → List Value → World → Prop) (hm : P.follows .mixedOrders = true)
    (h0 : ∃ us, a = frmL a ds us ∧ J (Array.replicate ops.size false) us w.drew)
    (hr : List.range ops.size = rs) (he : earlierB ops = true) (hs : StepsI P ops Q (FI a ds J) rs) (hend : ∀ L us w, (∀ i, i ∈ rs → On L i) → J L us w → Q .normal (frmL a ds us) w) : (Code.region id ops true).wp P Q a w :=
  wp_region_inv (FI a ds J) hm h0 hr he hs (fun L a' w h ⟨us, e, hJ⟩ => by subst e; exact hend L us w h hJ)
end Go.Proofs.Ytbmacoppeidhaaa

/- Tables as arrays of nine numbers. -/
namespace Go.Proofs.Ytbmacoppeidhaaa
open Go.RowKit

/-- Nine cells, three rows one behind the other. -/
def cs9 (f : Nat → Nat → Int) : Array Value := #[.int .i64 (f 0 0), .int .i64 (f 0 1), .int .i64 (f 0 2), .int .i64 (f 1 0), .int .i64 (f 1 1), .int .i64 (f 1 2), .int .i64 (f 2 0), .int .i64 (f 2 1), .int .i64 (f 2 2)]
def upd9 (f : Nat → Nat → Int) (i j : Nat) (v : Int) : Nat → Nat → Int := fun r c => if r = i ∧ c = j then v else f r c
theorem lt3 {i : Nat} (h : i < 3) : i = 0 ∨ i = 1 ∨ i = 2 := by omega
theorem cs9_get (f : Nat → Nat → Int) {i j : Nat} (hi : i < 3) (hj : j < 3) : (cs9 f)[i * 3 + j]? = some (.int .i64 (f i j)) := by
  rcases lt3 hi with rfl | rfl | rfl <;> rcases lt3 hj with rfl | rfl | rfl <;> rfl
theorem cs9_congr {f g : Nat → Nat → Int} (h : ∀ r c, r < 3 → c < 3 → f r c = g r c) : cs9 f = cs9 g := by
  unfold cs9
  rw [h 0 0 (by omega) (by omega), h 0 1 (by omega) (by omega), h 0 2 (by omega) (by omega), h 1 0 (by omega) (by omega), h 1 1 (by omega) (by omega), h 1 2 (by omega) (by omega), h 2 0 (by omega) (by omega), h 2 1 (by omega) (by omega), h 2 2 (by omega) (by omega)]
theorem cs9_set (f : Nat → Nat → Int) {i j : Nat} (hi : i < 3) (hj : j < 3) (v : Int) : (cs9 f).setIfInBounds (i * 3 + j) (.int .i64 v) = cs9 (upd9 f i j v) := by
  rcases lt3 hi with rfl | rfl | rfl <;> rcases lt3 hj with rfl | rfl | rfl <;> rfl
/-- A table filled up to row i, column j. -/
def part9 (a : List (List Int)) (m i j : Nat) : Nat → Nat → Int := fun r c => if (r < i ∨ r = i ∧ c < j) ∧ c < m then g2 a r c else 0
def full9 (a : List (List Int)) (n m : Nat) : Nat → Nat → Int := fun r c => if r < n ∧ c < m then g2 a r c else 0
theorem part9_zero (a : List (List Int)) (m : Nat) : cs9 (part9 a m 0 0) = cs9 (fun _ _ => 0) := cs9_congr fun r c _ _ => by unfold part9; rw [if_neg (by omega)]
theorem part9_next (a : List (List Int)) (m i j : Nat) (hj : j < m) : cs9 (upd9 (part9 a m i j) i j (g2 a i j)) = cs9 (part9 a m i (j + 1)) := cs9_congr fun r c _ _ => by
  unfold upd9 part9
  by_cases e : r = i ∧ c = j
  · obtain ⟨rfl, rfl⟩ := e; rw [if_pos ⟨rfl, rfl⟩, if_pos (by omega)]
  · rw [if_neg e]
    by_cases h : (r < i ∨ r = i ∧ c < j) ∧ c < m
    · rw [if_pos h, if_pos (by omega)]
    · rw [if_neg h, if_neg (by omega)]
theorem part9_row (a : List (List Int)) (m i : Nat) : cs9 (part9 a m i m) = cs9 (part9 a m (i + 1) 0) := cs9_congr fun r c _ _ => by
  unfold part9
  by_cases h : (r < i ∨ r = i ∧ c < m) ∧ c < m
  · rw [if_pos h, if_pos (by omega)]
  · rw [if_neg h, if_neg (by omega)]
theorem part9_all (a : List (List Int)) (n m : Nat) : cs9 (part9 a m n 0) = cs9 (full9 a n m) := cs9_congr fun r c _ _ => by
  unfold part9 full9
  by_cases h : r < n ∧ c < m
  · rw [if_pos h, if_pos (by omega)]
  · rw [if_neg h, if_neg (by omega)]
abbrev agg9 (f : Nat → Nat → Int) : Value := .agg (cs9 f)
end Go.Proofs.Ytbmacoppeidhaaa

/- Arrays compared: three numbers, three bools, nine numbers. -/
namespace Go.Proofs.Ytbmacoppeidhaaa
open Go.RowKit

theorem info_arr : (Try.prog.info? 81).map (·.size) = some 3 := by kernel_rfl
theorem info_i1 : (Try.prog.info? 3).map (·.size) = some 1 := by kernel_rfl
theorem und_arr3 : Try.prog.underlying 81 = some (.array 3 3) := by kernel_rfl
theorem und_cells : Try.prog.underlying 83 = some (.array 3 81) := by kernel_rfl
theorem run_sizeOf' {t : TypeId} {n : Nat} (h : (Try.prog.info? t).map (·.size) = some n) (w : World) : (sizeOf t).run Try.prog w = .ok n w := by
  cases hq : Try.prog.info? t with
  | none => simp [hq] at h
  | some i => simp [hq] at h; simp [sizeOf, typeInfo, hq, h]
theorem und_int : Try.prog.underlying 3 = some (.int .i64) := by kernel_rfl
theorem run_isAgg_no (w : World) : (isAgg 3).run Try.prog w = .ok false w := by
  unfold isAgg; rw [Sem.run_bind, run_underlying und_int w]; rfl
theorem run_isAgg_arr (w : World) : (isAgg 81).run Try.prog w = .ok true w := by
  unfold isAgg; rw [Sem.run_bind, run_underlying und_arr3 w]; rfl
theorem run_part_int {cs : Array Value} {k : Nat} {v : Value} (h : cs[k]? = some v) (w : World) : (part 3 cs k).run Try.prog w = .ok v w := by
  unfold part; rw [Sem.run_bind, run_isAgg_no]; simp [h]
theorem run_part_arr (cs : Array Value) (k : Nat) (w : World) : (part 81 cs k).run Try.prog w = .ok (.agg (cs.extract k (k + 3))) w := by
  unfold part; rw [Sem.run_bind, run_isAgg_arr]; simp [run_sizeOf' info_arr]

theorem eq3_run (d : Nat) (x0 x1 x2 y0 y1 y2 : Int) (w : World) :
    (Op.equalIn (d + 2) 81 (.agg #[.int .i64 x0, .int .i64 x1, .int .i64 x2]) (.agg #[.int .i64 y0, .int .i64 y1, .int .i64 y2])).run Try.prog w = .ok (x0 == y0 && (x1 == y1 && x2 == y2)) w := by
  have u3 := und_int
  have a3 := run_isAgg_no
  have z3 := run_sizeOf' info_i1
  rw [show d + 2 = (d + 1) + 1 from rfl, Op.equalIn]
  simp only [Sem.run_bind, run_underlying und_arr3, Result.andThen_ok]
  simp only [Std.Legacy.Range.forIn_eq_forIn_range', Std.Legacy.Range.size, Nat.sub_zero, Nat.add_sub_cancel, Nat.div_one, List.range'_succ, List.range'_zero, List.forIn_cons, List.forIn_nil]
  go_simp
  by_cases h0 : x0 = y0 <;> by_cases h1 : x1 = y1 <;> by_cases h2 : x2 = y2 <;> simp [h0, h1, h2]

theorem eq9_run (d : Nat) (f g : Nat → Nat → Int) (w : World) :
    (Op.equalIn (d + 3) 83 (.agg (cs9 f)) (.agg (cs9 g))).run Try.prog w = .ok (pb (cs9 f = cs9 g)) w := by
  have hd : pb (cs9 f = cs9 g) = ((f 0 0 == g 0 0 && (f 0 1 == g 0 1 && f 0 2 == g 0 2)) && ((f 1 0 == g 1 0 && (f 1 1 == g 1 1 && f 1 2 == g 1 2)) && (f 2 0 == g 2 0 && (f 2 1 == g 2 1 && f 2 2 == g 2 2)))) := by
    rw [Bool.eq_iff_iff, pb_iff]
    simp [cs9, and_assoc]
  rw [hd]
  unfold cs9
  generalize f 0 0 = x0, f 0 1 = x1, f 0 2 = x2, f 1 0 = x3, f 1 1 = x4, f 1 2 = x5, f 2 0 = x6, f 2 1 = x7, f 2 2 = x8
  generalize g 0 0 = y0, g 0 1 = y1, g 0 2 = y2, g 1 0 = y3, g 1 1 = y4, g 1 2 = y5, g 2 0 = y6, g 2 1 = y7, g 2 2 = y8
  have p0 : ∀ w, (part 81 #[.int .i64 x0, .int .i64 x1, .int .i64 x2, .int .i64 x3, .int .i64 x4, .int .i64 x5, .int .i64 x6, .int .i64 x7, .int .i64 x8] (0 * 3)).run Try.prog w = .ok (.agg #[.int .i64 x0, .int .i64 x1, .int .i64 x2]) w := fun w => by rw [run_part_arr]; rfl
  have p1 : ∀ w, (part 81 #[.int .i64 x0, .int .i64 x1, .int .i64 x2, .int .i64 x3, .int .i64 x4, .int .i64 x5, .int .i64 x6, .int .i64 x7, .int .i64 x8] ((0 + 1) * 3)).run Try.prog w = .ok (.agg #[.int .i64 x3, .int .i64 x4, .int .i64 x5]) w := fun w => by rw [run_part_arr]; rfl
  have p2 : ∀ w, (part 81 #[.int .i64 x0, .int .i64 x1, .int .i64 x2, .int .i64 x3, .int .i64 x4, .int .i64 x5, .int .i64 x6, .int .i64 x7, .int .i64 x8] ((0 + 1 + 1) * 3)).run Try.prog w = .ok (.agg #[.int .i64 x6, .int .i64 x7, .int .i64 x8]) w := fun w => by rw [run_part_arr]; rfl
  have q0 : ∀ w, (part 81 #[.int .i64 y0, .int .i64 y1, .int .i64 y2, .int .i64 y3, .int .i64 y4, .int .i64 y5, .int .i64 y6, .int .i64 y7, .int .i64 y8] (0 * 3)).run Try.prog w = .ok (.agg #[.int .i64 y0, .int .i64 y1, .int .i64 y2]) w := fun w => by rw [run_part_arr]; rfl
  have q1 : ∀ w, (part 81 #[.int .i64 y0, .int .i64 y1, .int .i64 y2, .int .i64 y3, .int .i64 y4, .int .i64 y5, .int .i64 y6, .int .i64 y7, .int .i64 y8] ((0 + 1) * 3)).run Try.prog w = .ok (.agg #[.int .i64 y3, .int .i64 y4, .int .i64 y5]) w := fun w => by rw [run_part_arr]; rfl
  have q2 : ∀ w, (part 81 #[.int .i64 y0, .int .i64 y1, .int .i64 y2, .int .i64 y3, .int .i64 y4, .int .i64 y5, .int .i64 y6, .int .i64 y7, .int .i64 y8] ((0 + 1 + 1) * 3)).run Try.prog w = .ok (.agg #[.int .i64 y6, .int .i64 y7, .int .i64 y8]) w := fun w => by rw [run_part_arr]; rfl
  rw [show d + 3 = (d + 2) + 1 from rfl, Op.equalIn]
  simp only [Sem.run_bind, run_underlying und_cells, Result.andThen_ok, run_sizeOf' info_arr]
  simp only [Std.Legacy.Range.forIn_eq_forIn_range', Std.Legacy.Range.size, Nat.sub_zero, Nat.add_sub_cancel, Nat.div_one, List.range'_succ, List.range'_zero, List.forIn_cons, List.forIn_nil, Sem.run_bind]
  rw [p0]
  simp only [Result.andThen_ok, q0, eq3_run]
  by_cases h0 : (x0 == y0 && (x1 == y1 && x2 == y2)) = true
  · rw [h0]
    simp only [Bool.not_true, Bool.false_eq_true, if_false, Sem.run_pure, Result.andThen_ok, Sem.run_bind, p1, q1, eq3_run]
    by_cases h1 : (x3 == y3 && (x4 == y4 && x5 == y5)) = true
    · rw [h1]
      simp only [Bool.not_true, Bool.false_eq_true, if_false, Sem.run_pure, Result.andThen_ok, Sem.run_bind, p2, q2, eq3_run]
      by_cases h2 : (x6 == y6 && (x7 == y7 && x8 == y8)) = true
      · rw [h2]; simp
      · rw [Bool.not_eq_true] at h2; rw [h2]; simp
    · rw [Bool.not_eq_true] at h1; rw [h1]; simp
  · rw [Bool.not_eq_true] at h0; rw [h0]; simp
/-- Two tables as arrays held against each other. -/
theorem eq9_op (f g : Nat → Nat → Int) (w : World) : (Op.equalIn 10000 83 (agg9 f) (agg9 g)).run Try.prog w = .ok (pb (cs9 f = cs9 g)) w := eq9_run 9997 f g w
end Go.Proofs.Ytbmacoppeidhaaa

