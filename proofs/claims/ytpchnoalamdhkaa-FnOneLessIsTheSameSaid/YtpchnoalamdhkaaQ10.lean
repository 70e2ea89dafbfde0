/- Texts merged: LiftB LiftC Enter Math40 J1 Math41 Math20 Z4 Z5 A6. -/
import Derived.Test.YtpchnoalamdhkaaQ9
import Derived.ChangeSlices
/- An argument of bytes, opened. -/
namespace Go.Proofs.Ytpchnoalamdhkaa
open Go.ChangeShapes Go.WideShapes Go.ChangeAt Go.RowKit Go.Deep

theorem Try.cells_u8 : Try.prog.cellsOf 5 = 1 := by kernel_rfl
theorem Try.bytes_u8 : Try.prog.bytesOf 5 = 1 := by kernel_rfl
set_option maxRecDepth 100000 in
theorem open_bytes {H : Type} {enc : TypeId × Value → H} {W : World} {v : Value} {d : DataW H} {p : List MemPlace} {b0 : Nat} (hval : Value.okWide Try.prog W .any b0 22 v)
    (h : DataW.Trod enc Try.prog W 0 (fun _ => true) true 22 v d p) (hw : ∀ n ∈ d.weights Try.prog 22, n ≤ reachBytes) :
    ∃ A n c, v = .slice A n c ∧ Bytes W A n c := by
  obtain ⟨a1, len, cap, rfl⟩ := okWide_slice Try.underlying22 hval
  obtain ⟨fuel, hf⟩ := h
  rcases open_ints Try.underlying22 Try.underlying5 Try.cells_u8 hf with ⟨hcs, hx⟩ | ⟨a, len', cap', zs, hcs, _, hl, hm, hz, hx, hcell, hwz⟩
  · simp [Value.cells] at hcs
    obtain ⟨rfl, rfl, rfl⟩ := hcs
    exact ⟨none, 0, 0, rfl, Nat.le_refl _, by omega, fun h => absurd h (by omega)⟩
  · simp [Value.cells] at hcs
    obtain ⟨rfl, rfl, rfl⟩ := hcs
    simp only [Prod.mk.injEq] at hx
    obtain ⟨rfl, rfl⟩ := hx
    simp only [if_true] at hz
    have h1 := hw _ (weights_slice Try.underlying22 (.inl rfl))
    simp only [lits, List.length_map, List.length_take, List.length_drop, Try.bytes_u8, reachBytes] at h1
    refine ⟨some a, len, cap, rfl, hl, by omega, fun hn => ?_⟩
    have hspot : a.spot = none := by simpa [Addr.add] using World.cell?_spot (hcell 0 (by omega))
    obtain ⟨b, o, sp⟩ := a
    simp only at hspot
    subst hspot
    refine ⟨b, o, rfl, fun k hk => ⟨zs.getD k 0, ?_, ?_, by rw [← add_plain]; exact hcell k (by omega)⟩⟩
    · rw [List.getD_eq_getElem?_getD]; have := hwz (zs.getD k 0) (by rw [List.getD_eq_getElem?_getD, List.getElem?_eq_getElem (show k < zs.length by omega)]; simp)
      simp [Lit.wf, IntKind.min, IntKind.max, IntKind.signed, IntKind.bits] at this
      omega
    · rw [List.getD_eq_getElem?_getD]; have := hwz (zs.getD k 0) (by rw [List.getD_eq_getElem?_getD, List.getElem?_eq_getElem (show k < zs.length by omega)]; simp)
      simp [Lit.wf, IntKind.min, IntKind.max, IntKind.signed, IntKind.bits] at this
      omega
end Go.Proofs.Ytpchnoalamdhkaa

/- Arguments that are a slice of ints, or an int, opened. -/
namespace Go.Proofs.Ytpchnoalamdhkaa
open Go.ChangeShapes Go.WideShapes Go.ChangeAt Go.RowKit Go.Deep

set_option maxRecDepth 100000 in
theorem open_intS {H : Type} {enc : TypeId × Value → H} {W : World} {v : Value} {d : DataW H} {p : List MemPlace} {b0 : Nat} (hval : Value.okWide Try.prog W .any b0 27 v)
    (h : DataW.Trod enc Try.prog W 0 (fun _ => true) true 27 v d p) (hw : ∀ n ∈ d.weights Try.prog 27, n ≤ reachBytes) :
    ∃ A n c xs, v = .slice A n c ∧ Ints W A n c xs := by
  obtain ⟨a1, len, cap, rfl⟩ := okWide_slice Try.underlying27 hval
  obtain ⟨fuel, hf⟩ := h
  rcases open_ints Try.underlying27 Try.underlying3 Try.cells3 hf with ⟨hcs, hx⟩ | ⟨a, len', cap', zs, hcs, _, hl, hm, hz, hx, hcell, hwz⟩
  · simp [Value.cells] at hcs
    obtain ⟨rfl, rfl, rfl⟩ := hcs
    exact ⟨none, 0, 0, [], rfl, rfl, Nat.le_refl _, by omega, fun _ h => by simp at h, fun h => absurd h (by omega)⟩
  · simp [Value.cells] at hcs
    obtain ⟨rfl, rfl, rfl⟩ := hcs
    simp only [Prod.mk.injEq] at hx
    obtain ⟨rfl, rfl⟩ := hx
    simp only [if_true] at hz
    have h1 := hw _ (weights_slice Try.underlying27 (.inl rfl))
    simp only [lits, List.length_map, List.length_take, List.length_drop, Try.bytes3, reachBytes] at h1
    have hlen : (zs.take len).length = len := by rw [List.length_take]; omega
    refine ⟨some a, len, cap, zs.take len, rfl, hlen, hl, by omega, fun x hx => ?_, fun hn => ?_⟩
    · have := hwz x (List.mem_of_mem_take hx)
      simp [Lit.wf, IntKind.min, IntKind.max, IntKind.signed, IntKind.bits] at this
      omega
    have hspot : a.spot = none := by simpa [Addr.add] using World.cell?_spot (hcell 0 (by omega))
    obtain ⟨b, o, sp⟩ := a
    simp only at hspot
    subst hspot
    refine ⟨b, o, rfl, fun k hk => ?_⟩
    rw [← add_plain, hcell k (by omega)]
    congr 2
    rw [gi_get (by rw [hlen]; exact hk), List.getElem_take]
    simp [List.getD, show k < zs.length by omega]

set_option maxRecDepth 100000 in
theorem open_num {H : Type} {enc : TypeId × Value → H} {W : World} {v : Value} {d : DataW H} {p : List MemPlace} {b0 : Nat} (hval : Value.okWide Try.prog W .any b0 3 v)
    (h : DataW.Trod enc Try.prog W 0 (fun _ => true) true 3 v d p) : ∃ x, v = .int .i64 x ∧ Fit x := by
  obtain ⟨x, rfl, _, _, hw⟩ := open_int Try.underlying3 hval h
  refine ⟨x, rfl, ?_⟩
  simp [Lit.wf, IntKind.min, IntKind.max, IntKind.signed, IntKind.bits] at hw
  unfold Fit
  omega
end Go.Proofs.Ytpchnoalamdhkaa

/- The program may be entered: facts of its head, once for all laws. -/
namespace Go.Proofs.Ytpchnoalamdhkaa

theorem prog_enters : Try.pinned.checked.prog.mayEnter = true := by kernel_rfl
theorem prog_lifts0 : (false == Try.pinned.checked.prog.liftsFinal) = true := by kernel_rfl
theorem prog_make0 : (Try.pinned.checked.prog.make == some .cut) = true := by kernel_rfl
theorem prog_lifts {b : Bool} (h : b = false) : (b == Try.pinned.checked.prog.liftsFinal) = true := by subst h; exact prog_lifts0
theorem prog_make {m : Make} (h : m = .cut) : (Try.pinned.checked.prog.make == some m) = true := by subst h; exact prog_make0
end Go.Proofs.Ytpchnoalamdhkaa

/- How many histories there are, and kinds in the mean: plain. -/
namespace Go.Proofs.Ytpchnoalamdhkaa

def hsN : Nat → Int
  | 0 => 1
  | 1 => 1
  | k + 2 => ((k + 2 : Nat) : Int) * ((k + 1 : Nat) : Int) / 2 * hsN (k + 1)
/-- What HistoriesOf answers. -/
noncomputable def hsV (n : Int) : Int := if pb (InR n 1 7) = true then hsN n.toNat else -1
theorem hs_no {n : Int} (h : ¬ InR n 1 7) : hsV n = -1 := by unfold hsV; rw [if_neg (by rw [pb_false h]; decide)]
theorem hs_yes {n : Nat} (h : InR n 1 7) : hsV n = hsN n := by unfold hsV; rw [if_pos (pb_true h), Int.toNat_natCast]

def mkD (f : Int) : Nat → Int
  | 0 => 1
  | k + 1 => mkD f k * (f + k)
def mkU (f : Int) : Nat → Int
  | 0 => 0
  | k + 1 => mkU f k * (f + k) + f * mkD f k
theorem mk_bd {f : Int} (h1 : 1 ≤ f) (h6 : f ≤ 6) {k : Nat} (hk : k ≤ 7) : 1 ≤ mkD f k ∧ mkD f k ≤ 20000000 ∧ 0 ≤ mkU f k ∧ mkU f k ≤ 20000000 := by
  have hf : f = 1 ∨ f = 2 ∨ f = 3 ∨ f = 4 ∨ f = 5 ∨ f = 6 := by omega
  have hk' : k = 0 ∨ k = 1 ∨ k = 2 ∨ k = 3 ∨ k = 4 ∨ k = 5 ∨ k = 6 ∨ k = 7 := by omega
  rcases hf with rfl | rfl | rfl | rfl | rfl | rfl <;> rcases hk' with rfl | rfl | rfl | rfl | rfl | rfl | rfl | rfl <;> decide
/-- What MeanKinds is asked of. -/
def MQ (n f : Int) : Prop := InR n 1 7 ∧ InR f 1 6
noncomputable def mkV (n f : Int) : Value := if pb (MQ n f) = true then .agg #[.int .i64 (frU (mkU f n.toNat) (mkD f n.toNat)), .int .i64 (frD (mkU f n.toNat) (mkD f n.toNat))] else .agg #[.int .i64 0, .int .i64 0]
theorem mk_no {n f : Int} (h : ¬ MQ n f) : mkV n f = .agg #[.int .i64 0, .int .i64 0] := by unfold mkV; rw [if_neg (by rw [pb_false h]; decide)]
theorem mk_yes {n : Nat} {f : Int} (h : MQ n f) : mkV n f = .agg #[.int .i64 (frU (mkU f n) (mkD f n)), .int .i64 (frD (mkU f n) (mkD f n))] := by unfold mkV; rw [if_pos (pb_true h), Int.toNat_natCast]
theorem mk_form (n f : Int) : ∃ U D, mkV n f = .agg #[.int .i64 U, .int .i64 D] := by
  unfold mkV; split
  · exact ⟨_, _, rfl⟩
  · exact ⟨_, _, rfl⟩
/-- One more. -/
theorem mk_step {f : Int} (h1 : 1 ≤ f) (h6 : f ≤ 6) {k : Nat} (hk : k < 7) :
    frU (frU (mkU f k) (mkD f k) * frD f (f + k) + frU f (f + k) * frD (mkU f k) (mkD f k)) (frD (mkU f k) (mkD f k) * frD f (f + k)) = frU (mkU f (k + 1)) (mkD f (k + 1)) ∧
    frD (frU (mkU f k) (mkD f k) * frD f (f + k) + frU f (f + k) * frD (mkU f k) (mkD f k)) (frD (mkU f k) (mkD f k) * frD f (f + k)) = frD (mkU f (k + 1)) (mkD f (k + 1)) := by
  have h := mk_bd h1 h6 (k := k) (by omega)
  exact fr_add (u := mkU f k) (d := mkD f k) (v := f) (e := f + k) (by omega) (by omega)
end Go.Proofs.Ytpchnoalamdhkaa

/- HistoriesOf, by both programs. -/
namespace Go.Proofs.Ytpchnoalamdhkaa
open Go.RowKit

theorem isUrn_any (n : Int) (w : World) : Calls Try.prog 95 #[.int .i64 n] w fun e w' => e = .returned (.bool (pb (InR n 1 7))) ∧ w = w' := by
  by_cases h1 : 1 ≤ n
  · have h1' : decide (1 ≤ n) = true := decide_eq_true h1
    by_cases h2 : n ≤ 7
    · have h := Lib.hid (pb_true (p := InR n 1 7) ⟨h1, h2⟩)
      have h2' : decide (n ≤ 7) = true := decide_eq_true h2
      go_enter Try.func95, Try.ntmps95
      go_wp2
      go_ret
      exact ⟨ret_bool (by rw [h.out]), rfl⟩
    · have h := Lib.hid (pb_false (p := InR n 1 7) (fun h => h2 h.2))
      have h2' : decide (n ≤ 7) = false := by simpa using h2
      go_enter Try.func95, Try.ntmps95
      go_wp2
      go_ret
      exact ⟨ret_bool (by rw [h.out]), rfl⟩
  · have h := Lib.hid (pb_false (p := InR n 1 7) (fun h => h1 h.1))
    have h1' : decide (1 ≤ n) = false := by simpa using h1
    go_enter Try.func95, Try.ntmps95
    go_wp2
    go_ret
    exact ⟨ret_bool (by rw [h.out]), rfl⟩
theorem isFresh_any (n : Int) (w : World) : Calls Try.prog 87 #[.int .i64 n] w fun e w' => e = .returned (.bool (pb (InR n 1 6))) ∧ w = w' := by
  by_cases h1 : 1 ≤ n
  · have h1' : decide (1 ≤ n) = true := decide_eq_true h1
    by_cases h2 : n ≤ 6
    · have h := Lib.hid (pb_true (p := InR n 1 6) ⟨h1, h2⟩)
      have h2' : decide (n ≤ 6) = true := decide_eq_true h2
      go_enter Try.func87, Try.ntmps87
      go_wp2
      go_ret
      exact ⟨ret_bool (by rw [h.out]), rfl⟩
    · have h := Lib.hid (pb_false (p := InR n 1 6) (fun h => h2 h.2))
      have h2' : decide (n ≤ 6) = false := by simpa using h2
      go_enter Try.func87, Try.ntmps87
      go_wp2
      go_ret
      exact ⟨ret_bool (by rw [h.out]), rfl⟩
  · have h := Lib.hid (pb_false (p := InR n 1 6) (fun h => h1 h.1))
    have h1' : decide (1 ≤ n) = false := by simpa using h1
    go_enter Try.func87, Try.ntmps87
    go_wp2
    go_ret
    exact ⟨ret_bool (by rw [h.out]), rfl⟩

end Go.Proofs.Ytpchnoalamdhkaa

/- All sizes of kinds: plain. -/
namespace Go.Proofs.Ytpchnoalamdhkaa

/-- The rows from m down, t of them, with what comes behind each. -/
def ptsT (g : Nat → Nat → List (List Int)) (n m : Nat) : Nat → List (List Int)
  | 0 => []
  | t + 1 => ptsT g n m t ++ (g (n - (m - t)) (m - t)).map (fun r => ((m - t : Nat) : Int) :: r)
/-- All rows with the sum n, none greater than most (F: n at least). -/
def pts : Nat → Nat → Nat → List (List Int)
  | 0, _, _ => [[]]
  | F + 1, n, most => if n = 0 then [[]] else ptsT (pts F) n (min n most) (min n most)
theorem pts_all : ((List.range 8).all fun F => (List.range 8).all fun n => (List.range 8).all fun m => decide ((pts F n m).length ≤ 40) && (pts F n m).all fun r => decide (r.length ≤ 7) && r.all fun x => decide (0 ≤ x) && decide (x ≤ 7)) = true := by decide +kernel
theorem pts_bd0 (F : Nat) (hF : F < 8) (n : Nat) (hn : n < 8) (m : Nat) (hm : m < 8) : (pts F n m).length ≤ 40 ∧ (∀ r ∈ pts F n m, r.length ≤ 7 ∧ ∀ x ∈ r, 0 ≤ x ∧ x ≤ 7) := by
  have h := pts_all
  simp only [List.all_eq_true, List.mem_range, Bool.and_eq_true, decide_eq_true_eq] at h
  exact h F hF n hn m hm
theorem ptsT_bd0 : ∀ F, F < 7 → ∀ n, n < 8 → ∀ m, m < 8 → ∀ t, t ≤ m → (ptsT (pts F) n m t).length ≤ 50 := by decide +kernel
theorem pts_zero (F m : Nat) : pts F 0 m = [[]] := by cases F <;> rfl
theorem pts_pos {F n : Nat} (h : 0 < n) (m : Nat) : pts (F + 1) n m = ptsT (pts F) n (min n m) (min n m) := by
  show (if n = 0 then _ else _) = _
  rw [if_neg (by omega)]
theorem pts_row {F n m : Nat} (hF : F ≤ 7) (hn : n ≤ 7) (hm : m ≤ 7) {i : Nat} (hi : i < (pts F n m).length) : (gr (pts F n m) i).length ≤ 7 ∧ ∀ x ∈ gr (pts F n m) i, 0 ≤ x ∧ x ≤ 7 :=
  (pts_bd0 F (by omega) n (by omega) m (by omega)).2 _ (gr_mem hi)
/-- One row of what comes behind more. -/
theorem take_cons_succ (list : List (List Int)) (x : Int) {i : Nat} (h : i < list.length) :
    (list.take (i + 1)).map (fun r => x :: r) = (list.take i).map (fun r => x :: r) ++ [x :: gr list i] := by
  rw [List.take_succ_eq_append_getElem h, List.map_append, gr_get h]; rfl
end Go.Proofs.Ytpchnoalamdhkaa

/- Shares at which some strategies have as much: the sums of the cofactors of the columns, and the differences to the first row. Plain. -/
namespace Go.Proofs.Ytpchnoalamdhkaa
open V (sumN detN rowC colC cofN minorN skip sgn Asc)

/-- The square of a part, as it is. -/
def lf (a : List (List Int)) (r : Nat → Nat) : Nat → Nat → Int := fun p q => g2 a (r p) (r q) + 0
/-- The differences to the first row, behind a row of ones. -/
def mf (a : List (List Int)) (r : Nat → Nat) : Nat → Nat → Int := fun p q => if p = 0 then 1 else g2 a (r p) (r q) - g2 a (r 0) (r q)

theorem rowC_shift {k : Nat} (hk : k ≤ 3) {f g : Nat → Nat → Int} (z : Int) (h : ∀ p q, g p q = f p q + z) {p : Nat} (hp : p < k) : rowC k g p = rowC k f p := by
  have : k = 1 ∨ k = 2 ∨ k = 3 := by omega
  rcases this with rfl | rfl | rfl
  · simp [rowC, sumN, cofN, detN]
  · have : p = 0 ∨ p = 1 := by omega
    rcases this with rfl | rfl <;> simp [rowC, sumN, cofN, sgn, detN, minorN, skip, h] <;> omega
  · obtain ⟨e0, e1, e2⟩ := V.rowC3 f
    obtain ⟨d0, d1, d2⟩ := V.rowC3 g
    have : p = 0 ∨ p = 1 ∨ p = 2 := by omega
    rcases this with rfl | rfl | rfl
    · rw [e0, d0]; simp only [h]; grind
    · rw [e1, d1]; simp only [h]; grind
    · rw [e2, d2]; simp only [h]; grind
theorem lf_kY (a : List (List Int)) (r : Nat → Nat) {k : Nat} (hk : k ≤ 3) : cofL k (trN (lf a r)) k = kY a r r k := by
  unfold kY cofL
  refine List.map_congr_left fun p hp => ?_
  exact (rowC_shift hk 18 (f := trN (lf a r)) (g := trN (kf a r r)) (fun p q => by unfold trN lf kf; omega) (List.mem_range.1 hp)).symm
theorem gi_kY {a : List (List Int)} {r : Nat → Nat} {k : Nat} (hk : k ≤ 3) {c : Nat} (hc : c < k) : gi (kY a r r k) c = colC k (kf a r r) c := by
  unfold kY; rw [gi_cofL hc, rowC_tr hk]
theorem mf_cof {a : List (List Int)} {r : Nat → Nat} {k : Nat} (hk : k ≤ 3) {c : Nat} (hc : c < k) : cofN k (mf a r) 0 c = gi (kY a r r k) c := by
  rw [gi_kY hk hc]
  have : k = 1 ∨ k = 2 ∨ k = 3 := by omega
  rcases this with rfl | rfl | rfl
  · obtain rfl : c = 0 := by omega
    simp [colC, sumN, cofN, sgn, detN]
  · have : c = 0 ∨ c = 1 := by omega
    rcases this with rfl | rfl <;> simp [colC, sumN, cofN, sgn, detN, minorN, skip, mf, kf] <;> omega
  · obtain ⟨e0, e1, e2⟩ := V.colC3 (kf a r r)
    have : c = 0 ∨ c = 1 ∨ c = 2 := by omega
    rcases this with rfl | rfl | rfl
    · rw [e0]; simp [sumN, cofN, sgn, detN, minorN, skip, mf, kf]; grind
    · rw [e1]; simp [sumN, cofN, sgn, detN, minorN, skip, mf, kf]; grind
    · rw [e2]; simp [sumN, cofN, sgn, detN, minorN, skip, mf, kf]; grind
theorem mf_det {a : List (List Int)} {r : Nat → Nat} {k : Nat} (h1 : 1 ≤ k) (hk : k ≤ 3) : detN k (mf a r) = sumN (gi (kY a r r k)) k := by
  obtain ⟨l, rfl⟩ : ∃ l, k = l + 1 := ⟨k - 1, by omega⟩
  rw [detN]
  refine sumN_congr fun j hj => ?_
  rw [← mf_cof hk hj]
  unfold cofN
  rw [Nat.zero_add, show mf a r 0 j = 1 from rfl, Nat.add_sub_cancel, Int.one_mul]
theorem mf_ab {a : List (List Int)} (v : VT a) (h : a.length = (gr a 0).length) {r : Nat → Nat} {k : Nat} (hr : Asc a.length k r) : Ab k (mf a r) := fun p q hp hq => by
  unfold mf
  have h0 := hr.1 0 (by omega)
  have hpp := hr.1 p hp
  have hqq := hr.1 q hq
  have e1 := v.bd hpp (j := r q) (by omega)
  have e2 := v.bd h0 (j := r q) (by omega)
  split <;> omega

/-- All numbers more than 0, or all less. -/
def LevP (X : List Int) : Prop := (∀ p, p < X.length → 0 < gi X p) ∨ ∀ p, p < X.length → gi X p < 0
theorem LevP.clr {X : List Int} (h : LevP X) (h0 : 0 < X.length) : ClrP X := by
  rcases h with h | h
  · exact ⟨⟨0, h0, by have := h 0 h0; omega⟩, .inl fun p hp => by have := h p hp; omega⟩
  · exact ⟨⟨0, h0, by have := h 0 h0; omega⟩, .inr fun p hp => by have := h p hp; omega⟩
def levB (xs : List Int) : Bool := decide (lst xs ≤ 0) && decide (0 ≤ mxl xs)
theorem levB_iff {xs : List Int} (h0 : 0 < xs.length) : levB xs = false ↔ LevP xs := by
  unfold levB lst mxl LevP
  rw [Bool.and_eq_false_iff, decide_eq_false_iff_not, decide_eq_false_iff_not]
  constructor
  · rintro (h | h)
    · exact .inl fun p hp => by have := mn_le (xs := xs) (k := xs.length - 1) (j := p) (by omega); omega
    · exact .inr fun p hp => by have := mx_ge xs (k := xs.length - 1) (j := p) (by omega); omega
  · rintro (h | h)
    · obtain ⟨j, hj, e⟩ := mn_mem (xs := xs) (xs.length - 1)
      exact .inl (by have := h j (by omega); omega)
    · obtain ⟨j, hj, e⟩ := mx_at xs (xs.length - 1)
      exact .inr (by have := h j (by omega); omega)

/-- The first c numbers, times z. -/
def sgL (X : List Int) (z : Int) (c : Nat) : List Int := (List.range c).map fun p => z * gi X p
theorem sgL_succ (X : List Int) (z : Int) (c : Nat) : sgL X z (c + 1) = sgL X z c ++ [z * gi X c] := by simp [sgL, List.range_succ]
theorem sgL_len (X : List Int) (z : Int) (c : Nat) : (sgL X z c).length = c := by simp [sgL]
theorem gi_sgL {X : List Int} {z : Int} {c p : Nat} (h : p < c) : gi (sgL X z c) p = z * gi X p := by
  rw [gi_get (by rw [sgL_len]; exact h)]; simp [sgL]
theorem gcdL_sgL {X : List Int} {z : Int} (hz : z = 1 ∨ z = -1) {k : Nat} : ∀ {j}, j ≤ k → gcdL (sgL X z k) j = gcdL X j
  | 0, _ => rfl
  | j + 1, h => by
    rw [gcdL, gcdL, gcdL_sgL hz (by omega), gi_sgL (by omega)]
    rcases hz with rfl | rfl
    · rw [Int.one_mul]
    · unfold gcdI; rw [Int.neg_one_mul, Int.gcd_neg]
theorem shr_sgL {X : List Int} {z : Int} (hz : z = 1 ∨ z = -1) {n k : Nat} {r : Nat → Nat} (hl : X.length = k) : shr n r (sgL X z k) k = shr n r X k := by
  unfold shr
  rw [sgL_len, hl, gcdL_sgL hz (Nat.le_refl _)]
  congr 1
  unfold clrL
  refine List.map_congr_left fun p hp => ?_
  rw [gi_sgL (List.mem_range.1 hp)]
  rcases hz with rfl | rfl
  · rw [Int.one_mul]
  · rw [show max (-1 * gi X p) (-(-1 * gi X p)) = max (gi X p) (-(gi X p)) by omega]
/-- The sign of the sum. -/
def zsg (X : List Int) (k : Nat) : Int := if sumN (gi X) k < 0 then -1 else 1
theorem zsg_or (X : List Int) (k : Nat) : zsg X k = 1 ∨ zsg X k = -1 := by unfold zsg; split <;> simp
theorem lev_sum {X : List Int} (h : LevP X) (h0 : 0 < X.length) : sumN (gi X) X.length ≠ 0 ∧ ∀ p, p < X.length → 0 < zsg X X.length * gi X p := by
  rcases h with h | h
  · have hs := sumN_pos (f := gi X) (n := X.length) (fun i hi => by have := h i hi; omega) ⟨0, h0, h 0 h0⟩
    refine ⟨by omega, fun p hp => ?_⟩
    unfold zsg; rw [if_neg (by omega), Int.one_mul]; exact h p hp
  · have hs := sumN_pos (f := fun i => (-1) * gi X i) (n := X.length) (fun i hi => by have := h i hi; omega) ⟨0, h0, by have := h 0 h0; omega⟩
    rw [sumN_mul] at hs
    refine ⟨by omega, fun p hp => ?_⟩
    unfold zsg; rw [if_pos (by omega)]; have := h p hp; omega
theorem lev_of {X : List Int} {z : Int} (hz : z = 1 ∨ z = -1) (h : ∀ p, p < X.length → 0 < z * gi X p) : LevP X := by
  rcases hz with rfl | rfl
  · exact .inl fun p hp => by have := h p hp; omega
  · exact .inr fun p hp => by have := h p hp; omega

theorem memL_ge : ∀ R, R < 8 → ∀ n, n < 4 → 1 ≤ R → R < 2 ^ n → 1 ≤ (memL R n).length := by decide
/-- The shares of some strategies are the only ones at which these have as much, and no other one has more. -/
def LevAt (a : List (List Int)) (k : Nat) (r : Nat → Nat) : Prop := LevP (kY a r r k) ∧ RestP a (shr a.length r (kY a r r k) k) a.length
def lvl (a : List (List Int)) (s : Nat) : List Int := shr a.length (idx s a.length) (kY a (idx s a.length) (idx s a.length) (memL s a.length).length) (memL s a.length).length
def LvP (a : List (List Int)) (s : Nat) : Prop := 1 ≤ s ∧ s < 2 ^ a.length ∧ LevAt a (memL s a.length).length (idx s a.length)
noncomputable def resR (a : List (List Int)) : Nat → List (List Int)
  | 0 => []
  | s + 1 => if pb (LvP a s) = true then resR a s ++ [lvl a s] else resR a s
noncomputable def resF (a : List (List Int)) : List (List Int) := if pb (VQ a) = true then resR a 8 else []
theorem resR_yes {a : List (List Int)} {s : Nat} (h : LvP a s) : resR a (s + 1) = resR a s ++ [lvl a s] := by rw [resR, if_pos (pb_true h)]
theorem resR_no {a : List (List Int)} {s : Nat} (h : ¬ LvP a s) : resR a (s + 1) = resR a s := by rw [resR, if_neg (by rw [pb_false h]; decide)]
theorem lvl_len (a : List (List Int)) (s : Nat) : (lvl a s).length = a.length := putL_len _ _ _ _
theorem resR_one (a : List (List Int)) : resR a 1 = [] := by rw [resR_no (fun h => by have := h.1; omega)]; rfl
theorem resR_len (a : List (List Int)) : ∀ s, (resR a s).length ≤ s
  | 0 => by simp [resR]
  | s + 1 => by
    have := resR_len a s
    by_cases h : LvP a s
    · rw [resR_yes h, List.length_append, List.length_singleton]; omega
    · rw [resR_no h]; omega
theorem resR_end {a : List (List Int)} : ∀ {d}, resR a (2 ^ a.length + d) = resR a (2 ^ a.length)
  | 0 => rfl
  | d + 1 => by rw [← Nat.add_assoc, resR_no (fun h => by have := h.2.1; omega), resR_end]
theorem resR_all {a : List (List Int)} (h : a.length ≤ 3) : resR a 8 = resR a (2 ^ a.length) := by
  have h8 : 2 ^ a.length ≤ 8 := pow_le8 h
  have := resR_end (a := a) (d := 8 - 2 ^ a.length)
  rwa [show 2 ^ a.length + (8 - 2 ^ a.length) = 8 by omega] at this
theorem mem_resR {a : List (List Int)} {x : List Int} : ∀ {k}, x ∈ resR a k ↔ ∃ s, s < k ∧ LvP a s ∧ x = lvl a s
  | 0 => by simp [resR]
  | k + 1 => by
    have ih := mem_resR (a := a) (x := x) (k := k)
    by_cases h : LvP a k
    · rw [resR_yes h, List.mem_append, List.mem_singleton, ih]
      constructor
      · rintro (⟨s, h1, h2, h3⟩ | h1)
        · exact ⟨s, by omega, h2, h3⟩
        · exact ⟨k, by omega, h, h1⟩
      · rintro ⟨s, h1, h2, h3⟩
        by_cases e : s = k
        · subst e; exact .inr h3
        · exact .inl ⟨s, by omega, h2, h3⟩
    · rw [resR_no h, ih]
      constructor
      · rintro ⟨s, h1, h2, h3⟩; exact ⟨s, by omega, h2, h3⟩
      · rintro ⟨s, h1, h2, h3⟩
        by_cases e : s = k
        · subst e; exact absurd h2 h
        · exact ⟨s, by omega, h2, h3⟩
theorem lvl_VS {a : List (List Int)} (q : VQ a) {s : Nat} (h : LvP a s) (h8 : s < 8) : VS (lvl a s) a.length := by
  have hk3 : (memL s a.length).length ≤ 3 := by have := memL_le s a.length; have := q.1.n3; omega
  have h1 := memL_ge s h8 a.length (by have := q.1.n3; omega) h.1 h.2.1
  have hr := idx_asc s a.length
  exact shr_VS (kY_len _ _ _ _) hr (h.2.2.1.clr (by rw [kY_len]; omega)) (fun p hp => kY_bd q.1 hk3 hr (by rw [← q.2]; exact hr) hp)
end Go.Proofs.Ytpchnoalamdhkaa

/- The shares of some strategies at which these have as much, by the model. -/
namespace Go.Proofs.Ytpchnoalamdhkaa
open Go.RowKit
open V (sumN detN rowC colC cofN minorN skip sgn Asc)

/-- The first j numbers of row p of the differences; the first i rows. -/
def dfR (a : List (List Int)) (r : Nat → Nat) (p j : Nat) : List Int := (List.range j).map fun q => mf a r p q
def dfL (a : List (List Int)) (r : Nat → Nat) (k i : Nat) : List (List Int) := (List.range i).map fun p => dfR a r p k
theorem dfR_succ (a : List (List Int)) (r : Nat → Nat) (p j : Nat) : dfR a r p (j + 1) = dfR a r p j ++ [mf a r p j] := by simp [dfR, List.range_succ]
theorem dfL_succ (a : List (List Int)) (r : Nat → Nat) (k i : Nat) : dfL a r k (i + 1) = dfL a r k i ++ [dfR a r i k] := by simp [dfL, List.range_succ]
theorem dfR_len (a : List (List Int)) (r : Nat → Nat) (p j : Nat) : (dfR a r p j).length = j := by simp [dfR]
theorem dfL_len (a : List (List Int)) (r : Nat → Nat) (k i : Nat) : (dfL a r k i).length = i := by simp [dfL]
theorem dfL_sq (a : List (List Int)) (r : Nat → Nat) (k : Nat) : Sq k (dfL a r k k) (mf a r) :=
  ⟨dfL_len _ _ _ _, fun p hp => by rw [gr_get (by rw [dfL_len]; exact hp)]; simp [dfL, dfR], fun p q hp hq => by
    unfold g2; rw [gr_get (by rw [dfL_len]; exact hp), gi_get (by simp [dfL, dfR]; exact hq)]; simp [dfL, dfR]⟩
theorem dfR_zero {a : List (List Int)} {r : Nat → Nat} {p j : Nat} (h : p = 0) : dfR a r p (j + 1) = dfR a r p j ++ [1] := by subst h; exact dfR_succ _ _ _ _
theorem dfR_next {a : List (List Int)} {r : Nat → Nat} {p j : Nat} (h : p ≠ 0) : dfR a r p (j + 1) = dfR a r p j ++ [g2 a (r p) (r j) - g2 a (r 0) (r j)] := by
  rw [dfR_succ, mf, if_neg h]
theorem mf_odd {a : List (List Int)} {r : Nat → Nat} {k c : Nat} (hk : k ≤ 3) (hc : c < k) (h : c % 2 = 1) : gi (kY a r r k) c = -(detN (k - 1) (minorN (mf a r) 0 c)) := by
  rw [← mf_cof hk hc, cofN_odd (by omega)]
theorem mf_even {a : List (List Int)} {r : Nat → Nat} {k c : Nat} (hk : k ≤ 3) (hc : c < k) (h : ¬ c % 2 = 1) : gi (kY a r r k) c = detN (k - 1) (minorN (mf a r) 0 c) := by
  rw [← mf_cof hk hc, cofN_even (by omega)]

end Go.Proofs.Ytpchnoalamdhkaa

/- The rests of a table, by the model. -/
namespace Go.Proofs.Ytpchnoalamdhkaa
open Go.RowKit
open V (sumN detN rowC colC cofN minorN skip sgn Asc)

theorem shl_val' {n : Nat} (h : n ≤ 3) : ∃ P : Nat, wrap64 ((2 : Int) ^ n) = (P : Int) ∧ P = 2 ^ n := by
  refine ⟨2 ^ n, ?_, rfl⟩
  have : n = 0 ∨ n = 1 ∨ n = 2 ∨ n = 3 := by omega
  rcases this with rfl | rfl | rfl | rfl <;> (unfold wrap64; decide)
theorem NewT.from {w w1 w2 : World} {xss : List (List Int)} {e : Ending} (h : Below w.heap.size w w1) (k : NewT w1 xss e w2) : NewT w xss e w2 := by
  obtain ⟨A, n, c, g, e1, e2, ho, hb⟩ := k
  exact ⟨A, n, c, g, e1, e2, ho.mono h.size (Nat.le_refl _), below_up h hb⟩
theorem TM.new {wb vs xss w} {A : Option Addr} {n c : Nat} (h : TM wb (.slice A n c) vs xss w) (hm : xss.length ≤ 100) : NewT wb xss (.returned (.slice A n c)) w := by
  obtain ⟨A', n', c', gg, e, hn', hown⟩ := h.bo.owns (by omega)
  injection e with e1 e2 e3
  subst e1
  subst e2
  subst e3
  exact ⟨_, _, _, gg, rfl, hn', hown, h.up⟩
theorem NewT.none {w w' : World} {xss : List (List Int)} (h : Below w.heap.size w w') (hx : xss = []) : NewT w xss (.returned (.slice none 0 0)) w' := by
  subst hx
  exact ⟨_, _, _, 0, rfl, rfl, OwnR.nil _ _ _ _, h⟩
theorem resF_yes {a : List (List Int)} (h : VQ a) : resF a = resR a 8 := by unfold resF; rw [if_pos (pb_true h)]
theorem resF_no {a : List (List Int)} (h : ¬ VQ a) : resF a = [] := by unfold resF; rw [if_neg (by rw [pb_false h]; decide)]

end Go.Proofs.Ytpchnoalamdhkaa

/- The harness of the exact laws: a copy of a game marked; how many numbers it has. -/
namespace Go.Proofs.Ytpchnoalamdhkaa
open Go.RowKit

theorem szR_offs (left : Int) (xs : List (List Int)) (h : 0 ≤ szR left xs) : szR left xs = left - offs xs xs.length := by
  have key : ∀ (xs : List (List Int)) (left : Int), 0 ≤ szR left xs → szR left xs = left - ((xs.map List.length).sum : Nat) := by
    intro xs
    induction xs with
    | nil => intro left _; simp [szR]
    | cons x xs ih =>
      intro left h
      by_cases hn : szI left x.length < 0
      · rw [szR_neg hn] at h; omega
      · rw [szR_pos hn] at h ⊢
        rw [ih _ h]
        have : szI left x.length = left - x.length := by unfold szI at hn ⊢; split <;> simp_all
        rw [this]
        simp
        omega
  have key2 : ∀ k, k ≤ xs.length → offs xs k = (((xs.take k).map List.length).sum : Nat) := by
    intro k
    induction k with
    | zero => intro _; simp [offs]
    | succ k ih =>
      intro hk
      rw [offs, ih (by omega), List.take_succ_eq_append_getElem (by omega), List.map_append, List.sum_append, gr_get (by omega)]
      simp
  rw [key xs left h, key2 _ (Nat.le_refl _), List.take_length]
theorem szRR_offs {left : Int} {xs : List (List Int)} (h : ¬ szRR left xs < 0) : offs xs xs.length ≤ left := by
  unfold szRR at h
  split at h
  · omega
  · rename_i hn
    have := szR_offs _ _ (by omega : 0 ≤ szR (szI left xs.length) xs)
    have h2 : szI left xs.length ≤ left := by unfold szI at hn ⊢; split <;> simp_all; omega
    omega
theorem szG_offs {left : Int} {xs ys : List (List Int)} (h : ¬ szG left xs ys < 0) (h0 : 0 ≤ left) (h1 : left ≤ 1048576) : offs xs xs.length ≤ 1048576 ∧ offs ys ys.length ≤ 1048576 := by
  unfold szG at h
  split at h
  · omega
  · rename_i hn
    split at h
    · omega
    · rename_i hn2
      have := szRR_offs hn
      have := szRR_offs hn2
      have := szRR_le left xs h0 h1
      omega

/-- A game marked: only its own rows have turned, and new blocks are there. -/
def MarkedG (lo hi : Nat) (w : World) (xs ys : List (List Int)) (k : Int) (e : Ending) (w' : World) : Prop :=
  e = .returned (.int .i64 (k + offs xs xs.length + offs ys ys.length)) ∧ ∃ w1, Below w.heap.size w w1 ∧ Touch lo hi w1 w'

def MarkedP (lo hi : Nat) (w : World) (xs ys : List (List Int)) (k : Int) (n m : Nat) (e : Ending) (w' : World) : Prop :=
  e = .returned (.int .i64 (k + offs xs n + offs ys m)) ∧ ∃ w1, Below w.heap.size w w1 ∧ Touch lo hi w1 w'

set_option maxHeartbeats 1000000 in
theorem markGame_any (lo mid hi g g1 g2 n m : Nat) (xs ys : List (List Int)) (k : Int) (w : World) (hx : XS lo mid hi w g g1 g2 n m xs ys) (h0 : 0 ≤ k) (hk : k ≤ 1048576) (h1 : offs xs xs.length ≤ 1048576) (h2 : offs ys ys.length ≤ 1048576) :
    Calls Try.prog 51 #[.agg #[.slice (some ⟨g1, 0, none⟩) n n, .slice (some ⟨g2, 0, none⟩) m m], .int .i64 k] w (MarkedG lo hi w xs ys k) := by
  have hb0 := below_alloc w (.cells #[.slice (some ⟨g1, 0, none⟩) n n, .slice (some ⟨g2, 0, none⟩) m m] 25)
  have b0 := blk_new w 25 #[.slice (some ⟨g1, 0, none⟩) n n, .slice (some ⟨g2, 0, none⟩) m m]
  have HX := Lib.hid (hx.up hb0)
  have HB := Lib.hid hb0
  have HK := Lib.hid b0
  have hle := hx.le
  have hm1 := hx.h1
  have hm2 := hx.h2
  have hlx := hx.rx.len
  have hly := hx.ry.len
  have g1' := offs_ge xs xs.length
  have g2' := offs_ge ys ys.length
  rw [hlx] at h1 g1'
  rw [hly] at h2 g2'
  unfold MarkedG
  rw [hlx, hly]
  clear hx hb0 b0 hlx hly
  have HP : Hid (∀ e w', (e = .returned (.int .i64 (k + offs xs n + offs ys m)) ∧ ∃ w1, Below w.heap.size w w1 ∧ Touch lo hi w1 w') → MarkedP lo hi w xs ys k n m e w') := Lib.hid (fun _ _ h => h)
  suffices h : Calls Try.prog 51 #[.agg #[.slice (some ⟨g1, 0, none⟩) n n, .slice (some ⟨g2, 0, none⟩) m m], .int .i64 k] w (MarkedP lo hi w xs ys k n m) from h
  go_enter Try.func51, Try.ntmps51
  go_wp2_with fail
  generalize w.alloc (.cells #[.slice (some ⟨g1, 0, none⟩) n n, .slice (some ⟨g2, 0, none⟩) m m] 25) = W1 at *
  have HC := Lib.hid (markIntSS_any lo mid g1 _ n n xs k W1 HX.out.rx h0 (by omega))
  refine HC.out.mono ?_
  rintro e w1 ⟨rfl, _, hT⟩
  have hk1 := blk_touch HK.out hT (.inr (by omega))
  have c1 := blk_cell hk1 (i := 1) (v := .slice (some ⟨g2, 0, none⟩) m m) rfl
  have HC2 := Lib.hid (markIntSS_any mid hi g2 _ m m ys (k + offs xs n) w1 (HX.out.ry.touch hT (.inr (Nat.le_refl _))) (by omega) (by omega))
  have HT := Lib.hid hT
  clear hT HC
  go_wp2_with fail
  refine HC2.out.mono ?_
  rintro e w2 ⟨rfl, _, hT2⟩
  have HT2 := Lib.hid hT2
  clear hT2 HC2 c1
  go_wp2
  go_ret
  exact HP.out _ _ ⟨rfl, _, HB.out, (HT.out.mono (Nat.le_refl _) hm2).trans (HT2.out.mono hm1 (Nat.le_refl _))⟩

theorem offs_le {xss : List (List Int)} (h : ∀ r ∈ xss, r.length ≤ 3) : ∀ k, k ≤ xss.length → offs xss k ≤ 3 * k
  | 0, _ => by simp [offs]
  | k + 1, hk => by
    have h1 := offs_le h k (by omega)
    have h2 := h _ (gr_mem (xs := xss) (k := k) (by omega))
    simp only [offs]
    omega

/-- What an exact law on a game with rows as its result knows: its argument, the program's own copy of it, the model's rows, the program's rows. -/
structure Ex (w : World) (A B : Option Addr) (n c m d : Nat) (xs ys : List (List Int)) (lo mid hi g g3 g4 S1 gs : Nat) (As : Option Addr) (cs L1 L2 gg : Nat) (Ag : Option Addr) (cg : Nat) (rs rg : List (List Int)) (W : World) : Prop where
  fg : GS w W A B n c m d xs ys
  fx : XS lo mid hi W g g3 g4 n m xs ys
  fs : OwnR S1 lo W gs As rs.length cs rs
  fr : OwnR L1 L2 W gg Ag rs.length cg rg
  h1 : w.heap.size < lo
  h2 : hi ≤ L1
  h3 : lo ≤ hi
theorem Ex.up {w A B n c m d xs ys lo mid hi g g3 g4 S1 gs As cs L1 L2 gg Ag cg rs rg W W'} (h : Ex w A B n c m d xs ys lo mid hi g g3 g4 S1 gs As cs L1 L2 gg Ag cg rs rg W) (k : Below W.heap.size W W') :
    Ex w A B n c m d xs ys lo mid hi g g3 g4 S1 gs As cs L1 L2 gg Ag cg rs rg W' :=
  ⟨h.fg.up k, h.fx.up k, h.fs.below k, h.fr.below k, h.h1, h.h2, h.h3⟩
theorem Ex.cells {w A B n c m d xs ys lo mid hi g g3 g4 S1 gs As cs L1 L2 gg Ag cg rs rg W} (h : Ex w A B n c m d xs ys lo mid hi g g3 g4 S1 gs As cs L1 L2 gg Ag cg rs rg W) :
    (W.cell? ⟨w.heap.size, 0, none⟩ = some (.slice A n c) ∧ W.cell? ⟨w.heap.size, 1, none⟩ = some (.slice B m d)) ∧ (W.cell? ⟨g, 0, none⟩ = some (.slice (some ⟨g3, 0, none⟩) n n) ∧ W.cell? ⟨g, 1, none⟩ = some (.slice (some ⟨g4, 0, none⟩) m m)) :=
  ⟨⟨h.fg.c0, h.fg.c1⟩, ⟨h.fx.c0, h.fx.c1⟩⟩
/-- .. behind the marks: the copy is no longer asked for. -/
structure Ey (w : World) (A B : Option Addr) (n c m d : Nat) (xs ys : List (List Int)) (lo S1 gs : Nat) (As : Option Addr) (cs L1 L2 gg : Nat) (Ag : Option Addr) (cg : Nat) (rs rg : List (List Int)) (W : World) : Prop where
  fg : GS w W A B n c m d xs ys
  fs : OwnR S1 lo W gs As rs.length cs rs
  fr : OwnR L1 L2 W gg Ag rs.length cg rg
  h1 : w.heap.size < lo
  h2 : lo ≤ L1
theorem Ey.up {w A B n c m d xs ys lo S1 gs As cs L1 L2 gg Ag cg rs rg W W'} (h : Ey w A B n c m d xs ys lo S1 gs As cs L1 L2 gg Ag cg rs rg W) (k : Below W.heap.size W W') : Ey w A B n c m d xs ys lo S1 gs As cs L1 L2 gg Ag cg rs rg W' :=
  ⟨h.fg.up k, h.fs.below k, h.fr.below k, h.h1, h.h2⟩
theorem Ex.mark {w A B n c m d xs ys lo mid hi g g3 g4 S1 gs As cs L1 L2 gg Ag cg rs rg W W1 W2} (h : Ex w A B n c m d xs ys lo mid hi g g3 g4 S1 gs As cs L1 L2 gg Ag cg rs rg W) (k : Below W.heap.size W W1) (t : Touch lo hi W1 W2) :
    Ey w A B n c m d xs ys lo S1 gs As cs L1 L2 gg Ag cg rs rg W2 :=
  ⟨(h.fg.up k).touch t h.h1, (h.fs.below k).touch t (.inl (Nat.le_refl _)), (h.fr.below k).touch t (.inr h.h2), h.h1, Nat.le_trans h.h3 h.h2⟩
theorem Ey.mark {w A B n c m d xs ys lo S1 gs As cs L1 L2 gg Ag cg rs rg rg' W W2} (h : Ey w A B n c m d xs ys lo S1 gs As cs L1 L2 gg Ag cg rs rg W) (t : Touch L1 L2 W W2) (hg : OwnR L1 L2 W2 gg Ag rs.length cg rg') :
    Ey w A B n c m d xs ys lo S1 gs As cs L1 L2 gg Ag cg rs rg' W2 :=
  ⟨h.fg.touch t (Nat.lt_of_lt_of_le h.h1 h.h2), h.fs.touch t (.inl h.h2), hg, h.h1, h.h2⟩
end Go.Proofs.Ytpchnoalamdhkaa

