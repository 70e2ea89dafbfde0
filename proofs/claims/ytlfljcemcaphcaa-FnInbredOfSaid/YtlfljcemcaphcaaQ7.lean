/- Texts merged: LiftB LiftC Enter RI KN9 Five. -/
import Derived.Test.YtlfljcemcaphcaaQ6
import Derived.ChangeSlices
/- An argument of bytes, opened. -/
namespace Go.Proofs.Ytlfljcemcaphcaa
open Go.ChangeShapes Go.WideShapes Go.ChangeAt Go.RowKit Go.Deep

theorem Try.cells_u8 : Try.prog.cellsOf 5 = 1 := by kernel_rfl
theorem Try.bytes_u8 : Try.prog.bytesOf 5 = 1 := by kernel_rfl
set_option maxRecDepth 100000 in
theorem open_bytes {H : Type} {enc : TypeId × Value → H} {W : World} {v : Value} {d : DataW H} {p : List MemPlace} {b0 : Nat} (hval : Value.okWide Try.prog W .any b0 38 v)
    (h : DataW.Trod enc Try.prog W 0 (fun _ => true) true 38 v d p) (hw : ∀ n ∈ d.weights Try.prog 38, n ≤ reachBytes) :
    ∃ A n c, v = .slice A n c ∧ Bytes W A n c := by
  obtain ⟨a1, len, cap, rfl⟩ := okWide_slice Try.underlying38 hval
  obtain ⟨fuel, hf⟩ := h
  rcases open_ints Try.underlying38 Try.underlying5 Try.cells_u8 hf with ⟨hcs, hx⟩ | ⟨a, len', cap', zs, hcs, _, hl, hm, hz, hx, hcell, hwz⟩
  · simp [Value.cells] at hcs
    obtain ⟨rfl, rfl, rfl⟩ := hcs
    exact ⟨none, 0, 0, rfl, Nat.le_refl _, by omega, fun h => absurd h (by omega)⟩
  · simp [Value.cells] at hcs
    obtain ⟨rfl, rfl, rfl⟩ := hcs
    simp only [Prod.mk.injEq] at hx
    obtain ⟨rfl, rfl⟩ := hx
    simp only [if_true] at hz
    have h1 := hw _ (weights_slice Try.underlying38 (.inl rfl))
    simp only [lits, List.length_map, List.length_take, List.length_drop, Try.bytes_u8, reachBytes] at h1
    refine ⟨some a, len, cap, rfl, hl, by omega, fun hn => ?_⟩
    have hspot : a.spot = none := by simpa [Addr.add] using World.cell?_spot (hcell 0 (by omega))
    obtain ⟨b, o, sp⟩ := a
    simp only at hspot
    subst hspot
    refine ⟨b, o, rfl, fun k hk => ⟨zs.getD k 0, ?_, ?_, by rw [← add_plain]; exact hcell k (by omega)⟩⟩
    · rw [List.getD_eq_getElem?_getD]; have := hwz (zs.getD k 0) (by rw [List.getD_eq_getElem?_getD, List.getElem?_eq_getElem (show k < zs.length by omega)]; simp)
      simp [Lit.wf, IntKind.min, IntKind.max, IntKind.signed, IntKind.bits] at this
      omega
    · rw [List.getD_eq_getElem?_getD]; have := hwz (zs.getD k 0) (by rw [List.getD_eq_getElem?_getD, List.getElem?_eq_getElem (show k < zs.length by omega)]; simp)
      simp [Lit.wf, IntKind.min, IntKind.max, IntKind.signed, IntKind.bits] at this
      omega
end Go.Proofs.Ytlfljcemcaphcaa

/- Arguments that are a slice of ints, or an int, opened. -/
namespace Go.Proofs.Ytlfljcemcaphcaa
open Go.ChangeShapes Go.WideShapes Go.ChangeAt Go.RowKit Go.Deep

set_option maxRecDepth 100000 in
theorem open_intS {H : Type} {enc : TypeId × Value → H} {W : World} {v : Value} {d : DataW H} {p : List MemPlace} {b0 : Nat} (hval : Value.okWide Try.prog W .any b0 43 v)
    (h : DataW.Trod enc Try.prog W 0 (fun _ => true) true 43 v d p) (hw : ∀ n ∈ d.weights Try.prog 43, n ≤ reachBytes) :
    ∃ A n c xs, v = .slice A n c ∧ Ints W A n c xs := by
  obtain ⟨a1, len, cap, rfl⟩ := okWide_slice Try.underlying43 hval
  obtain ⟨fuel, hf⟩ := h
  rcases open_ints Try.underlying43 Try.underlying3 Try.cells3 hf with ⟨hcs, hx⟩ | ⟨a, len', cap', zs, hcs, _, hl, hm, hz, hx, hcell, hwz⟩
  · simp [Value.cells] at hcs
    obtain ⟨rfl, rfl, rfl⟩ := hcs
    exact ⟨none, 0, 0, [], rfl, rfl, Nat.le_refl _, by omega, fun _ h => by simp at h, fun h => absurd h (by omega)⟩
  · simp [Value.cells] at hcs
    obtain ⟨rfl, rfl, rfl⟩ := hcs
    simp only [Prod.mk.injEq] at hx
    obtain ⟨rfl, rfl⟩ := hx
    simp only [if_true] at hz
    have h1 := hw _ (weights_slice Try.underlying43 (.inl rfl))
    simp only [lits, List.length_map, List.length_take, List.length_drop, Try.bytes3, reachBytes] at h1
    have hlen : (zs.take len).length = len := by rw [List.length_take]; omega
    refine ⟨some a, len, cap, zs.take len, rfl, hlen, hl, by omega, fun x hx => ?_, fun hn => ?_⟩
    · have := hwz x (List.mem_of_mem_take hx)
      simp [Lit.wf, IntKind.min, IntKind.max, IntKind.signed, IntKind.bits] at this
      omega
    have hspot : a.spot = none := by simpa [Addr.add] using World.cell?_spot (hcell 0 (by omega))
    obtain ⟨b, o, sp⟩ := a
    simp only at hspot
    subst hspot
    refine ⟨b, o, rfl, fun k hk => ?_⟩
    rw [← add_plain, hcell k (by omega)]
    congr 2
    rw [gi_get (by rw [hlen]; exact hk), List.getElem_take]
    simp [List.getD, show k < zs.length by omega]

set_option maxRecDepth 100000 in
theorem open_num {H : Type} {enc : TypeId × Value → H} {W : World} {v : Value} {d : DataW H} {p : List MemPlace} {b0 : Nat} (hval : Value.okWide Try.prog W .any b0 3 v)
    (h : DataW.Trod enc Try.prog W 0 (fun _ => true) true 3 v d p) : ∃ x, v = .int .i64 x ∧ Fit x := by
  obtain ⟨x, rfl, _, _, hw⟩ := open_int Try.underlying3 hval h
  refine ⟨x, rfl, ?_⟩
  simp [Lit.wf, IntKind.min, IntKind.max, IntKind.signed, IntKind.bits] at hw
  unfold Fit
  omega
end Go.Proofs.Ytlfljcemcaphcaa

/- The program may be entered: facts of its head, once for all laws. -/
namespace Go.Proofs.Ytlfljcemcaphcaa

theorem prog_enters : Try.pinned.checked.prog.mayEnter = true := by kernel_rfl
theorem prog_lifts0 : (false == Try.pinned.checked.prog.liftsFinal) = true := by kernel_rfl
theorem prog_make0 : (Try.pinned.checked.prog.make == some .cut) = true := by kernel_rfl
theorem prog_lifts {b : Bool} (h : b = false) : (b == Try.pinned.checked.prog.liftsFinal) = true := by subst h; exact prog_lifts0
theorem prog_make {m : Make} (h : m = .cut) : (Try.pinned.checked.prog.make == some m) = true := by subst h; exact prog_make0
end Go.Proofs.Ytlfljcemcaphcaa

/- A region that draws its order, by an invariant: each operation is run once, whatever has come up before it. -/
namespace Go.Proofs.Ytlfljcemcaphcaa
open Go.RowKit

/-- Operation j has come up. -/
def On (L : Array Bool) (j : Nat) : Prop := L.getD j false = true
theorem On.of_set {L : Array Bool} {i j : Nat} (h : On (L.setIfInBounds i true) j) (hne : i ≠ j) : On L j := by
  unfold On at *; rwa [getD_set_ne false hne] at h
theorem On.old {L : Array Bool} {i j : Nat} (h : On L j) : On (L.setIfInBounds i true) j := by
  unfold On at *; exact getD_set_true h
theorem On.not_start {n j : Nat} (h : On (Array.replicate n false) j) : False := by
  unfold On at h
  rcases Nat.lt_or_ge j n with h' | h'
  · simp [h'] at h
  · simp [h'] at h
/-- What an operation waits for. -/
def waitsOn (ops : Array Oper) (i : Nat) : List Nat :=
  match ops[i]? with
  | some o => (o.after.toList.filter (Region.binds .any)).map (·.on)
  | none => []
def earlierB (ops : Array Oper) : Bool := (List.range ops.size).all fun i => (waitsOn ops i).all fun j => decide (j < i)
theorem mem_waits {ops : Array Oper} {i : Nat} {o : Oper} (ho : ops[i]? = some o) {e : Edge} (he : e ∈ o.after) (hb : Region.binds .any e = true) : e.on ∈ waitsOn ops i := by
  unfold waitsOn; rw [ho]; exact List.mem_map.2 ⟨e, List.mem_filter.2 ⟨by simpa using he, hb⟩, rfl⟩
theorem waits_mem {ops : Array Oper} {i j : Nat} {o : Oper} (ho : ops[i]? = some o) (h : j ∈ waitsOn ops i) : ∃ e ∈ o.after, Region.binds .any e = true ∧ e.on = j := by
  unfold waitsOn at h; rw [ho] at h
  obtain ⟨e, he, hj⟩ := List.mem_map.1 h
  obtain ⟨h1, h2⟩ := List.mem_filter.1 he
  exact ⟨e, by simpa using h1, h2, hj⟩

section
variable {P : Program} {ops : Array Oper} {Q : Exit → Act → World → Prop} {I : Array Bool → Act → World → Prop}
/-- The operation i, run in whatever state the invariant allows. -/
def StepI (P : Program) (ops : Array Oper) (Q : Exit → Act → World → Prop) (I : Array Bool → Act → World → Prop) (i : Nat) : Prop :=
  ∀ L a w, I L a w → ¬ On L i → On (L.setIfInBounds i true) i → (∀ j ∈ waitsOn ops i, On L j) → wpOp P ops Q i (fun a' w' => I (L.setIfInBounds i true) a' w') a w
def StepsI (P : Program) (ops : Array Oper) (Q : Exit → Act → World → Prop) (I : Array Bool → Act → World → Prop) (rs : List Nat) : Prop := ∀ i ∈ rs, StepI P ops Q I i
theorem StepsI.nil : StepsI P ops Q I [] := fun _ h => by cases h
theorem StepsI.cons {i : Nat} {o : Oper} {ws rs : List Nat} (ho : ops[i]? = some o) (hw : waitsOn ops i = ws)
    (h : ∀ L a w, I L a w → ¬ On L i → On (L.setIfInBounds i true) i → (∀ j ∈ ws, On L j) → ∀ K' : Act → World → Prop, Shut (∀ a w, I (L.setIfInBounds i true) a w → K' a w) → if Region.wanted o (yielded ops a.tmps) = true then Oper.wp P o a w K' Q else K' (a.put o.dst undef) w)
    (hs : StepsI P ops Q I rs) : StepsI P ops Q I (i :: rs) := fun j hj => by
  rcases List.mem_cons.1 hj with rfl | hj
  · intro L a w hI hn hi hL
    rw [hw] at hL
    exact wpOp_step ho (fun K' hK => h L a w hI hn hi hL K' hK)
  · exact hs j hj

theorem wpAny_inv (hs : ∀ i, i < ops.size → StepI P ops Q I i) (he : earlierB ops = true) (hend : ∀ L a w, (∀ i, i < ops.size → On L i) → I L a w → Q .normal a w) :
    ∀ (fuel : Nat) (L : Array Bool) (a : Act) (w : World), L.size = ops.size → L.toList.countP (fun b => !b) ≤ fuel → I L a w → wpAny P .any ops Q fuel L a w := by
  have hall : ∀ L : Array Bool, L.size = ops.size → Region.ready .any ops L = [] → ∀ i, i < ops.size → On L i := by
    intro L hL hr i
    induction i using Nat.strongRecOn with
    | _ i ih =>
      intro hi
      apply Classical.byContradiction
      intro hn
      have ho : ops[i]? = some ops[i] := Array.getElem?_eq_getElem hi
      have hmem : i ∈ Region.ready .any ops L := by
        rw [mem_ready]
        refine ⟨?_, ops[i], ho, fun e hee hb => ?_⟩
        · have hiL : i < L.size := by omega
          unfold On at hn
          simp only [Array.getD_eq_getD_getElem?, Array.getElem?_eq_getElem hiL, Option.getD_some] at hn ⊢
          cases hx : L[i] with
          | true => exact absurd hx hn
          | false => rfl
        · have hm := mem_waits ho hee hb
          have hlt : e.on < i := by
            unfold earlierB at he
            have h1 := List.all_eq_true.1 he i (List.mem_range.2 hi)
            have h2 := List.all_eq_true.1 h1 _ hm
            simpa using h2
          exact ih e.on hlt (by omega)
      rw [hr] at hmem
      cases hmem
  intro fuel
  induction fuel with
  | zero =>
    intro L a w hL hc hI
    have hon : ∀ i, i < ops.size → On L i := fun i hi => by
      have hiL : i < L.size := by omega
      have h0 : L.toList.countP (fun b => !b) = 0 := by omega
      rw [List.countP_eq_zero] at h0
      have := h0 L[i] (by simp)
      unfold On
      simp only [Array.getD_eq_getD_getElem?, Array.getElem?_eq_getElem hiL, Option.getD_some]
      simpa using this
    refine ⟨?_, hend L a w hon hI⟩
    cases hr : Region.ready .any ops L with
    | nil => rfl
    | cons i rs =>
      have hi : i ∈ Region.ready .any ops L := by rw [hr]; simp
      obtain ⟨h0, o, ho, _⟩ := mem_ready.1 hi
      have hlt : i < ops.size := (Array.getElem?_eq_some_iff.1 ho).1
      have h1 := hon i hlt
      have hiL : i < L.size := by omega
      unfold On at h1
      simp only [Array.getD_eq_getD_getElem?, Array.getElem?_eq_getElem hiL, Option.getD_some] at h0 h1
      rw [h0] at h1; cases h1
  | succ fuel ih =>
    intro L a w hL hc hI
    refine ⟨fun hr => hend L a w (hall L hL hr) hI, fun i hi => ?_⟩
    obtain ⟨h0, o, ho, hw⟩ := mem_ready.1 hi
    have hlt : i < ops.size := (Array.getElem?_eq_some_iff.1 ho).1
    have hiL : i < L.size := by omega
    refine wpOp_mono (fun a' w' h => ih _ a' w' (by simpa using hL) ?_ h) (hs i hlt L a w hI ?_ ?_ (fun j hj => ?_))
    · have hb : L[i] = false := by simpa [Array.getD_eq_getD_getElem?, Array.getElem?_eq_getElem hiL] using h0
      rw [Array.toList_setIfInBounds, List.countP_set (by simpa using hiL)]
      have h1 : 0 < L.toList.countP (fun b => !b) := List.countP_pos_iff.2 ⟨L[i], by simp, by simp [hb]⟩
      have h2 : (if (!L.toList[i]'(by simpa using hiL)) = true then 1 else 0) = 1 := by simp [hb]
      have h3 : (if (!true) = true then 1 else 0) = 0 := by simp
      rw [h2, h3]
      omega
    · unfold On
      simp only [Array.getD_eq_getD_getElem?, Array.getElem?_eq_getElem hiL, Option.getD_some] at h0 ⊢
      rw [h0]; decide
    · unfold On
      simp [hiL]
    · obtain ⟨e, he1, he2, rfl⟩ := waits_mem ho hj
      exact hw e he1 he2

theorem wp_region_inv {id : Nat} {a : Act} {w : World} {rs : List Nat} (I : Array Bool → Act → World → Prop) (hm : P.follows .mixedOrders = true) (h0 : I (Array.replicate ops.size false) a w.drew)
    (hr : List.range ops.size = rs) (he : earlierB ops = true) (hs : StepsI P ops Q I rs) (hend : ∀ L a w, (∀ i, i ∈ rs → On L i) → I L a w → Q .normal a w) : (Code.region id ops true).wp P Q a w :=
  wp_region_any hm (wpAny_inv (I := I) (fun i hi => hs i (by rw [← hr]; exact List.mem_range.2 hi)) he (fun L a w h => hend L a w (fun i hi => h i (by rw [← hr] at hi; exact List.mem_range.1 hi))) ops.size _ a _ (by simp)
    (by rw [Array.toList_replicate]; exact Nat.le_trans List.countP_le_length (by simp)) h0)
end
/-- A frame with other values in some slots, and what is known of these and of the world. -/
def FI (a0 : Act) (ds : List Nat) (J : Array Bool → List Value → World → Prop) (L : Array Bool) (a : Act) (w : World) : Prop := ∃ us, a = frmL a0 ds us ∧ J L us w
theorem wp_region_invF {P : Program} {ops : Array Oper} {Q : Exit → Act → World → Prop} {id : Nat} {a : Act} {w : World} {rs : List Nat} (ds : List Nat) (J : Array Bool → List Value → World → Prop) (hm : P.follows .mixedOrders = true)
    (h0 : ∃ us, a = frmL a ds us ∧ J (Array.replicate ops.size false) us w.drew)
    (hr : List.range ops.size = rs) (he : earlierB ops = true) (hs : StepsI P ops Q (FI a ds J) rs) (hend : ∀ L us w, (∀ i, i ∈ rs → On L i) → J L us w → Q .normal (frmL a ds us) w) : (Code.region id ops true).wp P Q a w :=
  wp_region_inv (FI a ds J) hm h0 hr he hs (fun L a' w h ⟨us, e, hJ⟩ => by subst e; exact hend L us w h hJ)
end Go.Proofs.Ytlfljcemcaphcaa

/- HelpPays, by the program. -/
namespace Go.Proofs.Ytlfljcemcaphcaa
open Go.RowKit

theorem lessK_impl (x y : Int) (w : World) (hx : -200000 ≤ x ∧ x ≤ 200000) (hy : -200000 ≤ y ∧ y ≤ 200000) : Calls Try.prog 52 #[fK x, fK y] w (Ret (.bool (decide (x < y))) w) := by
  have h1 := fK_u hx
  have h2 := fK_u hy
  have h3 := fK_d x
  have h4 := fK_d y
  have h := less_impl (frU x 64) (frD x 64) (frU y 64) (frD y 64) w (by omega) (by omega) (by omega) (by omega)
  rw [fK_less] at h
  exact h
/-- A fraction times a number. -/
theorem fracM_impl_K {x s : Int} (hs : Blw 1001 s) (hx : 0 ≤ x ∧ x < 64) : (-200000 ≤ frU x 64 * s ∧ frU x 64 * s ≤ 200000) ∧ (1 ≤ frD x 64 ∧ frD x 64 ≤ 64) ∧ frV (frU x 64 * s) (frD x 64) = fK (x * s) := by
  have h1 := frU_le (u := x) (d := 64) (B := 64) (by omega) hx.1 (by omega)
  have h3 := fK_d x
  have r1 := fr_ratio x 64
  have m1 : 0 * s ≤ frU x 64 * s := Int.mul_le_mul_of_nonneg_right h1.1 hs.1
  have m2 : frU x 64 * s ≤ 64 * 1000 := Int.mul_le_mul h1.2 (by have := hs.2; omega) hs.1 (by omega)
  refine ⟨by omega, h3, frV_K (by omega) ?_⟩
  grind
/-- Both kinships, on the way. -/
structure R4H (f : List (List Int)) (g n i j : Nat) (U1 D1 U2 D2 : Int) (w2 : World) (L : Array Bool) (u32 u33 u34 u35 u36 u37 u38 u39 u40 u41 u42 u43 u44 u45 u46 u47 u48 u49 u50 u51 u12 u13 : Value) (q12 : Nat) (q13 : Nat) (x12 : Int) (y12 : Int) (x13 : Int) (y13 : Int) (W : World) : Prop where
  bw : Below w2.heap.size w2 W
  h0 : On L 0 → u32 = .slice (some ⟨g, 0, none⟩) n n
  h1 : On L 1 → u33 = .slice (some ⟨g, 0, none⟩) n n
  h2 : On L 2 → u34 = .int .i64 i
  h3 : On L 3 → u35 = .pointer (some ⟨g, i * 3, none⟩)
  h4 : On L 4 → u36 = .agg #[.int .i64 i, .int .i64 (g2 f i 0), .int .i64 (g2 f i 1)]
  h5 : On L 5 → u37 = .slice (some ⟨g, 0, none⟩) n n
  h6 : On L 6 → u38 = .int .i64 i
  h7 : On L 7 → u39 = .pointer (some ⟨g, i * 3, none⟩)
  h8 : On L 8 → u40 = .agg #[.int .i64 i, .int .i64 (g2 f i 0), .int .i64 (g2 f i 1)]
  h9 : On L 9 → u41 = .agg #[.int .i64 U1, .int .i64 D1]
  h10 : On L 10 → u42 = .slice (some ⟨g, 0, none⟩) n n
  h11 : On L 11 → u43 = .slice (some ⟨g, 0, none⟩) n n
  h12 : On L 12 → u44 = .int .i64 i
  h13 : On L 13 → u45 = .pointer (some ⟨g, i * 3, none⟩)
  h14 : On L 14 → u46 = .agg #[.int .i64 i, .int .i64 (g2 f i 0), .int .i64 (g2 f i 1)]
  h15 : On L 15 → u47 = .slice (some ⟨g, 0, none⟩) n n
  h16 : On L 16 → u48 = .int .i64 j
  h17 : On L 17 → u49 = .pointer (some ⟨g, j * 3, none⟩)
  h18 : On L 18 → u50 = .agg #[.int .i64 j, .int .i64 (g2 f j 0), .int .i64 (g2 f j 1)]
  h19 : On L 19 → u51 = .agg #[.int .i64 U2, .int .i64 D2]
  h20 : On L 20 → u12 = .pointer (some ⟨q12, 0, none⟩) ∧ w2.heap.size ≤ q12 ∧ Blk W q12 28 #[.int .i64 x12, .int .i64 y12]
  h21 : On L 21 → u13 = .pointer (some ⟨q13, 0, none⟩) ∧ w2.heap.size ≤ q13 ∧ Blk W q13 28 #[.int .i64 x13, .int .i64 y13]
  hne : On L 20 → On L 21 → q12 ≠ q13
  h22 : On L 22 → On L 20 ∧ x12 = U1 ∧ y12 = D1
  h23 : On L 23 → On L 21 ∧ x13 = U2 ∧ y13 = D2
theorem R4H.up {f g n i j U1 D1 U2 D2 w2 L u32 u33 u34 u35 u36 u37 u38 u39 u40 u41 u42 u43 u44 u45 u46 u47 u48 u49 u50 u51 u12 u13 q12 q13 x12 y12 x13 y13 W W'} (Hy : R4H f g n i j U1 D1 U2 D2 w2 L u32 u33 u34 u35 u36 u37 u38 u39 u40 u41 u42 u43 u44 u45 u46 u47 u48 u49 u50 u51 u12 u13 q12 q13 x12 y12 x13 y13 W) (k : Below W.heap.size W W') : R4H f g n i j U1 D1 U2 D2 w2 L u32 u33 u34 u35 u36 u37 u38 u39 u40 u41 u42 u43 u44 u45 u46 u47 u48 u49 u50 u51 u12 u13 q12 q13 x12 y12 x13 y13 W' :=
  ⟨below_up Hy.bw k, Hy.h0, Hy.h1, Hy.h2, Hy.h3, Hy.h4, Hy.h5, Hy.h6, Hy.h7, Hy.h8, Hy.h9, Hy.h10, Hy.h11, Hy.h12, Hy.h13, Hy.h14, Hy.h15, Hy.h16, Hy.h17, Hy.h18, Hy.h19, fun o => let ⟨a, b, d⟩ := (Hy.h20 o); ⟨a, b, blk_below d k⟩, fun o => let ⟨a, b, d⟩ := (Hy.h21 o); ⟨a, b, blk_below d k⟩, Hy.hne, Hy.h22, Hy.h23⟩

set_option maxRecDepth 100000 in
set_option maxHeartbeats 10000000 in
theorem HelpPays_impl (A : Option Addr) (n c : Nat) (f : List (List Int)) (i j s t : Int) (w : World) (hx : IntRows w A n c f) (hi : Fit i) (hj : Fit j) (_ : Fit s) (_ : Fit t) :
    Calls Try.prog 24 #[.slice A n c, .int .i64 i, .int .i64 j, .int .i64 s, .int .i64 t] w (Ret (.bool (pb (HOk f i j s t))) w) := by
  have hm := hx.max
  have HLN := Lib.hid hx.len
  have hb2 := below_alloc w (.cells #[.int .i64 i, .int .i64 j] 3)
  have HB := Lib.hid hb2
  have HXA := Lib.hid (hx.keep (Keep.below hb2))
  have hnum := Ints.two w i j hi hj
  have HC := Lib.hid (areFolk_any A n c f _ 2 2 [i, j] _ HXA.out hnum)
  rw [pb_congr AF_two] at HC
  clear hx hi hj hb2 hnum
  by_cases hok : KOk f i j
  · rw [pb_true hok] at HC
    have HS := Lib.hid (fun W => isBelow_any 1001 s W)
    by_cases hs : Blw 1001 s
    · rw [pb_true hs] at HS
      have HT := Lib.hid (fun W => isBelow_any 1001 t W)
      by_cases ht : Blw 1001 t
      · rw [pb_true ht] at HT
        have hv := hok.v
        have hok0 := hok
        obtain ⟨i, rfl, hi2⟩ := nat_of hok.i
        obtain ⟨j, rfl, hj2⟩ := nat_of hok.j
        have HEND : Hid (pb (HOk f i j s t) = decide (kK f i i * s < kK f i j * t)) := Lib.hid (by
          by_cases h : kK f i i * s < kK f i j * t
          · rw [pb_true (p := HOk f i j s t) ⟨hok0, hs, ht, by rw [Int.toNat_natCast, Int.toNat_natCast]; exact h⟩, decide_eq_true h]
          · rw [pb_false (p := HOk f i j s t) (fun k => h (by have := k.lt; rw [Int.toNat_natCast, Int.toNat_natCast] at this; exact this)), decide_eq_false h])
        rw [HEND.out]
        have HPO := Lib.hid (fun W h => peopleOf_any A n c f hv W h)
        have HiN := Lib.hid (show i < n by rw [← HLN.out]; exact hi2)
        have HjN := Lib.hid (show j < n by rw [← HLN.out]; exact hj2)
        have hin := HiN.out
        have hjn := HjN.out
        have hn6 : n ≤ 6 := by rw [← HLN.out]; exact hv.n6
        have HL := Lib.hid (fun W => lessK_impl (kK f i i * s) (kK f i j * t) W (mulK hs) (mulK ht))
        obtain ⟨m1, m2, m3⟩ := fracM_impl_K (x := kK f i i) hs (kK_bd f i i)
        obtain ⟨m4, m5, m6⟩ := fracM_impl_K (x := kK f i j) ht (kK_bd f i j)
        have HF1 := Lib.hid (fun W => m3 ▸ fracOf_any (frU (kK f i i) 64 * s) (frD (kK f i i) 64) W (by unfold Mid; omega) (by unfold Mid; omega) m2.1)
        have HF2 := Lib.hid (fun W => m6 ▸ fracOf_any (frU (kK f i j) 64 * t) (frD (kK f i j) 64) W (by unfold Mid; omega) (by unfold Mid; omega) m5.1)
        have HK1 : Hid (∀ g W, PE W g n f → Calls Try.prog 44 #[.slice (some ⟨g, 0, none⟩) n n, .agg #[.int .i64 i, .int .i64 (g2 f i 0), .int .i64 (g2 f i 1)], .agg #[.int .i64 i, .int .i64 (g2 f i 0), .int .i64 (g2 f i 1)]] W (Ret (.agg #[.int .i64 (frU (kK f i i) 64), .int .i64 (frD (kK f i i) 64)]) W)) := Lib.hid (fun g W h => kinI_any g n f hv HLN.out (i + i + 1) i i hin hin (by omega) W h)
        have HK2 : Hid (∀ g W, PE W g n f → Calls Try.prog 44 #[.slice (some ⟨g, 0, none⟩) n n, .agg #[.int .i64 i, .int .i64 (g2 f i 0), .int .i64 (g2 f i 1)], .agg #[.int .i64 j, .int .i64 (g2 f j 0), .int .i64 (g2 f j 1)]] W (Ret (.agg #[.int .i64 (frU (kK f i j) 64), .int .i64 (frD (kK f i j) 64)]) W)) := Lib.hid (fun g W h => kinI_any g n f hv HLN.out (i + j + 1) i j hin hjn (by omega) W h)
        have w1 : IntKind.i64.wrap (frU (kK f i i) 64 * s) = frU (kK f i i) 64 * s := wrap_in64 (by omega)
        have w2 : IntKind.i64.wrap (frU (kK f i j) 64 * t) = frU (kK f i j) 64 * t := wrap_in64 (by omega)
        have HW1 := Lib.hid w1
        have HW2 := Lib.hid w2
        clear hok hok0 hv hi2 hj2 hs ht m3 m6 w1 w2 HEND
        generalize decide (kK f i i * s < kK f i j * t) = B at *
        generalize fK (kK f i i * s) = V1 at *
        generalize fK (kK f i j * t) = V2 at *
        generalize frU (kK f i i) 64 = U1 at *
        generalize frD (kK f i i) 64 = D1 at *
        generalize frU (kK f i j) 64 = U2 at *
        generalize frD (kK f i j) 64 = D2 at *
        clear m1 m2 m4 m5
        go_enter Try.func24, Try.ntmps24
        go_wp2_with fail
        refine HC.out.mono ?_
        rintro e w1 ⟨rfl, hq⟩
        have hb := hq.below (B := (w.alloc (.cells #[.int .i64 i, .int .i64 j] 3)).heap.size)
        have HB := Lib.hid (below_up HB.out hb)
        have HXA := Lib.hid (HXA.out.keep (Keep.below hb))
        clear hb hq HC
        go_wp2_with (go_at_call 50; (first | (with_reducible refine (HS.out _).mono ?_) | (with_reducible refine (HT.out _).mono ?_)); rintro e w' ⟨rfl, rfl⟩)
        refine (HPO.out _ HXA.out).mono ?_
        rintro e w2 ⟨g, rfl, hpe, hb⟩
        have HB := Lib.hid (below_up HB.out hb)
        have HE := Lib.hid hpe
        have HK1 := Lib.hid (fun W => HK1.out g W)
        have HK2 := Lib.hid (fun W => HK2.out g W)
        clear hb hpe HPO HXA HS HT
        go_wp2
        refine wp_region_invF (rs := [0, 1, 2, 3, 4, 5, 6, 7, 8, 9, 10, 11, 12, 13, 14, 15, 16, 17, 18, 19, 20, 21, 22, 23]) [32, 33, 34, 35, 36, 37, 38, 39, 40, 41, 42, 43, 44, 45, 46, 47, 48, 49, 50, 51, 12, 13] (fun L us W => ∃ u32 u33 u34 u35 u36 u37 u38 u39 u40 u41 u42 u43 u44 u45 u46 u47 u48 u49 u50 u51 u12 u13 q12 q13 x12 y12 x13 y13, us = [u32, u33, u34, u35, u36, u37, u38, u39, u40, u41, u42, u43, u44, u45, u46, u47, u48, u49, u50, u51, u12, u13] ∧ R4H f g n i j U1 D1 U2 D2 w2 L u32 u33 u34 u35 u36 u37 u38 u39 u40 u41 u42 u43 u44 u45 u46 u47 u48 u49 u50 u51 u12 u13 q12 q13 x12 y12 x13 y13 W) (by kernel_rfl) ?_ (by kernel_rfl) (by kernel_rfl) ?_ ?_
        · refine ⟨[undef, undef, undef, undef, undef, undef, undef, undef, undef, undef, undef, undef, undef, undef, undef, undef, undef, undef, undef, undef, undef, undef], ?_, undef, undef, undef, undef, undef, undef, undef, undef, undef, undef, undef, undef, undef, undef, undef, undef, undef, undef, undef, undef, undef, undef, 0, 0, 0, 0, 0, 0, rfl, ?_⟩
          · simp only [frmL, Act.put, List.setIfInBounds_toArray, List.set_cons_zero, List.set_cons_succ]
          exact ⟨Quiet.below ⟨1, rfl⟩, fun o => o.not_start.elim, fun o => o.not_start.elim, fun o => o.not_start.elim, fun o => o.not_start.elim, fun o => o.not_start.elim, fun o => o.not_start.elim, fun o => o.not_start.elim, fun o => o.not_start.elim, fun o => o.not_start.elim, fun o => o.not_start.elim, fun o => o.not_start.elim, fun o => o.not_start.elim, fun o => o.not_start.elim, fun o => o.not_start.elim, fun o => o.not_start.elim, fun o => o.not_start.elim, fun o => o.not_start.elim, fun o => o.not_start.elim, fun o => o.not_start.elim, fun o => o.not_start.elim, fun o => o.not_start.elim, fun o => o.not_start.elim, fun o _ => o.not_start.elim, fun o => o.not_start.elim, fun o => o.not_start.elim⟩
        · refine StepsI.cons (i := 0) (ws := []) rfl (by kernel_rfl) (fun L a W hI hno hon hw K hK => ?_) ?_
          · obtain ⟨_, rfl, u32, u33, u34, u35, u36, u37, u38, u39, u40, u41, u42, u43, u44, u45, u46, u47, u48, u49, u50, u51, u12, u13, q12, q13, x12, y12, x13, y13, rfl, H⟩ := hI
            simp only [List.getElem_toArray, List.getElem_cons_zero]
            simp only [frmL, Act.put, List.setIfInBounds_toArray, List.set_cons_zero, List.set_cons_succ]
            go_simp
            have HN := H
            refine hK.out _ _ ⟨[.slice (some ⟨g, 0, none⟩) n n, u33, u34, u35, u36, u37, u38, u39, u40, u41, u42, u43, u44, u45, u46, u47, u48, u49, u50, u51, u12, u13], ?_, .slice (some ⟨g, 0, none⟩) n n, u33, u34, u35, u36, u37, u38, u39, u40, u41, u42, u43, u44, u45, u46, u47, u48, u49, u50, u51, u12, u13, q12, q13, x12, y12, x13, y13, rfl, ?_⟩
            · simp only [frmL, Act.put, List.setIfInBounds_toArray, List.set_cons_zero, List.set_cons_succ]
            · exact ⟨HN.bw, fun _ => rfl, fun o => HN.h1 (o.of_set (by decide)), fun o => HN.h2 (o.of_set (by decide)), fun o => HN.h3 (o.of_set (by decide)), fun o => HN.h4 (o.of_set (by decide)), fun o => HN.h5 (o.of_set (by decide)), fun o => HN.h6 (o.of_set (by decide)), fun o => HN.h7 (o.of_set (by decide)), fun o => HN.h8 (o.of_set (by decide)), fun o => HN.h9 (o.of_set (by decide)), fun o => HN.h10 (o.of_set (by decide)), fun o => HN.h11 (o.of_set (by decide)), fun o => HN.h12 (o.of_set (by decide)), fun o => HN.h13 (o.of_set (by decide)), fun o => HN.h14 (o.of_set (by decide)), fun o => HN.h15 (o.of_set (by decide)), fun o => HN.h16 (o.of_set (by decide)), fun o => HN.h17 (o.of_set (by decide)), fun o => HN.h18 (o.of_set (by decide)), fun o => HN.h19 (o.of_set (by decide)), fun o => HN.h20 (o.of_set (by decide)), fun o => HN.h21 (o.of_set (by decide)), fun o o2 => HN.hne (o.of_set (by decide)) (o2.of_set (by decide)), fun o => (HN.h22 (o.of_set (by decide))).imp On.old id, fun o => (HN.h23 (o.of_set (by decide))).imp On.old id⟩
          refine StepsI.cons (i := 1) (ws := []) rfl (by kernel_rfl) (fun L a W hI hno hon hw K hK => ?_) ?_
          · obtain ⟨_, rfl, u32, u33, u34, u35, u36, u37, u38, u39, u40, u41, u42, u43, u44, u45, u46, u47, u48, u49, u50, u51, u12, u13, q12, q13, x12, y12, x13, y13, rfl, H⟩ := hI
            simp only [List.getElem_toArray, List.getElem_cons_zero, List.getElem_cons_succ]
            simp only [frmL, Act.put, List.setIfInBounds_toArray, List.set_cons_zero, List.set_cons_succ]
            go_simp
            have HN := H
            refine hK.out _ _ ⟨[u32, .slice (some ⟨g, 0, none⟩) n n, u34, u35, u36, u37, u38, u39, u40, u41, u42, u43, u44, u45, u46, u47, u48, u49, u50, u51, u12, u13], ?_, u32, .slice (some ⟨g, 0, none⟩) n n, u34, u35, u36, u37, u38, u39, u40, u41, u42, u43, u44, u45, u46, u47, u48, u49, u50, u51, u12, u13, q12, q13, x12, y12, x13, y13, rfl, ?_⟩
            · simp only [frmL, Act.put, List.setIfInBounds_toArray, List.set_cons_zero, List.set_cons_succ]
            · exact ⟨HN.bw, fun o => HN.h0 (o.of_set (by decide)), fun _ => rfl, fun o => HN.h2 (o.of_set (by decide)), fun o => HN.h3 (o.of_set (by decide)), fun o => HN.h4 (o.of_set (by decide)), fun o => HN.h5 (o.of_set (by decide)), fun o => HN.h6 (o.of_set (by decide)), fun o => HN.h7 (o.of_set (by decide)), fun o => HN.h8 (o.of_set (by decide)), fun o => HN.h9 (o.of_set (by decide)), fun o => HN.h10 (o.of_set (by decide)), fun o => HN.h11 (o.of_set (by decide)), fun o => HN.h12 (o.of_set (by decide)), fun o => HN.h13 (o.of_set (by decide)), fun o => HN.h14 (o.of_set (by decide)), fun o => HN.h15 (o.of_set (by decide)), fun o => HN.h16 (o.of_set (by decide)), fun o => HN.h17 (o.of_set (by decide)), fun o => HN.h18 (o.of_set (by decide)), fun o => HN.h19 (o.of_set (by decide)), fun o => HN.h20 (o.of_set (by decide)), fun o => HN.h21 (o.of_set (by decide)), fun o o2 => HN.hne (o.of_set (by decide)) (o2.of_set (by decide)), fun o => (HN.h22 (o.of_set (by decide))).imp On.old id, fun o => (HN.h23 (o.of_set (by decide))).imp On.old id⟩
          refine StepsI.cons (i := 2) (ws := []) rfl (by kernel_rfl) (fun L a W hI hno hon hw K hK => ?_) ?_
          · obtain ⟨_, rfl, u32, u33, u34, u35, u36, u37, u38, u39, u40, u41, u42, u43, u44, u45, u46, u47, u48, u49, u50, u51, u12, u13, q12, q13, x12, y12, x13, y13, rfl, H⟩ := hI
            simp only [List.getElem_toArray, List.getElem_cons_zero, List.getElem_cons_succ]
            simp only [frmL, Act.put, List.setIfInBounds_toArray, List.set_cons_zero, List.set_cons_succ]
            go_simp
            have HN := H
            refine hK.out _ _ ⟨[u32, u33, .int .i64 i, u35, u36, u37, u38, u39, u40, u41, u42, u43, u44, u45, u46, u47, u48, u49, u50, u51, u12, u13], ?_, u32, u33, .int .i64 i, u35, u36, u37, u38, u39, u40, u41, u42, u43, u44, u45, u46, u47, u48, u49, u50, u51, u12, u13, q12, q13, x12, y12, x13, y13, rfl, ?_⟩
            · simp only [frmL, Act.put, List.setIfInBounds_toArray, List.set_cons_zero, List.set_cons_succ]
            · exact ⟨HN.bw, fun o => HN.h0 (o.of_set (by decide)), fun o => HN.h1 (o.of_set (by decide)), fun _ => rfl, fun o => HN.h3 (o.of_set (by decide)), fun o => HN.h4 (o.of_set (by decide)), fun o => HN.h5 (o.of_set (by decide)), fun o => HN.h6 (o.of_set (by decide)), fun o => HN.h7 (o.of_set (by decide)), fun o => HN.h8 (o.of_set (by decide)), fun o => HN.h9 (o.of_set (by decide)), fun o => HN.h10 (o.of_set (by decide)), fun o => HN.h11 (o.of_set (by decide)), fun o => HN.h12 (o.of_set (by decide)), fun o => HN.h13 (o.of_set (by decide)), fun o => HN.h14 (o.of_set (by decide)), fun o => HN.h15 (o.of_set (by decide)), fun o => HN.h16 (o.of_set (by decide)), fun o => HN.h17 (o.of_set (by decide)), fun o => HN.h18 (o.of_set (by decide)), fun o => HN.h19 (o.of_set (by decide)), fun o => HN.h20 (o.of_set (by decide)), fun o => HN.h21 (o.of_set (by decide)), fun o o2 => HN.hne (o.of_set (by decide)) (o2.of_set (by decide)), fun o => (HN.h22 (o.of_set (by decide))).imp On.old id, fun o => (HN.h23 (o.of_set (by decide))).imp On.old id⟩
          refine StepsI.cons (i := 3) (ws := [1, 2]) rfl (by kernel_rfl) (fun L a W hI hno hon hw K hK => ?_) ?_
          · obtain ⟨_, rfl, u32, u33, u34, u35, u36, u37, u38, u39, u40, u41, u42, u43, u44, u45, u46, u47, u48, u49, u50, u51, u12, u13, q12, q13, x12, y12, x13, y13, rfl, H⟩ := hI
            simp only [List.getElem_toArray, List.getElem_cons_zero, List.getElem_cons_succ]
            obtain rfl := H.h1 (hw 1 (by simp))
            obtain rfl := H.h2 (hw 2 (by simp))
            simp only [frmL, Act.put, List.setIfInBounds_toArray, List.set_cons_zero, List.set_cons_succ]
            go_simp
            have HN := H
            refine hK.out _ _ ⟨[u32, .slice (some ⟨g, 0, none⟩) n n, .int .i64 i, .pointer (some ⟨g, i * 3, none⟩), u36, u37, u38, u39, u40, u41, u42, u43, u44, u45, u46, u47, u48, u49, u50, u51, u12, u13], ?_, u32, .slice (some ⟨g, 0, none⟩) n n, .int .i64 i, .pointer (some ⟨g, i * 3, none⟩), u36, u37, u38, u39, u40, u41, u42, u43, u44, u45, u46, u47, u48, u49, u50, u51, u12, u13, q12, q13, x12, y12, x13, y13, rfl, ?_⟩
            · simp only [frmL, Act.put, List.setIfInBounds_toArray, List.set_cons_zero, List.set_cons_succ]
            · exact ⟨HN.bw, fun o => HN.h0 (o.of_set (by decide)), fun o => HN.h1 (o.of_set (by decide)), fun o => HN.h2 (o.of_set (by decide)), fun _ => rfl, fun o => HN.h4 (o.of_set (by decide)), fun o => HN.h5 (o.of_set (by decide)), fun o => HN.h6 (o.of_set (by decide)), fun o => HN.h7 (o.of_set (by decide)), fun o => HN.h8 (o.of_set (by decide)), fun o => HN.h9 (o.of_set (by decide)), fun o => HN.h10 (o.of_set (by decide)), fun o => HN.h11 (o.of_set (by decide)), fun o => HN.h12 (o.of_set (by decide)), fun o => HN.h13 (o.of_set (by decide)), fun o => HN.h14 (o.of_set (by decide)), fun o => HN.h15 (o.of_set (by decide)), fun o => HN.h16 (o.of_set (by decide)), fun o => HN.h17 (o.of_set (by decide)), fun o => HN.h18 (o.of_set (by decide)), fun o => HN.h19 (o.of_set (by decide)), fun o => HN.h20 (o.of_set (by decide)), fun o => HN.h21 (o.of_set (by decide)), fun o o2 => HN.hne (o.of_set (by decide)) (o2.of_set (by decide)), fun o => (HN.h22 (o.of_set (by decide))).imp On.old id, fun o => (HN.h23 (o.of_set (by decide))).imp On.old id⟩
          refine StepsI.cons (i := 4) (ws := [3]) rfl (by kernel_rfl) (fun L a W hI hno hon hw K hK => ?_) ?_
          · obtain ⟨_, rfl, u32, u33, u34, u35, u36, u37, u38, u39, u40, u41, u42, u43, u44, u45, u46, u47, u48, u49, u50, u51, u12, u13, q12, q13, x12, y12, x13, y13, rfl, H⟩ := hI
            simp only [List.getElem_toArray, List.getElem_cons_zero, List.getElem_cons_succ]
            obtain rfl := H.h3 (hw 3 (by simp))
            simp only [frmL, Act.put, List.setIfInBounds_toArray, List.set_cons_zero, List.set_cons_succ]
            have c0 := (HE.out.keep (Keep.below H.bw)).c0 i HiN.out
            have c1 := (HE.out.keep (Keep.below H.bw)).c1 i HiN.out
            have c2 := (HE.out.keep (Keep.below H.bw)).c2 i HiN.out
            go_simp
            have HN := H
            refine hK.out _ _ ⟨[u32, u33, u34, .pointer (some ⟨g, i * 3, none⟩), .agg #[.int .i64 i, .int .i64 (g2 f i 0), .int .i64 (g2 f i 1)], u37, u38, u39, u40, u41, u42, u43, u44, u45, u46, u47, u48, u49, u50, u51, u12, u13], ?_, u32, u33, u34, .pointer (some ⟨g, i * 3, none⟩), .agg #[.int .i64 i, .int .i64 (g2 f i 0), .int .i64 (g2 f i 1)], u37, u38, u39, u40, u41, u42, u43, u44, u45, u46, u47, u48, u49, u50, u51, u12, u13, q12, q13, x12, y12, x13, y13, rfl, ?_⟩
            · simp only [frmL, Act.put, List.setIfInBounds_toArray, List.set_cons_zero, List.set_cons_succ]
            · exact ⟨HN.bw, fun o => HN.h0 (o.of_set (by decide)), fun o => HN.h1 (o.of_set (by decide)), fun o => HN.h2 (o.of_set (by decide)), fun o => HN.h3 (o.of_set (by decide)), fun _ => rfl, fun o => HN.h5 (o.of_set (by decide)), fun o => HN.h6 (o.of_set (by decide)), fun o => HN.h7 (o.of_set (by decide)), fun o => HN.h8 (o.of_set (by decide)), fun o => HN.h9 (o.of_set (by decide)), fun o => HN.h10 (o.of_set (by decide)), fun o => HN.h11 (o.of_set (by decide)), fun o => HN.h12 (o.of_set (by decide)), fun o => HN.h13 (o.of_set (by decide)), fun o => HN.h14 (o.of_set (by decide)), fun o => HN.h15 (o.of_set (by decide)), fun o => HN.h16 (o.of_set (by decide)), fun o => HN.h17 (o.of_set (by decide)), fun o => HN.h18 (o.of_set (by decide)), fun o => HN.h19 (o.of_set (by decide)), fun o => HN.h20 (o.of_set (by decide)), fun o => HN.h21 (o.of_set (by decide)), fun o o2 => HN.hne (o.of_set (by decide)) (o2.of_set (by decide)), fun o => (HN.h22 (o.of_set (by decide))).imp On.old id, fun o => (HN.h23 (o.of_set (by decide))).imp On.old id⟩
          refine StepsI.cons (i := 5) (ws := []) rfl (by kernel_rfl) (fun L a W hI hno hon hw K hK => ?_) ?_
          · obtain ⟨_, rfl, u32, u33, u34, u35, u36, u37, u38, u39, u40, u41, u42, u43, u44, u45, u46, u47, u48, u49, u50, u51, u12, u13, q12, q13, x12, y12, x13, y13, rfl, H⟩ := hI
            simp only [List.getElem_toArray, List.getElem_cons_zero, List.getElem_cons_succ]
            simp only [frmL, Act.put, List.setIfInBounds_toArray, List.set_cons_zero, List.set_cons_succ]
            go_simp
            have HN := H
            refine hK.out _ _ ⟨[u32, u33, u34, u35, u36, .slice (some ⟨g, 0, none⟩) n n, u38, u39, u40, u41, u42, u43, u44, u45, u46, u47, u48, u49, u50, u51, u12, u13], ?_, u32, u33, u34, u35, u36, .slice (some ⟨g, 0, none⟩) n n, u38, u39, u40, u41, u42, u43, u44, u45, u46, u47, u48, u49, u50, u51, u12, u13, q12, q13, x12, y12, x13, y13, rfl, ?_⟩
            · simp only [frmL, Act.put, List.setIfInBounds_toArray, List.set_cons_zero, List.set_cons_succ]
            · exact ⟨HN.bw, fun o => HN.h0 (o.of_set (by decide)), fun o => HN.h1 (o.of_set (by decide)), fun o => HN.h2 (o.of_set (by decide)), fun o => HN.h3 (o.of_set (by decide)), fun o => HN.h4 (o.of_set (by decide)), fun _ => rfl, fun o => HN.h6 (o.of_set (by decide)), fun o => HN.h7 (o.of_set (by decide)), fun o => HN.h8 (o.of_set (by decide)), fun o => HN.h9 (o.of_set (by decide)), fun o => HN.h10 (o.of_set (by decide)), fun o => HN.h11 (o.of_set (by decide)), fun o => HN.h12 (o.of_set (by decide)), fun o => HN.h13 (o.of_set (by decide)), fun o => HN.h14 (o.of_set (by decide)), fun o => HN.h15 (o.of_set (by decide)), fun o => HN.h16 (o.of_set (by decide)), fun o => HN.h17 (o.of_set (by decide)), fun o => HN.h18 (o.of_set (by decide)), fun o => HN.h19 (o.of_set (by decide)), fun o => HN.h20 (o.of_set (by decide)), fun o => HN.h21 (o.of_set (by decide)), fun o o2 => HN.hne (o.of_set (by decide)) (o2.of_set (by decide)), fun o => (HN.h22 (o.of_set (by decide))).imp On.old id, fun o => (HN.h23 (o.of_set (by decide))).imp On.old id⟩
          refine StepsI.cons (i := 6) (ws := []) rfl (by kernel_rfl) (fun L a W hI hno hon hw K hK => ?_) ?_
          · obtain ⟨_, rfl, u32, u33, u34, u35, u36, u37, u38, u39, u40, u41, u42, u43, u44, u45, u46, u47, u48, u49, u50, u51, u12, u13, q12, q13, x12, y12, x13, y13, rfl, H⟩ := hI
            simp only [List.getElem_toArray, List.getElem_cons_zero, List.getElem_cons_succ]
            simp only [frmL, Act.put, List.setIfInBounds_toArray, List.set_cons_zero, List.set_cons_succ]
            go_simp
            have HN := H
            refine hK.out _ _ ⟨[u32, u33, u34, u35, u36, u37, .int .i64 i, u39, u40, u41, u42, u43, u44, u45, u46, u47, u48, u49, u50, u51, u12, u13], ?_, u32, u33, u34, u35, u36, u37, .int .i64 i, u39, u40, u41, u42, u43, u44, u45, u46, u47, u48, u49, u50, u51, u12, u13, q12, q13, x12, y12, x13, y13, rfl, ?_⟩
            · simp only [frmL, Act.put, List.setIfInBounds_toArray, List.set_cons_zero, List.set_cons_succ]
            · exact ⟨HN.bw, fun o => HN.h0 (o.of_set (by decide)), fun o => HN.h1 (o.of_set (by decide)), fun o => HN.h2 (o.of_set (by decide)), fun o => HN.h3 (o.of_set (by decide)), fun o => HN.h4 (o.of_set (by decide)), fun o => HN.h5 (o.of_set (by decide)), fun _ => rfl, fun o => HN.h7 (o.of_set (by decide)), fun o => HN.h8 (o.of_set (by decide)), fun o => HN.h9 (o.of_set (by decide)), fun o => HN.h10 (o.of_set (by decide)), fun o => HN.h11 (o.of_set (by decide)), fun o => HN.h12 (o.of_set (by decide)), fun o => HN.h13 (o.of_set (by decide)), fun o => HN.h14 (o.of_set (by decide)), fun o => HN.h15 (o.of_set (by decide)), fun o => HN.h16 (o.of_set (by decide)), fun o => HN.h17 (o.of_set (by decide)), fun o => HN.h18 (o.of_set (by decide)), fun o => HN.h19 (o.of_set (by decide)), fun o => HN.h20 (o.of_set (by decide)), fun o => HN.h21 (o.of_set (by decide)), fun o o2 => HN.hne (o.of_set (by decide)) (o2.of_set (by decide)), fun o => (HN.h22 (o.of_set (by decide))).imp On.old id, fun o => (HN.h23 (o.of_set (by decide))).imp On.old id⟩
          refine StepsI.cons (i := 7) (ws := [5, 6]) rfl (by kernel_rfl) (fun L a W hI hno hon hw K hK => ?_) ?_
          · obtain ⟨_, rfl, u32, u33, u34, u35, u36, u37, u38, u39, u40, u41, u42, u43, u44, u45, u46, u47, u48, u49, u50, u51, u12, u13, q12, q13, x12, y12, x13, y13, rfl, H⟩ := hI
            simp only [List.getElem_toArray, List.getElem_cons_zero, List.getElem_cons_succ]
            obtain rfl := H.h5 (hw 5 (by simp))
            obtain rfl := H.h6 (hw 6 (by simp))
            simp only [frmL, Act.put, List.setIfInBounds_toArray, List.set_cons_zero, List.set_cons_succ]
            go_simp
            have HN := H
            refine hK.out _ _ ⟨[u32, u33, u34, u35, u36, .slice (some ⟨g, 0, none⟩) n n, .int .i64 i, .pointer (some ⟨g, i * 3, none⟩), u40, u41, u42, u43, u44, u45, u46, u47, u48, u49, u50, u51, u12, u13], ?_, u32, u33, u34, u35, u36, .slice (some ⟨g, 0, none⟩) n n, .int .i64 i, .pointer (some ⟨g, i * 3, none⟩), u40, u41, u42, u43, u44, u45, u46, u47, u48, u49, u50, u51, u12, u13, q12, q13, x12, y12, x13, y13, rfl, ?_⟩
            · simp only [frmL, Act.put, List.setIfInBounds_toArray, List.set_cons_zero, List.set_cons_succ]
            · exact ⟨HN.bw, fun o => HN.h0 (o.of_set (by decide)), fun o => HN.h1 (o.of_set (by decide)), fun o => HN.h2 (o.of_set (by decide)), fun o => HN.h3 (o.of_set (by decide)), fun o => HN.h4 (o.of_set (by decide)), fun o => HN.h5 (o.of_set (by decide)), fun o => HN.h6 (o.of_set (by decide)), fun _ => rfl, fun o => HN.h8 (o.of_set (by decide)), fun o => HN.h9 (o.of_set (by decide)), fun o => HN.h10 (o.of_set (by decide)), fun o => HN.h11 (o.of_set (by decide)), fun o => HN.h12 (o.of_set (by decide)), fun o => HN.h13 (o.of_set (by decide)), fun o => HN.h14 (o.of_set (by decide)), fun o => HN.h15 (o.of_set (by decide)), fun o => HN.h16 (o.of_set (by decide)), fun o => HN.h17 (o.of_set (by decide)), fun o => HN.h18 (o.of_set (by decide)), fun o => HN.h19 (o.of_set (by decide)), fun o => HN.h20 (o.of_set (by decide)), fun o => HN.h21 (o.of_set (by decide)), fun o o2 => HN.hne (o.of_set (by decide)) (o2.of_set (by decide)), fun o => (HN.h22 (o.of_set (by decide))).imp On.old id, fun o => (HN.h23 (o.of_set (by decide))).imp On.old id⟩
          refine StepsI.cons (i := 8) (ws := [7]) rfl (by kernel_rfl) (fun L a W hI hno hon hw K hK => ?_) ?_
          · obtain ⟨_, rfl, u32, u33, u34, u35, u36, u37, u38, u39, u40, u41, u42, u43, u44, u45, u46, u47, u48, u49, u50, u51, u12, u13, q12, q13, x12, y12, x13, y13, rfl, H⟩ := hI
            simp only [List.getElem_toArray, List.getElem_cons_zero, List.getElem_cons_succ]
            obtain rfl := H.h7 (hw 7 (by simp))
            simp only [frmL, Act.put, List.setIfInBounds_toArray, List.set_cons_zero, List.set_cons_succ]
            have c0 := (HE.out.keep (Keep.below H.bw)).c0 i HiN.out
            have c1 := (HE.out.keep (Keep.below H.bw)).c1 i HiN.out
            have c2 := (HE.out.keep (Keep.below H.bw)).c2 i HiN.out
            go_simp
            have HN := H
            refine hK.out _ _ ⟨[u32, u33, u34, u35, u36, u37, u38, .pointer (some ⟨g, i * 3, none⟩), .agg #[.int .i64 i, .int .i64 (g2 f i 0), .int .i64 (g2 f i 1)], u41, u42, u43, u44, u45, u46, u47, u48, u49, u50, u51, u12, u13], ?_, u32, u33, u34, u35, u36, u37, u38, .pointer (some ⟨g, i * 3, none⟩), .agg #[.int .i64 i, .int .i64 (g2 f i 0), .int .i64 (g2 f i 1)], u41, u42, u43, u44, u45, u46, u47, u48, u49, u50, u51, u12, u13, q12, q13, x12, y12, x13, y13, rfl, ?_⟩
            · simp only [frmL, Act.put, List.setIfInBounds_toArray, List.set_cons_zero, List.set_cons_succ]
            · exact ⟨HN.bw, fun o => HN.h0 (o.of_set (by decide)), fun o => HN.h1 (o.of_set (by decide)), fun o => HN.h2 (o.of_set (by decide)), fun o => HN.h3 (o.of_set (by decide)), fun o => HN.h4 (o.of_set (by decide)), fun o => HN.h5 (o.of_set (by decide)), fun o => HN.h6 (o.of_set (by decide)), fun o => HN.h7 (o.of_set (by decide)), fun _ => rfl, fun o => HN.h9 (o.of_set (by decide)), fun o => HN.h10 (o.of_set (by decide)), fun o => HN.h11 (o.of_set (by decide)), fun o => HN.h12 (o.of_set (by decide)), fun o => HN.h13 (o.of_set (by decide)), fun o => HN.h14 (o.of_set (by decide)), fun o => HN.h15 (o.of_set (by decide)), fun o => HN.h16 (o.of_set (by decide)), fun o => HN.h17 (o.of_set (by decide)), fun o => HN.h18 (o.of_set (by decide)), fun o => HN.h19 (o.of_set (by decide)), fun o => HN.h20 (o.of_set (by decide)), fun o => HN.h21 (o.of_set (by decide)), fun o o2 => HN.hne (o.of_set (by decide)) (o2.of_set (by decide)), fun o => (HN.h22 (o.of_set (by decide))).imp On.old id, fun o => (HN.h23 (o.of_set (by decide))).imp On.old id⟩
          refine StepsI.cons (i := 9) (ws := [0, 4, 8]) rfl (by kernel_rfl) (fun L a W hI hno hon hw K hK => ?_) ?_
          · obtain ⟨_, rfl, u32, u33, u34, u35, u36, u37, u38, u39, u40, u41, u42, u43, u44, u45, u46, u47, u48, u49, u50, u51, u12, u13, q12, q13, x12, y12, x13, y13, rfl, H⟩ := hI
            simp only [List.getElem_toArray, List.getElem_cons_zero, List.getElem_cons_succ]
            obtain rfl := H.h0 (hw 0 (by simp))
            obtain rfl := H.h4 (hw 4 (by simp))
            obtain rfl := H.h8 (hw 8 (by simp))
            simp only [frmL, Act.put, List.setIfInBounds_toArray, List.set_cons_zero, List.set_cons_succ]
            have HPEw := Lib.hid (HE.out.keep (Keep.below H.bw))
            go_simp
            go_wp2_with (go_at_call 44; (with_reducible refine (HK1.out _ HPEw.out).mono ?_); rintro e w9 ⟨rfl, hb⟩)
            have HN := H.up hb
            refine hK.out _ _ ⟨[.slice (some ⟨g, 0, none⟩) n n, u33, u34, u35, .agg #[.int .i64 i, .int .i64 (g2 f i 0), .int .i64 (g2 f i 1)], u37, u38, u39, .agg #[.int .i64 i, .int .i64 (g2 f i 0), .int .i64 (g2 f i 1)], .agg #[.int .i64 U1, .int .i64 D1], u42, u43, u44, u45, u46, u47, u48, u49, u50, u51, u12, u13], ?_, .slice (some ⟨g, 0, none⟩) n n, u33, u34, u35, .agg #[.int .i64 i, .int .i64 (g2 f i 0), .int .i64 (g2 f i 1)], u37, u38, u39, .agg #[.int .i64 i, .int .i64 (g2 f i 0), .int .i64 (g2 f i 1)], .agg #[.int .i64 U1, .int .i64 D1], u42, u43, u44, u45, u46, u47, u48, u49, u50, u51, u12, u13, q12, q13, x12, y12, x13, y13, rfl, ?_⟩
            · simp only [frmL, Act.put, List.setIfInBounds_toArray, List.set_cons_zero, List.set_cons_succ]
            · exact ⟨HN.bw, fun o => HN.h0 (o.of_set (by decide)), fun o => HN.h1 (o.of_set (by decide)), fun o => HN.h2 (o.of_set (by decide)), fun o => HN.h3 (o.of_set (by decide)), fun o => HN.h4 (o.of_set (by decide)), fun o => HN.h5 (o.of_set (by decide)), fun o => HN.h6 (o.of_set (by decide)), fun o => HN.h7 (o.of_set (by decide)), fun o => HN.h8 (o.of_set (by decide)), fun _ => rfl, fun o => HN.h10 (o.of_set (by decide)), fun o => HN.h11 (o.of_set (by decide)), fun o => HN.h12 (o.of_set (by decide)), fun o => HN.h13 (o.of_set (by decide)), fun o => HN.h14 (o.of_set (by decide)), fun o => HN.h15 (o.of_set (by decide)), fun o => HN.h16 (o.of_set (by decide)), fun o => HN.h17 (o.of_set (by decide)), fun o => HN.h18 (o.of_set (by decide)), fun o => HN.h19 (o.of_set (by decide)), fun o => HN.h20 (o.of_set (by decide)), fun o => HN.h21 (o.of_set (by decide)), fun o o2 => HN.hne (o.of_set (by decide)) (o2.of_set (by decide)), fun o => (HN.h22 (o.of_set (by decide))).imp On.old id, fun o => (HN.h23 (o.of_set (by decide))).imp On.old id⟩
          refine StepsI.cons (i := 10) (ws := []) rfl (by kernel_rfl) (fun L a W hI hno hon hw K hK => ?_) ?_
          · obtain ⟨_, rfl, u32, u33, u34, u35, u36, u37, u38, u39, u40, u41, u42, u43, u44, u45, u46, u47, u48, u49, u50, u51, u12, u13, q12, q13, x12, y12, x13, y13, rfl, H⟩ := hI
            simp only [List.getElem_toArray, List.getElem_cons_zero, List.getElem_cons_succ]
            simp only [frmL, Act.put, List.setIfInBounds_toArray, List.set_cons_zero, List.set_cons_succ]
            go_simp
            have HN := H
            refine hK.out _ _ ⟨[u32, u33, u34, u35, u36, u37, u38, u39, u40, u41, .slice (some ⟨g, 0, none⟩) n n, u43, u44, u45, u46, u47, u48, u49, u50, u51, u12, u13], ?_, u32, u33, u34, u35, u36, u37, u38, u39, u40, u41, .slice (some ⟨g, 0, none⟩) n n, u43, u44, u45, u46, u47, u48, u49, u50, u51, u12, u13, q12, q13, x12, y12, x13, y13, rfl, ?_⟩
            · simp only [frmL, Act.put, List.setIfInBounds_toArray, List.set_cons_zero, List.set_cons_succ]
            · exact ⟨HN.bw, fun o => HN.h0 (o.of_set (by decide)), fun o => HN.h1 (o.of_set (by decide)), fun o => HN.h2 (o.of_set (by decide)), fun o => HN.h3 (o.of_set (by decide)), fun o => HN.h4 (o.of_set (by decide)), fun o => HN.h5 (o.of_set (by decide)), fun o => HN.h6 (o.of_set (by decide)), fun o => HN.h7 (o.of_set (by decide)), fun o => HN.h8 (o.of_set (by decide)), fun o => HN.h9 (o.of_set (by decide)), fun _ => rfl, fun o => HN.h11 (o.of_set (by decide)), fun o => HN.h12 (o.of_set (by decide)), fun o => HN.h13 (o.of_set (by decide)), fun o => HN.h14 (o.of_set (by decide)), fun o => HN.h15 (o.of_set (by decide)), fun o => HN.h16 (o.of_set (by decide)), fun o => HN.h17 (o.of_set (by decide)), fun o => HN.h18 (o.of_set (by decide)), fun o => HN.h19 (o.of_set (by decide)), fun o => HN.h20 (o.of_set (by decide)), fun o => HN.h21 (o.of_set (by decide)), fun o o2 => HN.hne (o.of_set (by decide)) (o2.of_set (by decide)), fun o => (HN.h22 (o.of_set (by decide))).imp On.old id, fun o => (HN.h23 (o.of_set (by decide))).imp On.old id⟩
          refine StepsI.cons (i := 11) (ws := []) rfl (by kernel_rfl) (fun L a W hI hno hon hw K hK => ?_) ?_
          · obtain ⟨_, rfl, u32, u33, u34, u35, u36, u37, u38, u39, u40, u41, u42, u43, u44, u45, u46, u47, u48, u49, u50, u51, u12, u13, q12, q13, x12, y12, x13, y13, rfl, H⟩ := hI
            simp only [List.getElem_toArray, List.getElem_cons_zero, List.getElem_cons_succ]
            simp only [frmL, Act.put, List.setIfInBounds_toArray, List.set_cons_zero, List.set_cons_succ]
            go_simp
            have HN := H
            refine hK.out _ _ ⟨[u32, u33, u34, u35, u36, u37, u38, u39, u40, u41, u42, .slice (some ⟨g, 0, none⟩) n n, u44, u45, u46, u47, u48, u49, u50, u51, u12, u13], ?_, u32, u33, u34, u35, u36, u37, u38, u39, u40, u41, u42, .slice (some ⟨g, 0, none⟩) n n, u44, u45, u46, u47, u48, u49, u50, u51, u12, u13, q12, q13, x12, y12, x13, y13, rfl, ?_⟩
            · simp only [frmL, Act.put, List.setIfInBounds_toArray, List.set_cons_zero, List.set_cons_succ]
            · exact ⟨HN.bw, fun o => HN.h0 (o.of_set (by decide)), fun o => HN.h1 (o.of_set (by decide)), fun o => HN.h2 (o.of_set (by decide)), fun o => HN.h3 (o.of_set (by decide)), fun o => HN.h4 (o.of_set (by decide)), fun o => HN.h5 (o.of_set (by decide)), fun o => HN.h6 (o.of_set (by decide)), fun o => HN.h7 (o.of_set (by decide)), fun o => HN.h8 (o.of_set (by decide)), fun o => HN.h9 (o.of_set (by decide)), fun o => HN.h10 (o.of_set (by decide)), fun _ => rfl, fun o => HN.h12 (o.of_set (by decide)), fun o => HN.h13 (o.of_set (by decide)), fun o => HN.h14 (o.of_set (by decide)), fun o => HN.h15 (o.of_set (by decide)), fun o => HN.h16 (o.of_set (by decide)), fun o => HN.h17 (o.of_set (by decide)), fun o => HN.h18 (o.of_set (by decide)), fun o => HN.h19 (o.of_set (by decide)), fun o => HN.h20 (o.of_set (by decide)), fun o => HN.h21 (o.of_set (by decide)), fun o o2 => HN.hne (o.of_set (by decide)) (o2.of_set (by decide)), fun o => (HN.h22 (o.of_set (by decide))).imp On.old id, fun o => (HN.h23 (o.of_set (by decide))).imp On.old id⟩
          refine StepsI.cons (i := 12) (ws := []) rfl (by kernel_rfl) (fun L a W hI hno hon hw K hK => ?_) ?_
          · obtain ⟨_, rfl, u32, u33, u34, u35, u36, u37, u38, u39, u40, u41, u42, u43, u44, u45, u46, u47, u48, u49, u50, u51, u12, u13, q12, q13, x12, y12, x13, y13, rfl, H⟩ := hI
            simp only [List.getElem_toArray, List.getElem_cons_zero, List.getElem_cons_succ]
            simp only [frmL, Act.put, List.setIfInBounds_toArray, List.set_cons_zero, List.set_cons_succ]
            go_simp
            have HN := H
            refine hK.out _ _ ⟨[u32, u33, u34, u35, u36, u37, u38, u39, u40, u41, u42, u43, .int .i64 i, u45, u46, u47, u48, u49, u50, u51, u12, u13], ?_, u32, u33, u34, u35, u36, u37, u38, u39, u40, u41, u42, u43, .int .i64 i, u45, u46, u47, u48, u49, u50, u51, u12, u13, q12, q13, x12, y12, x13, y13, rfl, ?_⟩
            · simp only [frmL, Act.put, List.setIfInBounds_toArray, List.set_cons_zero, List.set_cons_succ]
            · exact ⟨HN.bw, fun o => HN.h0 (o.of_set (by decide)), fun o => HN.h1 (o.of_set (by decide)), fun o => HN.h2 (o.of_set (by decide)), fun o => HN.h3 (o.of_set (by decide)), fun o => HN.h4 (o.of_set (by decide)), fun o => HN.h5 (o.of_set (by decide)), fun o => HN.h6 (o.of_set (by decide)), fun o => HN.h7 (o.of_set (by decide)), fun o => HN.h8 (o.of_set (by decide)), fun o => HN.h9 (o.of_set (by decide)), fun o => HN.h10 (o.of_set (by decide)), fun o => HN.h11 (o.of_set (by decide)), fun _ => rfl, fun o => HN.h13 (o.of_set (by decide)), fun o => HN.h14 (o.of_set (by decide)), fun o => HN.h15 (o.of_set (by decide)), fun o => HN.h16 (o.of_set (by decide)), fun o => HN.h17 (o.of_set (by decide)), fun o => HN.h18 (o.of_set (by decide)), fun o => HN.h19 (o.of_set (by decide)), fun o => HN.h20 (o.of_set (by decide)), fun o => HN.h21 (o.of_set (by decide)), fun o o2 => HN.hne (o.of_set (by decide)) (o2.of_set (by decide)), fun o => (HN.h22 (o.of_set (by decide))).imp On.old id, fun o => (HN.h23 (o.of_set (by decide))).imp On.old id⟩
          refine StepsI.cons (i := 13) (ws := [11, 12]) rfl (by kernel_rfl) (fun L a W hI hno hon hw K hK => ?_) ?_
          · obtain ⟨_, rfl, u32, u33, u34, u35, u36, u37, u38, u39, u40, u41, u42, u43, u44, u45, u46, u47, u48, u49, u50, u51, u12, u13, q12, q13, x12, y12, x13, y13, rfl, H⟩ := hI
            simp only [List.getElem_toArray, List.getElem_cons_zero, List.getElem_cons_succ]
            obtain rfl := H.h11 (hw 11 (by simp))
            obtain rfl := H.h12 (hw 12 (by simp))
            simp only [frmL, Act.put, List.setIfInBounds_toArray, List.set_cons_zero, List.set_cons_succ]
            go_simp
            have HN := H
            refine hK.out _ _ ⟨[u32, u33, u34, u35, u36, u37, u38, u39, u40, u41, u42, .slice (some ⟨g, 0, none⟩) n n, .int .i64 i, .pointer (some ⟨g, i * 3, none⟩), u46, u47, u48, u49, u50, u51, u12, u13], ?_, u32, u33, u34, u35, u36, u37, u38, u39, u40, u41, u42, .slice (some ⟨g, 0, none⟩) n n, .int .i64 i, .pointer (some ⟨g, i * 3, none⟩), u46, u47, u48, u49, u50, u51, u12, u13, q12, q13, x12, y12, x13, y13, rfl, ?_⟩
            · simp only [frmL, Act.put, List.setIfInBounds_toArray, List.set_cons_zero, List.set_cons_succ]
            · exact ⟨HN.bw, fun o => HN.h0 (o.of_set (by decide)), fun o => HN.h1 (o.of_set (by decide)), fun o => HN.h2 (o.of_set (by decide)), fun o => HN.h3 (o.of_set (by decide)), fun o => HN.h4 (o.of_set (by decide)), fun o => HN.h5 (o.of_set (by decide)), fun o => HN.h6 (o.of_set (by decide)), fun o => HN.h7 (o.of_set (by decide)), fun o => HN.h8 (o.of_set (by decide)), fun o => HN.h9 (o.of_set (by decide)), fun o => HN.h10 (o.of_set (by decide)), fun o => HN.h11 (o.of_set (by decide)), fun o => HN.h12 (o.of_set (by decide)), fun _ => rfl, fun o => HN.h14 (o.of_set (by decide)), fun o => HN.h15 (o.of_set (by decide)), fun o => HN.h16 (o.of_set (by decide)), fun o => HN.h17 (o.of_set (by decide)), fun o => HN.h18 (o.of_set (by decide)), fun o => HN.h19 (o.of_set (by decide)), fun o => HN.h20 (o.of_set (by decide)), fun o => HN.h21 (o.of_set (by decide)), fun o o2 => HN.hne (o.of_set (by decide)) (o2.of_set (by decide)), fun o => (HN.h22 (o.of_set (by decide))).imp On.old id, fun o => (HN.h23 (o.of_set (by decide))).imp On.old id⟩
          refine StepsI.cons (i := 14) (ws := [13]) rfl (by kernel_rfl) (fun L a W hI hno hon hw K hK => ?_) ?_
          · obtain ⟨_, rfl, u32, u33, u34, u35, u36, u37, u38, u39, u40, u41, u42, u43, u44, u45, u46, u47, u48, u49, u50, u51, u12, u13, q12, q13, x12, y12, x13, y13, rfl, H⟩ := hI
            simp only [List.getElem_toArray, List.getElem_cons_zero, List.getElem_cons_succ]
            obtain rfl := H.h13 (hw 13 (by simp))
            simp only [frmL, Act.put, List.setIfInBounds_toArray, List.set_cons_zero, List.set_cons_succ]
            have c0 := (HE.out.keep (Keep.below H.bw)).c0 i HiN.out
            have c1 := (HE.out.keep (Keep.below H.bw)).c1 i HiN.out
            have c2 := (HE.out.keep (Keep.below H.bw)).c2 i HiN.out
            go_simp
            have HN := H
            refine hK.out _ _ ⟨[u32, u33, u34, u35, u36, u37, u38, u39, u40, u41, u42, u43, u44, .pointer (some ⟨g, i * 3, none⟩), .agg #[.int .i64 i, .int .i64 (g2 f i 0), .int .i64 (g2 f i 1)], u47, u48, u49, u50, u51, u12, u13], ?_, u32, u33, u34, u35, u36, u37, u38, u39, u40, u41, u42, u43, u44, .pointer (some ⟨g, i * 3, none⟩), .agg #[.int .i64 i, .int .i64 (g2 f i 0), .int .i64 (g2 f i 1)], u47, u48, u49, u50, u51, u12, u13, q12, q13, x12, y12, x13, y13, rfl, ?_⟩
            · simp only [frmL, Act.put, List.setIfInBounds_toArray, List.set_cons_zero, List.set_cons_succ]
            · exact ⟨HN.bw, fun o => HN.h0 (o.of_set (by decide)), fun o => HN.h1 (o.of_set (by decide)), fun o => HN.h2 (o.of_set (by decide)), fun o => HN.h3 (o.of_set (by decide)), fun o => HN.h4 (o.of_set (by decide)), fun o => HN.h5 (o.of_set (by decide)), fun o => HN.h6 (o.of_set (by decide)), fun o => HN.h7 (o.of_set (by decide)), fun o => HN.h8 (o.of_set (by decide)), fun o => HN.h9 (o.of_set (by decide)), fun o => HN.h10 (o.of_set (by decide)), fun o => HN.h11 (o.of_set (by decide)), fun o => HN.h12 (o.of_set (by decide)), fun o => HN.h13 (o.of_set (by decide)), fun _ => rfl, fun o => HN.h15 (o.of_set (by decide)), fun o => HN.h16 (o.of_set (by decide)), fun o => HN.h17 (o.of_set (by decide)), fun o => HN.h18 (o.of_set (by decide)), fun o => HN.h19 (o.of_set (by decide)), fun o => HN.h20 (o.of_set (by decide)), fun o => HN.h21 (o.of_set (by decide)), fun o o2 => HN.hne (o.of_set (by decide)) (o2.of_set (by decide)), fun o => (HN.h22 (o.of_set (by decide))).imp On.old id, fun o => (HN.h23 (o.of_set (by decide))).imp On.old id⟩
          refine StepsI.cons (i := 15) (ws := []) rfl (by kernel_rfl) (fun L a W hI hno hon hw K hK => ?_) ?_
          · obtain ⟨_, rfl, u32, u33, u34, u35, u36, u37, u38, u39, u40, u41, u42, u43, u44, u45, u46, u47, u48, u49, u50, u51, u12, u13, q12, q13, x12, y12, x13, y13, rfl, H⟩ := hI
            simp only [List.getElem_toArray, List.getElem_cons_zero, List.getElem_cons_succ]
            simp only [frmL, Act.put, List.setIfInBounds_toArray, List.set_cons_zero, List.set_cons_succ]
            go_simp
            have HN := H
            refine hK.out _ _ ⟨[u32, u33, u34, u35, u36, u37, u38, u39, u40, u41, u42, u43, u44, u45, u46, .slice (some ⟨g, 0, none⟩) n n, u48, u49, u50, u51, u12, u13], ?_, u32, u33, u34, u35, u36, u37, u38, u39, u40, u41, u42, u43, u44, u45, u46, .slice (some ⟨g, 0, none⟩) n n, u48, u49, u50, u51, u12, u13, q12, q13, x12, y12, x13, y13, rfl, ?_⟩
            · simp only [frmL, Act.put, List.setIfInBounds_toArray, List.set_cons_zero, List.set_cons_succ]
            · exact ⟨HN.bw, fun o => HN.h0 (o.of_set (by decide)), fun o => HN.h1 (o.of_set (by decide)), fun o => HN.h2 (o.of_set (by decide)), fun o => HN.h3 (o.of_set (by decide)), fun o => HN.h4 (o.of_set (by decide)), fun o => HN.h5 (o.of_set (by decide)), fun o => HN.h6 (o.of_set (by decide)), fun o => HN.h7 (o.of_set (by decide)), fun o => HN.h8 (o.of_set (by decide)), fun o => HN.h9 (o.of_set (by decide)), fun o => HN.h10 (o.of_set (by decide)), fun o => HN.h11 (o.of_set (by decide)), fun o => HN.h12 (o.of_set (by decide)), fun o => HN.h13 (o.of_set (by decide)), fun o => HN.h14 (o.of_set (by decide)), fun _ => rfl, fun o => HN.h16 (o.of_set (by decide)), fun o => HN.h17 (o.of_set (by decide)), fun o => HN.h18 (o.of_set (by decide)), fun o => HN.h19 (o.of_set (by decide)), fun o => HN.h20 (o.of_set (by decide)), fun o => HN.h21 (o.of_set (by decide)), fun o o2 => HN.hne (o.of_set (by decide)) (o2.of_set (by decide)), fun o => (HN.h22 (o.of_set (by decide))).imp On.old id, fun o => (HN.h23 (o.of_set (by decide))).imp On.old id⟩
          refine StepsI.cons (i := 16) (ws := []) rfl (by kernel_rfl) (fun L a W hI hno hon hw K hK => ?_) ?_
          · obtain ⟨_, rfl, u32, u33, u34, u35, u36, u37, u38, u39, u40, u41, u42, u43, u44, u45, u46, u47, u48, u49, u50, u51, u12, u13, q12, q13, x12, y12, x13, y13, rfl, H⟩ := hI
            simp only [List.getElem_toArray, List.getElem_cons_zero, List.getElem_cons_succ]
            simp only [frmL, Act.put, List.setIfInBounds_toArray, List.set_cons_zero, List.set_cons_succ]
            go_simp
            have HN := H
            refine hK.out _ _ ⟨[u32, u33, u34, u35, u36, u37, u38, u39, u40, u41, u42, u43, u44, u45, u46, u47, .int .i64 j, u49, u50, u51, u12, u13], ?_, u32, u33, u34, u35, u36, u37, u38, u39, u40, u41, u42, u43, u44, u45, u46, u47, .int .i64 j, u49, u50, u51, u12, u13, q12, q13, x12, y12, x13, y13, rfl, ?_⟩
            · simp only [frmL, Act.put, List.setIfInBounds_toArray, List.set_cons_zero, List.set_cons_succ]
            · exact ⟨HN.bw, fun o => HN.h0 (o.of_set (by decide)), fun o => HN.h1 (o.of_set (by decide)), fun o => HN.h2 (o.of_set (by decide)), fun o => HN.h3 (o.of_set (by decide)), fun o => HN.h4 (o.of_set (by decide)), fun o => HN.h5 (o.of_set (by decide)), fun o => HN.h6 (o.of_set (by decide)), fun o => HN.h7 (o.of_set (by decide)), fun o => HN.h8 (o.of_set (by decide)), fun o => HN.h9 (o.of_set (by decide)), fun o => HN.h10 (o.of_set (by decide)), fun o => HN.h11 (o.of_set (by decide)), fun o => HN.h12 (o.of_set (by decide)), fun o => HN.h13 (o.of_set (by decide)), fun o => HN.h14 (o.of_set (by decide)), fun o => HN.h15 (o.of_set (by decide)), fun _ => rfl, fun o => HN.h17 (o.of_set (by decide)), fun o => HN.h18 (o.of_set (by decide)), fun o => HN.h19 (o.of_set (by decide)), fun o => HN.h20 (o.of_set (by decide)), fun o => HN.h21 (o.of_set (by decide)), fun o o2 => HN.hne (o.of_set (by decide)) (o2.of_set (by decide)), fun o => (HN.h22 (o.of_set (by decide))).imp On.old id, fun o => (HN.h23 (o.of_set (by decide))).imp On.old id⟩
          refine StepsI.cons (i := 17) (ws := [15, 16]) rfl (by kernel_rfl) (fun L a W hI hno hon hw K hK => ?_) ?_
          · obtain ⟨_, rfl, u32, u33, u34, u35, u36, u37, u38, u39, u40, u41, u42, u43, u44, u45, u46, u47, u48, u49, u50, u51, u12, u13, q12, q13, x12, y12, x13, y13, rfl, H⟩ := hI
            simp only [List.getElem_toArray, List.getElem_cons_zero, List.getElem_cons_succ]
            obtain rfl := H.h15 (hw 15 (by simp))
            obtain rfl := H.h16 (hw 16 (by simp))
            simp only [frmL, Act.put, List.setIfInBounds_toArray, List.set_cons_zero, List.set_cons_succ]
            go_simp
            have HN := H
            refine hK.out _ _ ⟨[u32, u33, u34, u35, u36, u37, u38, u39, u40, u41, u42, u43, u44, u45, u46, .slice (some ⟨g, 0, none⟩) n n, .int .i64 j, .pointer (some ⟨g, j * 3, none⟩), u50, u51, u12, u13], ?_, u32, u33, u34, u35, u36, u37, u38, u39, u40, u41, u42, u43, u44, u45, u46, .slice (some ⟨g, 0, none⟩) n n, .int .i64 j, .pointer (some ⟨g, j * 3, none⟩), u50, u51, u12, u13, q12, q13, x12, y12, x13, y13, rfl, ?_⟩
            · simp only [frmL, Act.put, List.setIfInBounds_toArray, List.set_cons_zero, List.set_cons_succ]
            · exact ⟨HN.bw, fun o => HN.h0 (o.of_set (by decide)), fun o => HN.h1 (o.of_set (by decide)), fun o => HN.h2 (o.of_set (by decide)), fun o => HN.h3 (o.of_set (by decide)), fun o => HN.h4 (o.of_set (by decide)), fun o => HN.h5 (o.of_set (by decide)), fun o => HN.h6 (o.of_set (by decide)), fun o => HN.h7 (o.of_set (by decide)), fun o => HN.h8 (o.of_set (by decide)), fun o => HN.h9 (o.of_set (by decide)), fun o => HN.h10 (o.of_set (by decide)), fun o => HN.h11 (o.of_set (by decide)), fun o => HN.h12 (o.of_set (by decide)), fun o => HN.h13 (o.of_set (by decide)), fun o => HN.h14 (o.of_set (by decide)), fun o => HN.h15 (o.of_set (by decide)), fun o => HN.h16 (o.of_set (by decide)), fun _ => rfl, fun o => HN.h18 (o.of_set (by decide)), fun o => HN.h19 (o.of_set (by decide)), fun o => HN.h20 (o.of_set (by decide)), fun o => HN.h21 (o.of_set (by decide)), fun o o2 => HN.hne (o.of_set (by decide)) (o2.of_set (by decide)), fun o => (HN.h22 (o.of_set (by decide))).imp On.old id, fun o => (HN.h23 (o.of_set (by decide))).imp On.old id⟩
          refine StepsI.cons (i := 18) (ws := [17]) rfl (by kernel_rfl) (fun L a W hI hno hon hw K hK => ?_) ?_
          · obtain ⟨_, rfl, u32, u33, u34, u35, u36, u37, u38, u39, u40, u41, u42, u43, u44, u45, u46, u47, u48, u49, u50, u51, u12, u13, q12, q13, x12, y12, x13, y13, rfl, H⟩ := hI
            simp only [List.getElem_toArray, List.getElem_cons_zero, List.getElem_cons_succ]
            obtain rfl := H.h17 (hw 17 (by simp))
            simp only [frmL, Act.put, List.setIfInBounds_toArray, List.set_cons_zero, List.set_cons_succ]
            have c0 := (HE.out.keep (Keep.below H.bw)).c0 j HjN.out
            have c1 := (HE.out.keep (Keep.below H.bw)).c1 j HjN.out
            have c2 := (HE.out.keep (Keep.below H.bw)).c2 j HjN.out
            go_simp
            have HN := H
            refine hK.out _ _ ⟨[u32, u33, u34, u35, u36, u37, u38, u39, u40, u41, u42, u43, u44, u45, u46, u47, u48, .pointer (some ⟨g, j * 3, none⟩), .agg #[.int .i64 j, .int .i64 (g2 f j 0), .int .i64 (g2 f j 1)], u51, u12, u13], ?_, u32, u33, u34, u35, u36, u37, u38, u39, u40, u41, u42, u43, u44, u45, u46, u47, u48, .pointer (some ⟨g, j * 3, none⟩), .agg #[.int .i64 j, .int .i64 (g2 f j 0), .int .i64 (g2 f j 1)], u51, u12, u13, q12, q13, x12, y12, x13, y13, rfl, ?_⟩
            · simp only [frmL, Act.put, List.setIfInBounds_toArray, List.set_cons_zero, List.set_cons_succ]
            · exact ⟨HN.bw, fun o => HN.h0 (o.of_set (by decide)), fun o => HN.h1 (o.of_set (by decide)), fun o => HN.h2 (o.of_set (by decide)), fun o => HN.h3 (o.of_set (by decide)), fun o => HN.h4 (o.of_set (by decide)), fun o => HN.h5 (o.of_set (by decide)), fun o => HN.h6 (o.of_set (by decide)), fun o => HN.h7 (o.of_set (by decide)), fun o => HN.h8 (o.of_set (by decide)), fun o => HN.h9 (o.of_set (by decide)), fun o => HN.h10 (o.of_set (by decide)), fun o => HN.h11 (o.of_set (by decide)), fun o => HN.h12 (o.of_set (by decide)), fun o => HN.h13 (o.of_set (by decide)), fun o => HN.h14 (o.of_set (by decide)), fun o => HN.h15 (o.of_set (by decide)), fun o => HN.h16 (o.of_set (by decide)), fun o => HN.h17 (o.of_set (by decide)), fun _ => rfl, fun o => HN.h19 (o.of_set (by decide)), fun o => HN.h20 (o.of_set (by decide)), fun o => HN.h21 (o.of_set (by decide)), fun o o2 => HN.hne (o.of_set (by decide)) (o2.of_set (by decide)), fun o => (HN.h22 (o.of_set (by decide))).imp On.old id, fun o => (HN.h23 (o.of_set (by decide))).imp On.old id⟩
          refine StepsI.cons (i := 19) (ws := [10, 14, 18, 9]) rfl (by kernel_rfl) (fun L a W hI hno hon hw K hK => ?_) ?_
          · obtain ⟨_, rfl, u32, u33, u34, u35, u36, u37, u38, u39, u40, u41, u42, u43, u44, u45, u46, u47, u48, u49, u50, u51, u12, u13, q12, q13, x12, y12, x13, y13, rfl, H⟩ := hI
            simp only [List.getElem_toArray, List.getElem_cons_zero, List.getElem_cons_succ]
            obtain rfl := H.h10 (hw 10 (by simp))
            obtain rfl := H.h14 (hw 14 (by simp))
            obtain rfl := H.h18 (hw 18 (by simp))
            simp only [frmL, Act.put, List.setIfInBounds_toArray, List.set_cons_zero, List.set_cons_succ]
            have HPEw := Lib.hid (HE.out.keep (Keep.below H.bw))
            go_simp
            go_wp2_with (go_at_call 44; (with_reducible refine (HK2.out _ HPEw.out).mono ?_); rintro e w9 ⟨rfl, hb⟩)
            have HN := H.up hb
            refine hK.out _ _ ⟨[u32, u33, u34, u35, u36, u37, u38, u39, u40, u41, .slice (some ⟨g, 0, none⟩) n n, u43, u44, u45, .agg #[.int .i64 i, .int .i64 (g2 f i 0), .int .i64 (g2 f i 1)], u47, u48, u49, .agg #[.int .i64 j, .int .i64 (g2 f j 0), .int .i64 (g2 f j 1)], .agg #[.int .i64 U2, .int .i64 D2], u12, u13], ?_, u32, u33, u34, u35, u36, u37, u38, u39, u40, u41, .slice (some ⟨g, 0, none⟩) n n, u43, u44, u45, .agg #[.int .i64 i, .int .i64 (g2 f i 0), .int .i64 (g2 f i 1)], u47, u48, u49, .agg #[.int .i64 j, .int .i64 (g2 f j 0), .int .i64 (g2 f j 1)], .agg #[.int .i64 U2, .int .i64 D2], u12, u13, q12, q13, x12, y12, x13, y13, rfl, ?_⟩
            · simp only [frmL, Act.put, List.setIfInBounds_toArray, List.set_cons_zero, List.set_cons_succ]
            · exact ⟨HN.bw, fun o => HN.h0 (o.of_set (by decide)), fun o => HN.h1 (o.of_set (by decide)), fun o => HN.h2 (o.of_set (by decide)), fun o => HN.h3 (o.of_set (by decide)), fun o => HN.h4 (o.of_set (by decide)), fun o => HN.h5 (o.of_set (by decide)), fun o => HN.h6 (o.of_set (by decide)), fun o => HN.h7 (o.of_set (by decide)), fun o => HN.h8 (o.of_set (by decide)), fun o => HN.h9 (o.of_set (by decide)), fun o => HN.h10 (o.of_set (by decide)), fun o => HN.h11 (o.of_set (by decide)), fun o => HN.h12 (o.of_set (by decide)), fun o => HN.h13 (o.of_set (by decide)), fun o => HN.h14 (o.of_set (by decide)), fun o => HN.h15 (o.of_set (by decide)), fun o => HN.h16 (o.of_set (by decide)), fun o => HN.h17 (o.of_set (by decide)), fun o => HN.h18 (o.of_set (by decide)), fun _ => rfl, fun o => HN.h20 (o.of_set (by decide)), fun o => HN.h21 (o.of_set (by decide)), fun o o2 => HN.hne (o.of_set (by decide)) (o2.of_set (by decide)), fun o => (HN.h22 (o.of_set (by decide))).imp On.old id, fun o => (HN.h23 (o.of_set (by decide))).imp On.old id⟩
          refine StepsI.cons (i := 20) (ws := []) rfl (by kernel_rfl) (fun L a W hI hno hon hw K hK => ?_) ?_
          · obtain ⟨_, rfl, u32, u33, u34, u35, u36, u37, u38, u39, u40, u41, u42, u43, u44, u45, u46, u47, u48, u49, u50, u51, u12, u13, q12, q13, x12, y12, x13, y13, rfl, H⟩ := hI
            simp only [List.getElem_toArray, List.getElem_cons_zero, List.getElem_cons_succ]
            simp only [frmL, Act.put, List.setIfInBounds_toArray, List.set_cons_zero, List.set_cons_succ]
            go_simp
            have HN := H.up (below_alloc W (.cells #[.int .i64 0, .int .i64 0] 28))
            refine hK.out _ _ ⟨[u32, u33, u34, u35, u36, u37, u38, u39, u40, u41, u42, u43, u44, u45, u46, u47, u48, u49, u50, u51, .pointer (some ⟨W.heap.size, 0, none⟩), u13], ?_, u32, u33, u34, u35, u36, u37, u38, u39, u40, u41, u42, u43, u44, u45, u46, u47, u48, u49, u50, u51, .pointer (some ⟨W.heap.size, 0, none⟩), u13, W.heap.size, q13, 0, 0, x13, y13, rfl, ?_⟩
            · simp only [frmL, Act.put, List.setIfInBounds_toArray, List.set_cons_zero, List.set_cons_succ]
            · exact ⟨HN.bw, fun o => HN.h0 (o.of_set (by decide)), fun o => HN.h1 (o.of_set (by decide)), fun o => HN.h2 (o.of_set (by decide)), fun o => HN.h3 (o.of_set (by decide)), fun o => HN.h4 (o.of_set (by decide)), fun o => HN.h5 (o.of_set (by decide)), fun o => HN.h6 (o.of_set (by decide)), fun o => HN.h7 (o.of_set (by decide)), fun o => HN.h8 (o.of_set (by decide)), fun o => HN.h9 (o.of_set (by decide)), fun o => HN.h10 (o.of_set (by decide)), fun o => HN.h11 (o.of_set (by decide)), fun o => HN.h12 (o.of_set (by decide)), fun o => HN.h13 (o.of_set (by decide)), fun o => HN.h14 (o.of_set (by decide)), fun o => HN.h15 (o.of_set (by decide)), fun o => HN.h16 (o.of_set (by decide)), fun o => HN.h17 (o.of_set (by decide)), fun o => HN.h18 (o.of_set (by decide)), fun o => HN.h19 (o.of_set (by decide)), fun _ => ⟨rfl, H.bw.size, blk_new _ _ _⟩, fun o => HN.h21 (o.of_set (by decide)), fun _ o2 => by obtain ⟨_, _, r⟩ := H.h21 (o2.of_set (by decide)); exact Nat.ne_of_gt (blk_lt r), fun o => absurd (H.h22 (o.of_set (by decide))).1 hno, fun o => (HN.h23 (o.of_set (by decide))).imp On.old id⟩
          refine StepsI.cons (i := 21) (ws := []) rfl (by kernel_rfl) (fun L a W hI hno hon hw K hK => ?_) ?_
          · obtain ⟨_, rfl, u32, u33, u34, u35, u36, u37, u38, u39, u40, u41, u42, u43, u44, u45, u46, u47, u48, u49, u50, u51, u12, u13, q12, q13, x12, y12, x13, y13, rfl, H⟩ := hI
            simp only [List.getElem_toArray, List.getElem_cons_zero, List.getElem_cons_succ]
            simp only [frmL, Act.put, List.setIfInBounds_toArray, List.set_cons_zero, List.set_cons_succ]
            go_simp
            have HN := H.up (below_alloc W (.cells #[.int .i64 0, .int .i64 0] 28))
            refine hK.out _ _ ⟨[u32, u33, u34, u35, u36, u37, u38, u39, u40, u41, u42, u43, u44, u45, u46, u47, u48, u49, u50, u51, u12, .pointer (some ⟨W.heap.size, 0, none⟩)], ?_, u32, u33, u34, u35, u36, u37, u38, u39, u40, u41, u42, u43, u44, u45, u46, u47, u48, u49, u50, u51, u12, .pointer (some ⟨W.heap.size, 0, none⟩), q12, W.heap.size, x12, y12, 0, 0, rfl, ?_⟩
            · simp only [frmL, Act.put, List.setIfInBounds_toArray, List.set_cons_zero, List.set_cons_succ]
            · exact ⟨HN.bw, fun o => HN.h0 (o.of_set (by decide)), fun o => HN.h1 (o.of_set (by decide)), fun o => HN.h2 (o.of_set (by decide)), fun o => HN.h3 (o.of_set (by decide)), fun o => HN.h4 (o.of_set (by decide)), fun o => HN.h5 (o.of_set (by decide)), fun o => HN.h6 (o.of_set (by decide)), fun o => HN.h7 (o.of_set (by decide)), fun o => HN.h8 (o.of_set (by decide)), fun o => HN.h9 (o.of_set (by decide)), fun o => HN.h10 (o.of_set (by decide)), fun o => HN.h11 (o.of_set (by decide)), fun o => HN.h12 (o.of_set (by decide)), fun o => HN.h13 (o.of_set (by decide)), fun o => HN.h14 (o.of_set (by decide)), fun o => HN.h15 (o.of_set (by decide)), fun o => HN.h16 (o.of_set (by decide)), fun o => HN.h17 (o.of_set (by decide)), fun o => HN.h18 (o.of_set (by decide)), fun o => HN.h19 (o.of_set (by decide)), fun o => HN.h20 (o.of_set (by decide)), fun _ => ⟨rfl, H.bw.size, blk_new _ _ _⟩, fun o2 _ => by obtain ⟨_, _, r⟩ := H.h20 (o2.of_set (by decide)); exact Nat.ne_of_lt (blk_lt r), fun o => (HN.h22 (o.of_set (by decide))).imp On.old id, fun o => absurd (H.h23 (o.of_set (by decide))).1 hno⟩
          refine StepsI.cons (i := 22) (ws := [20, 9, 19, 0, 1, 2, 3, 4, 5, 6, 7, 8, 9, 20, 21]) rfl (by kernel_rfl) (fun L a W hI hno hon hw K hK => ?_) ?_
          · obtain ⟨_, rfl, u32, u33, u34, u35, u36, u37, u38, u39, u40, u41, u42, u43, u44, u45, u46, u47, u48, u49, u50, u51, u12, u13, q12, q13, x12, y12, x13, y13, rfl, H⟩ := hI
            simp only [List.getElem_toArray, List.getElem_cons_zero, List.getElem_cons_succ]
            have e9 := H.h9 (hw 9 (by simp))
            subst e9
            have h20 := H.h20 (hw 20 (by simp))
            have eq12 := h20.1
            have hlq := h20.2.1
            have hbq := h20.2.2
            clear h20
            subst eq12
            simp only [frmL, Act.put, List.setIfInBounds_toArray, List.set_cons_zero, List.set_cons_succ]
            have c0 := blk_cell hbq (i := 0) rfl
            have c1 := blk_cell hbq (i := 1) rfl
            have f0 := blk_frozen hbq 0
            have f1 := blk_frozen hbq 1
            go_simp
            have HN := H
            refine hK.out _ _ ⟨[u32, u33, u34, u35, u36, u37, u38, u39, u40, .agg #[.int .i64 U1, .int .i64 D1], u42, u43, u44, u45, u46, u47, u48, u49, u50, u51, .pointer (some ⟨q12, 0, none⟩), u13], ?_, u32, u33, u34, u35, u36, u37, u38, u39, u40, .agg #[.int .i64 U1, .int .i64 D1], u42, u43, u44, u45, u46, u47, u48, u49, u50, u51, .pointer (some ⟨q12, 0, none⟩), u13, q12, q13, U1, D1, x13, y13, rfl, ?_⟩
            · simp only [frmL, Act.put, List.setIfInBounds_toArray, List.set_cons_zero, List.set_cons_succ]
            · exact ⟨(H.bw.setCell (p := ⟨q12, 0, none⟩) hlq _).setCell (p := ⟨q12, 1, none⟩) hlq _, fun o => HN.h0 (o.of_set (by decide)), fun o => HN.h1 (o.of_set (by decide)), fun o => HN.h2 (o.of_set (by decide)), fun o => HN.h3 (o.of_set (by decide)), fun o => HN.h4 (o.of_set (by decide)), fun o => HN.h5 (o.of_set (by decide)), fun o => HN.h6 (o.of_set (by decide)), fun o => HN.h7 (o.of_set (by decide)), fun o => HN.h8 (o.of_set (by decide)), fun o => HN.h9 (o.of_set (by decide)), fun o => HN.h10 (o.of_set (by decide)), fun o => HN.h11 (o.of_set (by decide)), fun o => HN.h12 (o.of_set (by decide)), fun o => HN.h13 (o.of_set (by decide)), fun o => HN.h14 (o.of_set (by decide)), fun o => HN.h15 (o.of_set (by decide)), fun o => HN.h16 (o.of_set (by decide)), fun o => HN.h17 (o.of_set (by decide)), fun o => HN.h18 (o.of_set (by decide)), fun o => HN.h19 (o.of_set (by decide)), fun _ => ⟨rfl, hlq, blk_set (blk_set hbq 0 _) 1 _⟩, fun o => by obtain ⟨a, b, d⟩ := H.h21 (o.of_set (by decide)); exact ⟨a, b, blk_other (p := ⟨q12, 1, none⟩) (blk_other (p := ⟨q12, 0, none⟩) d (fun e => H.hne (hw 20 (by simp)) (o.of_set (by decide)) e.symm) _) (fun e => H.hne (hw 20 (by simp)) (o.of_set (by decide)) e.symm) _⟩, fun o o2 => HN.hne (o.of_set (by decide)) (o2.of_set (by decide)), fun _ => ⟨(hw 20 (by simp)).old, rfl, rfl⟩, fun o => (HN.h23 (o.of_set (by decide))).imp On.old id⟩
          refine StepsI.cons (i := 23) (ws := [21, 19, 22, 0, 1, 2, 3, 4, 5, 6, 7, 8, 9, 10, 11, 12, 13, 14, 15, 16, 17, 18, 19, 20, 21, 22]) rfl (by kernel_rfl) (fun L a W hI hno hon hw K hK => ?_) ?_
          · obtain ⟨_, rfl, u32, u33, u34, u35, u36, u37, u38, u39, u40, u41, u42, u43, u44, u45, u46, u47, u48, u49, u50, u51, u12, u13, q12, q13, x12, y12, x13, y13, rfl, H⟩ := hI
            simp only [List.getElem_toArray, List.getElem_cons_zero, List.getElem_cons_succ]
            have e19 := H.h19 (hw 19 (by simp))
            subst e19
            have h21 := H.h21 (hw 21 (by simp))
            have eq13 := h21.1
            have hlq := h21.2.1
            have hbq := h21.2.2
            clear h21
            subst eq13
            simp only [frmL, Act.put, List.setIfInBounds_toArray, List.set_cons_zero, List.set_cons_succ]
            have c0 := blk_cell hbq (i := 0) rfl
            have c1 := blk_cell hbq (i := 1) rfl
            have f0 := blk_frozen hbq 0
            have f1 := blk_frozen hbq 1
            go_simp
            have HN := H
            refine hK.out _ _ ⟨[u32, u33, u34, u35, u36, u37, u38, u39, u40, u41, u42, u43, u44, u45, u46, u47, u48, u49, u50, .agg #[.int .i64 U2, .int .i64 D2], u12, .pointer (some ⟨q13, 0, none⟩)], ?_, u32, u33, u34, u35, u36, u37, u38, u39, u40, u41, u42, u43, u44, u45, u46, u47, u48, u49, u50, .agg #[.int .i64 U2, .int .i64 D2], u12, .pointer (some ⟨q13, 0, none⟩), q12, q13, x12, y12, U2, D2, rfl, ?_⟩
            · simp only [frmL, Act.put, List.setIfInBounds_toArray, List.set_cons_zero, List.set_cons_succ]
            · exact ⟨(H.bw.setCell (p := ⟨q13, 0, none⟩) hlq _).setCell (p := ⟨q13, 1, none⟩) hlq _, fun o => HN.h0 (o.of_set (by decide)), fun o => HN.h1 (o.of_set (by decide)), fun o => HN.h2 (o.of_set (by decide)), fun o => HN.h3 (o.of_set (by decide)), fun o => HN.h4 (o.of_set (by decide)), fun o => HN.h5 (o.of_set (by decide)), fun o => HN.h6 (o.of_set (by decide)), fun o => HN.h7 (o.of_set (by decide)), fun o => HN.h8 (o.of_set (by decide)), fun o => HN.h9 (o.of_set (by decide)), fun o => HN.h10 (o.of_set (by decide)), fun o => HN.h11 (o.of_set (by decide)), fun o => HN.h12 (o.of_set (by decide)), fun o => HN.h13 (o.of_set (by decide)), fun o => HN.h14 (o.of_set (by decide)), fun o => HN.h15 (o.of_set (by decide)), fun o => HN.h16 (o.of_set (by decide)), fun o => HN.h17 (o.of_set (by decide)), fun o => HN.h18 (o.of_set (by decide)), fun o => HN.h19 (o.of_set (by decide)), fun o => by obtain ⟨a, b, d⟩ := H.h20 (o.of_set (by decide)); exact ⟨a, b, blk_other (p := ⟨q13, 1, none⟩) (blk_other (p := ⟨q13, 0, none⟩) d (fun e => H.hne (o.of_set (by decide)) (hw 21 (by simp)) e) _) (fun e => H.hne (o.of_set (by decide)) (hw 21 (by simp)) e) _⟩, fun _ => ⟨rfl, hlq, blk_set (blk_set hbq 0 _) 1 _⟩, fun o o2 => HN.hne (o.of_set (by decide)) (o2.of_set (by decide)), fun o => (HN.h22 (o.of_set (by decide))).imp On.old id, fun _ => ⟨(hw 21 (by simp)).old, rfl, rfl⟩⟩
          exact StepsI.nil
        · rintro L us W hL ⟨u32, u33, u34, u35, u36, u37, u38, u39, u40, u41, u42, u43, u44, u45, u46, u47, u48, u49, u50, u51, u12, u13, q12, q13, x12, y12, x13, y13, rfl, H⟩
          obtain ⟨rfl, _, b12⟩ := H.h20 (hL 20 (by decide))
          obtain ⟨rfl, _, b13⟩ := H.h21 (hL 21 (by decide))
          obtain ⟨_, e22, f22⟩ := H.h22 (hL 22 (by decide))
          obtain ⟨_, e23, f23⟩ := H.h23 (hL 23 (by decide))
          rw [e22, f22] at b12
          rw [e23, f23] at b13
          simp only [frmL, Act.put, List.setIfInBounds_toArray, List.set_cons_zero, List.set_cons_succ]
          have HB := Lib.hid (below_up HB.out H.bw)
          have HSW := Lib.hid (fun W' (k : Below W.heap.size W W') => show (W'.cell? ⟨q12, 0, none⟩ = some (.int .i64 U1) ∧ W'.cell? ⟨q12, 1, none⟩ = some (.int .i64 D1)) ∧ (W'.cell? ⟨q13, 0, none⟩ = some (.int .i64 U2) ∧ W'.cell? ⟨q13, 1, none⟩ = some (.int .i64 D2)) from
            ⟨⟨blk_cell (blk_below b12 k) (i := 0) rfl, blk_cell (blk_below b12 k) (i := 1) rfl⟩, ⟨blk_cell (blk_below b13 k) (i := 0) rfl, blk_cell (blk_below b13 k) (i := 1) rfl⟩⟩)
          have DX := Lib.hid (Below.refl W.heap.size W)
          have SX := Lib.hid (HSW.out _ DX.out)
          clear H b12 b13 e22 f22 e23 f23 hL HK1 HK2 HE HiN HjN hin hjn
          rw [← HW1.out] at HF1
          rw [← HW2.out] at HF2
          go_wp2
          go_region_held3 (fun W => (W.cell? ⟨q12, 0, none⟩ = some (.int .i64 U1) ∧ W.cell? ⟨q12, 1, none⟩ = some (.int .i64 D1)) ∧ (W.cell? ⟨q13, 0, none⟩ = some (.int .i64 U2) ∧ W.cell? ⟨q13, 1, none⟩ = some (.int .i64 D2)))
            (first | exact SX.out | exact HSW.out _ DX.out | exact HSW.out _ DX.out.drew | go_keep)
            (first
            | (go_at_call 51; (with_reducible refine (HF1.out _).mono ?_); rintro e v1 ⟨rfl, hb⟩; have DX := Lib.hid (show Below W.heap.size W v1 from by first | exact below_up DX.out hb | exact below_up DX.out.drew hb); have SX := Lib.hid (HSW.out _ DX.out); clear hb)
            | (go_at_call 51; (with_reducible refine (HF2.out _).mono ?_); rintro e v1 ⟨rfl, hb⟩; have DX := Lib.hid (show Below W.heap.size W v1 from by first | exact below_up DX.out hb | exact below_up DX.out.drew hb); have SX := Lib.hid (HSW.out _ DX.out); clear hb)
            | (go_at_call 52; (with_reducible refine (HL.out _).mono ?_); rintro e v1 ⟨rfl, hb⟩; have DX := Lib.hid (show Below W.heap.size W v1 from by first | exact below_up DX.out hb | exact below_up DX.out.drew hb); have SX := Lib.hid (HSW.out _ DX.out); clear hb)
            | fail)
          all_goals
            have HEE := Lib.hid (below_up HB.out DX.out)
            clear SX DX
            go_wp2
            go_ret
            exact ⟨rfl, HEE.out⟩
      · rw [pb_false ht] at HT
        rw [pb_false (p := HOk f i j s t) (fun h => ht h.hg)]
        clear hok hs ht
        go_enter Try.func24, Try.ntmps24
        go_wp2_with fail
        refine HC.out.mono ?_
        rintro e w1 ⟨rfl, hq⟩
        have HB := Lib.hid (below_up HB.out (hq.below (B := (w.alloc (.cells #[.int .i64 i, .int .i64 j] 3)).heap.size)))
        clear hq HC
        go_wp2_with (go_at_call 50; (first | (with_reducible refine (HS.out _).mono ?_) | (with_reducible refine (HT.out _).mono ?_)); rintro e w' ⟨rfl, rfl⟩)
        go_ret
        exact ⟨rfl, HB.out⟩
    · rw [pb_false hs] at HS
      rw [pb_false (p := HOk f i j s t) (fun h => hs h.hc)]
      clear hok hs
      go_enter Try.func24, Try.ntmps24
      go_wp2_with fail
      refine HC.out.mono ?_
      rintro e w1 ⟨rfl, hq⟩
      have HB := Lib.hid (below_up HB.out (hq.below (B := (w.alloc (.cells #[.int .i64 i, .int .i64 j] 3)).heap.size)))
      clear hq HC
      go_wp2_with (go_at_call 50; (with_reducible refine (HS.out _).mono ?_); rintro e w' ⟨rfl, rfl⟩)
      go_ret
      exact ⟨rfl, HB.out⟩
  · rw [pb_false hok] at HC
    rw [pb_false (p := HOk f i j s t) (fun h => hok h.k)]
    clear hok
    go_enter Try.func24, Try.ntmps24
    go_wp2_with fail
    refine HC.out.mono ?_
    rintro e w1 ⟨rfl, hq⟩
    have HB := Lib.hid (below_up HB.out (hq.below (B := (w.alloc (.cells #[.int .i64 i, .int .i64 j] 3)).heap.size)))
    clear hq HC
    go_wp2
    go_ret
    exact ⟨rfl, HB.out⟩

end Go.Proofs.Ytlfljcemcaphcaa

/- Five parameters, opened. -/
namespace Go.Proofs.Ytlfljcemcaphcaa
open Go.ChangeShapes Go.WideShapes Go.ChangeAt Go.RowKit Go.Deep

section
variable {H : Type} {enc : TypeId × Value → H} {P : Program} {w : World} {base : Nat} {spare : Nat → Bool} {held : Bool}
theorem trodAll_five {ta tb tc td te : TypeId} {args : Array Value} {ds : List (DataW H)} {ps : List MemPlace} (h : DataW.TrodAll enc P w base spare held [ta, tb, tc, td, te] args.toList ds ps) :
    ∃ a b c d e da db dc dd de pa pb pc pd pe, args = #[a, b, c, d, e] ∧ ds = [da, db, dc, dd, de] ∧ ps = pa ++ pb ++ pc ++ pd ++ pe ∧ DataW.Trod enc P w base spare held ta a da pa ∧ DataW.Trod enc P w base spare held tb b db pb ∧ DataW.Trod enc P w base spare held tc c dc pc ∧ DataW.Trod enc P w base spare held td d dd pd ∧ DataW.Trod enc P w base spare held te e de pe := by
  obtain ⟨a, _, da, _, pa, _, hargs, rfl, rfl, ha, h1⟩ := trodAll_cons h
  obtain ⟨b, _, db, _, pb, _, rfl, rfl, rfl, hb, h2⟩ := trodAll_cons h1
  obtain ⟨c, _, dc, _, pc, _, rfl, rfl, rfl, hc, h3⟩ := trodAll_cons h2
  obtain ⟨d, _, dd, _, pd, _, rfl, rfl, rfl, hd, h4⟩ := trodAll_cons h3
  obtain ⟨e, _, de, _, pe, _, rfl, rfl, rfl, he, h5⟩ := trodAll_cons h4
  obtain ⟨rfl, rfl, rfl⟩ := trodAll_nil h5
  exact ⟨a, b, c, d, e, da, db, dc, dd, de, pa, pb, pc, pd, pe, by cases args; simp_all, rfl, by simp, ha, hb, hc, hd, he⟩
end
end Go.Proofs.Ytlfljcemcaphcaa

