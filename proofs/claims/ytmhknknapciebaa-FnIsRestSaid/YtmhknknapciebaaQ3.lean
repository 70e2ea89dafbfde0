/- Texts merged: Lift R1. -/
import Derived.Test.YtmhknknapciebaaQ2
import Derived.ProofKit
import Derived.SizedLaws
import Derived.Carry
import Derived.Lib.SmallJoins
/- From a contract 'returns true, nothing that was there has turned' to a row. -/
namespace Go.Proofs.Ytmhknknapciebaa
open Go.ChangeShapes Go.WideShapes Go.ChangeAt Go.RowKit Go.Deep

theorem Try.own : ownKnob Try.prog.godebug = none := by kernel_rfl
theorem Try.laidOut : laidOutB Try.prog = true := by kernel_rfl
theorem Try.cells23 : Try.prog.cellsOf 23 = 1 := by kernel_rfl
theorem Try.cells3 : Try.prog.cellsOf 3 = 1 := by kernel_rfl
theorem Try.bytes23 : Try.prog.bytesOf 23 = 24 := by kernel_rfl
theorem Try.bytes3 : Try.prog.bytesOf 3 = 8 := by kernel_rfl

section
variable {H : Type} {enc : TypeId × Value → H}

/-- Every argument reads as it did. -/
theorem trodAll_below {W W' : World} (hb : Below W.heap.size W W') : ∀ {ts : List TypeId} {vs : List Value} {ds : List (DataW H)} {p : List MemPlace},
    (∀ t ∈ ts, Try.prog.readableRec t = true ∧ t < Try.prog.types.size) → DataW.TrodAll enc Try.prog W 0 (fun _ => true) true ts vs ds p → (∀ x ∈ p, x.block < W.heap.size) →
    DataW.TrodAll enc Try.prog W' 0 (fun b => decide (b < W.heap.size)) true ts vs ds p
  | [], _, _, _, _, h, _ => by
    obtain ⟨rfl, rfl, rfl⟩ := trodAll_nil h
    exact h
  | t :: ts, _, _, _, ht, h, hp => by
    obtain ⟨v, vs1, d, ds1, a, b, rfl, rfl, rfl, h1, h2⟩ := trodAll_cons h
    have r := ht t (by simp)
    exact ⟨a, b, Below.trod Try.laidOut r.1 r.2 h1 hb (fun x hx => hp x (by simp [hx])), trodAll_below hb (fun u hu => ht u (by simp [hu])) h2 (fun x hx => hp x (by simp [hx])), rfl⟩

theorem law_post {s : ChangeSpec} {F : Func} (hv : s.vars = []) (hrt : F.resultTypes = #[4]) (hpar : ∀ t ∈ F.params.toList, Try.prog.readableRec t = true ∧ t < Try.prog.types.size)
    {W W' : World} {args : Array Value} {ds gs : List (DataW H)} {p : List MemPlace}
    (hW : DataW.Whole enc Try.prog F.params.toList s.vars false W args.toList ds gs p) (hfn : gs = [] → s.fn H (ds ++ gs) = { results := [.lit (.bool true)], args := ds }) (hb : Below W.heap.size W W') :
    s.post enc Try.prog F false true false false W args (.bool true) W' := by
  have hW' := hW
  obtain ⟨a, b, hA, hV, hpp, _, _⟩ := hW
  rw [hv] at hV
  obtain ⟨rfl, rfl⟩ := trodVars_none hV
  have hlt : ∀ x ∈ p, x.block < W.heap.size := fun x hx => hW'.lt x hx
  have hpp' : p = a := by simpa using hpp
  subst hpp'
  refine ⟨ds, [], p, [], p, [], hW', ?_, ?_, ?_, hb.frame _, fun h => by cases h⟩
  · rw [hfn rfl, hrt]
    exact trodAll_mk1 (shut_bool Try.underlying4 true)
  · rw [hfn rfl]
    exact trodAll_below hb hpar hA hlt
  · rw [hfn rfl, hv]
    rfl

theorem weights_slice {P : Program} {t e : TypeId} {elems spare : List (DataW H)} (hu : P.underlying t = some (.slice e)) {n : Nat}
    (h : n = (elems.length + spare.length) * P.bytesOf e ∨ (∃ d, (d ∈ elems ∨ d ∈ spare) ∧ n ∈ d.weights P e)) : n ∈ DataW.weights P t (.slice elems spare) := by
  have all : ∀ (l : List (DataW H)) (d : DataW H), d ∈ l → ∀ n, n ∈ d.weights P e → n ∈ DataW.weightsAll P e l := by
    intro l
    induction l with
    | nil => intro d hd; cases hd
    | cons x l ih =>
      intro d hd n hn
      simp only [DataW.weightsAll, List.mem_append]
      rcases List.mem_cons.1 hd with rfl | hd
      · exact .inl hn
      · exact .inr (ih d hd n hn)
  simp only [DataW.weights, hu, List.mem_cons, List.mem_append]
  rcases h with h | ⟨d, hd | hd, hn⟩
  · exact .inl h
  · exact .inr (.inl (all _ _ hd _ hn))
  · exact .inr (.inr (all _ _ hd _ hn))

/-- A cell of the type [][]int, opened. -/
theorem open_rows_cell {W : World} {v : Value} {x : DataW H × List MemPlace} {fuel : Nat}
    (hf : DataW.trod enc Try.prog W 0 (fun _ => true) true fuel 22 [v] = some x) (hw : ∀ n ∈ x.1.weights Try.prog 22, n ≤ reachBytes) :
    ∃ A n c xss, v = .slice A n c ∧ IntRows W A n c xss := by
  rcases open_int_rows Try.underlying22 Try.underlying23 Try.underlying3 Try.cells23 Try.cells3 hf with ⟨hcs0, hx⟩ | ⟨a, len', cap', A, L, C, Z, hcs0, _, hl, hm, hx, hrows⟩
  · obtain rfl : v = .slice none 0 0 := by simpa using hcs0
    exact ⟨none, 0, 0, [], rfl, rfl, Nat.le_refl _, by omega, fun h => absurd h (by omega)⟩
  · obtain rfl : v = .slice (some a) len' cap' := by simpa using hcs0
    subst hx
    have h24 := hw _ (weights_slice Try.underlying22 (.inl rfl))
    simp only [List.length_map, List.length_range, Try.bytes23, reachBytes] at h24
    refine ⟨some a, len', cap', (List.range len').map fun r => (Z r).take (L r), rfl, by simp, hl, by omega, fun hn => ?_⟩
    have hspot : a.spot = none := by
      have h0 := World.cell?_spot (hrows 0 (by omega)).1
      simpa [Addr.add] using h0
    obtain ⟨b, o, sp⟩ := a
    simp only at hspot
    subst hspot
    refine ⟨b, o, rfl, fun k hk => ?_⟩
    obtain ⟨hcell, hLC, hCm, hZ, hwf, hnone, hsome⟩ := hrows k (by omega)
    have hgr : gr ((List.range len').map fun r => (Z r).take (L r)) k = (Z k).take (L k) := by rw [gr_get (by simpa using hk)]; simp
    have hlen : ((Z k).take (L k)).length = L k := by rw [List.length_take]; omega
    rw [hgr, hlen]
    refine ⟨A k, C k, ?_, ⟨hlen, hLC, ?_, fun x hx => ?_, fun hp => ?_⟩⟩
    · rw [← add_plain]; exact hcell
    · by_cases hA : A k = none
      · have := hnone hA; omega
      · obtain ⟨a', ha'⟩ := Option.ne_none_iff_exists'.1 hA
        have h8 := hw ((((Z k).take (L k)).length + ((Z k).drop (L k)).length) * 8) (weights_slice Try.underlying22 (.inr ⟨intRow .i64 (A k) (L k) (Z k), .inl (List.mem_map.2 ⟨k, List.mem_range.2 hk, rfl⟩), by
          unfold intRow
          rw [ha']
          exact weights_slice Try.underlying23 (.inl (by simp [lits, Try.bytes3]))⟩))
        rw [List.length_take, List.length_drop] at h8
        simp only [reachBytes] at h8
        omega
    · have := hwf x (List.mem_of_mem_take hx)
      simp [Lit.wf, IntKind.min, IntKind.max, IntKind.signed, IntKind.bits] at this
      omega
    · have hA : A k ≠ none := fun hA => by have := hnone hA; omega
      obtain ⟨a', ha'⟩ := Option.ne_none_iff_exists'.1 hA
      obtain ⟨_, hc⟩ := hsome a' ha'
      have hspot : a'.spot = none := by
        have h0 := World.cell?_spot (hc 0 (by omega))
        simpa [Addr.add] using h0
      obtain ⟨b', o', sp⟩ := a'
      simp only at hspot
      subst hspot
      refine ⟨b', o', ha', fun i hi => ?_⟩
      rw [← add_plain, hc i (by omega)]
      congr 2
      rw [gi_get (by rw [hlen]; exact hi), List.getElem_take]
      simp [List.getD, show i < (Z k).length by omega]

set_option maxRecDepth 100000 in
/-- An argument of the type [][]int, opened. -/
theorem open_rows {W : World} {v : Value} {d : DataW H} {p : List MemPlace} {b0 : Nat} (hval : Value.okWide Try.prog W .any b0 22 v)
    (h : DataW.Trod enc Try.prog W 0 (fun _ => true) true 22 v d p) (hw : ∀ n ∈ d.weights Try.prog 22, n ≤ reachBytes) :
    ∃ A n c xss, v = .slice A n c ∧ IntRows W A n c xss := by
  obtain ⟨a0, len, cap, rfl⟩ := okWide_slice Try.underlying22 hval
  obtain ⟨fuel, hf⟩ := h
  exact open_rows_cell (x := (d, p)) hf hw


theorem weights_arg {F : Func} {s : ChangeSpec} {ds gs : List (DataW H)} (h : (DataW.weightsEach Try.checked.prog (F.params.toList ++ s.plain.varTypes Try.checked.prog) (ds ++ gs)).all (· ≤ reachBytes) = true)
    {j : Nat} {t : TypeId} {d : DataW H} (ht : F.params.toList[j]? = some t) (hd : ds[j]? = some d) : ∀ n ∈ d.weights Try.prog t, n ≤ reachBytes := fun n hn => by
  have ht' : (F.params.toList ++ s.plain.varTypes Try.checked.prog)[j]? = some t := by
    rw [List.getElem?_append_left (List.getElem?_eq_some_iff.1 ht).1]; exact ht
  have hd' : (ds ++ gs)[j]? = some d := by
    rw [List.getElem?_append_left (List.getElem?_eq_some_iff.1 hd).1]; exact hd
  have := List.all_eq_true.1 h _ (DataW.weights_mem_each (P := Try.checked.prog) ht' hd' n hn)
  simpa using this
end
end Go.Proofs.Ytmhknknapciebaa

/- The reader that draws numbers out of a code. -/
namespace Go.Proofs.Ytmhknknapciebaa
open Go.RowKit

/-- A slice of bytes. -/
structure Bytes (w : World) (A : Option Addr) (n c : Nat) : Prop where
  cap : n ≤ c
  max : n ≤ 140737488355328
  at_ : 0 < n → ∃ b o, A = some ⟨b, o, none⟩ ∧ ∀ k, k < n → ∃ v : Int, 0 ≤ v ∧ v ≤ 255 ∧ w.cell? ⟨b, o + k, none⟩ = some (.int .u8 v)
theorem Bytes.keep {w w' A n c} (h : Bytes w A n c) (k : Keep w w') : Bytes w' A n c :=
  ⟨h.cap, h.max, fun hn => let ⟨b, o, e, hc⟩ := h.at_ hn; ⟨b, o, e, fun i hi => let ⟨v, h0, h1, h2⟩ := hc i hi; ⟨v, h0, h1, k _ _ h2⟩⟩⟩

/-- A reader in block g, at position p, over bytes that lie below its block. -/
structure Rdr (w0 w : World) (g : Nat) (A : Option Addr) (n c p : Nat) : Prop where
  box : Blk w g 85 #[.slice A n c, .int .i64 p]
  bytes : Bytes w0 A n c
  below : Below w0.heap.size w0 w
  lt : w0.heap.size ≤ g
  small : n ≤ 2000
theorem Rdr.at_ {w0 w g A n c p} (h : Rdr w0 w g A n c p) : Bytes w A n c := h.bytes.keep (Keep.below h.below)

def Picked (w0 : World) (g : Nat) (A : Option Addr) (l c p : Nat) (n : Int) (w : World) (e : Ending) (w' : World) : Prop :=
  ∃ m : Int, e = .returned (.int .i64 m) ∧ (1 ≤ n → 0 ≤ m ∧ m < n) ∧ (n < 1 → m = 0) ∧ Rdr w0 w' g A l c (p + 1) ∧ ∃ q, w' = (w.setCell ⟨g, 1, none⟩ (.int .i64 (p + 1 : Nat))).drewN q

/-- The world behind the step of the reader. -/
theorem Rdr.step {w0 w g A n c p} (h : Rdr w0 w g A n c p) : Rdr w0 (w.setCell ⟨g, 1, none⟩ (.int .i64 (p + 1 : Nat))) g A n c (p + 1) :=
  ⟨blk_set h.box 1 _, h.bytes, h.below.setCell h.lt _, h.lt, h.small⟩
theorem Rdr.quiet {w0 w w' g A n c p} (h : Rdr w0 w g A n c p) (k : Quiet w w') : Rdr w0 w' g A n c p :=
  ⟨blk_quiet h.box k, h.bytes, below_quiet h.below k, h.lt, h.small⟩
theorem cast_succ (p : Nat) : ((p + 1 : Nat) : Int) = (p : Int) + 1 := by omega

set_option maxRecDepth 100000 in
set_option maxHeartbeats 1000000 in
theorem pick_zero (w0 w : World) (g : Nat) (A : Option Addr) (l c p : Nat) (n : Int) (h : Rdr w0 w g A l c p) (hp : p < 1000000000) (hz : n < 1) :
    Calls Try.prog 77 #[.pointer (some ⟨g, 0, none⟩), .int .i64 n] w (Picked w0 g A l c p n w) := by
  have k0 := blk_cell h.box (i := 0) (v := .slice A l c) rfl
  have k1 := blk_cell h.box (i := 1) (v := .int .i64 p) rfl
  have f1 := blk_frozen h.box 1
  have hs := h.small
  have HS := Lib.hid h.step
  go_enter Try.func77, Try.ntmps77
  go_wp2
  go_ret
  exact ⟨0, rfl, fun h => absurd h (by omega), fun _ => rfl, HS.out, 0, by rw [cast_succ]; rfl⟩

set_option maxRecDepth 100000 in
set_option maxHeartbeats 1000000 in
theorem pick_none (w0 w : World) (g : Nat) (A : Option Addr) (c p : Nat) (n : Int) (h : Rdr w0 w g A 0 c p) (hp : p < 1000000000) (hz : 1 ≤ n) :
    Calls Try.prog 77 #[.pointer (some ⟨g, 0, none⟩), .int .i64 n] w (Picked w0 g A 0 c p n w) := by
  have k0 := blk_cell h.box (i := 0) (v := .slice A 0 c) rfl
  have k1 := blk_cell h.box (i := 1) (v := .int .i64 p) rfl
  have f1 := blk_frozen h.box 1
  have HS := Lib.hid h.step
  have j0 := blk_cell h.step.box (i := 0) (v := .slice A 0 c) rfl
  have j1 := blk_cell h.step.box (i := 1) (v := .int .i64 (p + 1 : Nat)) rfl
  rw [cast_succ] at j0 j1
  go_enter Try.func77, Try.ntmps77
  go_wp2
  go_ret
  exact ⟨0, rfl, fun _ => ⟨Int.le_refl _, by omega⟩, fun h => absurd h (by omega), HS.out, 0, by rw [cast_succ]; rfl⟩

set_option maxRecDepth 100000 in
set_option maxHeartbeats 1000000 in
theorem pick_in (w0 w : World) (g : Nat) (A : Option Addr) (l c p : Nat) (n : Int) (h : Rdr w0 w g A l c p) (hp : p < l) (hz : 1 ≤ n) :
    Calls Try.prog 77 #[.pointer (some ⟨g, 0, none⟩), .int .i64 n] w (Picked w0 g A l c p n w) := by
  have k0 := blk_cell h.box (i := 0) (v := .slice A l c) rfl
  have k1 := blk_cell h.box (i := 1) (v := .int .i64 p) rfl
  have f1 := blk_frozen h.box 1
  have HS := Lib.hid h.step
  have j0 := blk_cell h.step.box (i := 0) (v := .slice A l c) rfl
  have j1 := blk_cell h.step.box (i := 1) (v := .int .i64 (p + 1 : Nat)) rfl
  have hs := h.small
  obtain ⟨b, o, rfl, hc⟩ := h.step.at_.at_ (by omega)
  obtain ⟨v, v0, v1, cb⟩ := hc p hp
  rw [cast_succ] at j0 j1 cb
  have hl0 : ((l : Int) == 0) = false := by simp; omega
  clear hc
  go_enter Try.func77, Try.ntmps77
  go_wp2
  go_ret
  exact ⟨v % n, rfl, fun _ => ⟨Int.emod_nonneg _ (by omega), Int.emod_lt_of_pos _ (by omega)⟩, fun h => absurd h (by omega), HS.out, 0, by rw [cast_succ]; rfl⟩

end Go.Proofs.Ytmhknknapciebaa

