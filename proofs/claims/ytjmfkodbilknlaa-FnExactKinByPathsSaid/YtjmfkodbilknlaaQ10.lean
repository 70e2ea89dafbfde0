/- Texts merged: Lift. -/
import Derived.Test.YtjmfkodbilknlaaQ9
import Derived.ProofKit
import Derived.SizedLaws
import Derived.Carry
import Derived.Lib.SmallJoins
/- From a contract 'returns true, nothing that was there has turned' to a row. -/
namespace Go.Proofs.Ytjmfkodbilknlaa
open Go.ChangeShapes Go.WideShapes Go.ChangeAt Go.RowKit Go.Deep

theorem Try.own : ownKnob Try.prog.godebug = none := by kernel_rfl
theorem Try.laidOut : laidOutB Try.prog = true := by kernel_rfl
theorem Try.cells36 : Try.prog.cellsOf 36 = 1 := by kernel_rfl
theorem Try.cells3 : Try.prog.cellsOf 3 = 1 := by kernel_rfl
theorem Try.bytes36 : Try.prog.bytesOf 36 = 24 := by kernel_rfl
theorem Try.bytes3 : Try.prog.bytesOf 3 = 8 := by kernel_rfl

section
variable {H : Type} {enc : TypeId × Value → H}

/-- Every argument reads as it did. -/
theorem trodAll_below {W W' : World} (hb : Below W.heap.size W W') : ∀ {ts : List TypeId} {vs : List Value} {ds : List (DataW H)} {p : List MemPlace},
    (∀ t ∈ ts, Try.prog.readableRec t = true ∧ t < Try.prog.types.size) → DataW.TrodAll enc Try.prog W 0 (fun _ => true) true ts vs ds p → (∀ x ∈ p, x.block < W.heap.size) →
    DataW.TrodAll enc Try.prog W' 0 (fun b => decide (b < W.heap.size)) true ts vs ds p
  | [], _, _, _, _, h, _ => by
    obtain ⟨rfl, rfl, rfl⟩ := trodAll_nil h
    exact h
  | t :: ts, _, _, _, ht, h, hp => by
    obtain ⟨v, vs1, d, ds1, a, b, rfl, rfl, rfl, h1, h2⟩ := trodAll_cons h
    have r := ht t (by simp)
    exact ⟨a, b, Below.trod Try.laidOut r.1 r.2 h1 hb (fun x hx => hp x (by simp [hx])), trodAll_below hb (fun u hu => ht u (by simp [hu])) h2 (fun x hx => hp x (by simp [hx])), rfl⟩

theorem law_post {s : ChangeSpec} {F : Func} (hv : s.vars = []) (hrt : F.resultTypes = #[4]) (hpar : ∀ t ∈ F.params.toList, Try.prog.readableRec t = true ∧ t < Try.prog.types.size)
    {W W' : World} {args : Array Value} {ds gs : List (DataW H)} {p : List MemPlace}
    (hW : DataW.Whole enc Try.prog F.params.toList s.vars false W args.toList ds gs p) (hfn : gs = [] → s.fn H (ds ++ gs) = { results := [.lit (.bool true)], args := ds }) (hb : Below W.heap.size W W') :
    s.post enc Try.prog F false true false false W args (.bool true) W' := by
  have hW' := hW
  obtain ⟨a, b, hA, hV, hpp, _, _⟩ := hW
  rw [hv] at hV
  obtain ⟨rfl, rfl⟩ := trodVars_none hV
  have hlt : ∀ x ∈ p, x.block < W.heap.size := fun x hx => hW'.lt x hx
  have hpp' : p = a := by simpa using hpp
  subst hpp'
  refine ⟨ds, [], p, [], p, [], hW', ?_, ?_, ?_, hb.frame _, fun h => by cases h⟩
  · rw [hfn rfl, hrt]
    exact trodAll_mk1 (shut_bool Try.underlying4 true)
  · rw [hfn rfl]
    exact trodAll_below hb hpar hA hlt
  · rw [hfn rfl, hv]
    rfl

theorem weights_slice {P : Program} {t e : TypeId} {elems spare : List (DataW H)} (hu : P.underlying t = some (.slice e)) {n : Nat}
    (h : n = (elems.length + spare.length) * P.bytesOf e ∨ (∃ d, (d ∈ elems ∨ d ∈ spare) ∧ n ∈ d.weights P e)) : n ∈ DataW.weights P t (.slice elems spare) := by
  have all : ∀ (l : List (DataW H)) (d : DataW H), d ∈ l → ∀ n, n ∈ d.weights P e → n ∈ DataW.weightsAll P e l := by
    intro l
    induction l with
    | nil => intro d hd; cases hd
    | cons x l ih =>
      intro d hd n hn
      simp only [DataW.weightsAll, List.mem_append]
      rcases List.mem_cons.1 hd with rfl | hd
      · exact .inl hn
      · exact .inr (ih d hd n hn)
  simp only [DataW.weights, hu, List.mem_cons, List.mem_append]
  rcases h with h | ⟨d, hd | hd, hn⟩
  · exact .inl h
  · exact .inr (.inl (all _ _ hd _ hn))
  · exact .inr (.inr (all _ _ hd _ hn))

/-- A cell of the type [][]int, opened. -/
theorem open_rows_cell {W : World} {v : Value} {x : DataW H × List MemPlace} {fuel : Nat}
    (hf : DataW.trod enc Try.prog W 0 (fun _ => true) true fuel 22 [v] = some x) (hw : ∀ n ∈ x.1.weights Try.prog 22, n ≤ reachBytes) :
    ∃ A n c xss, v = .slice A n c ∧ IntRows W A n c xss := by
  rcases open_int_rows Try.underlying22 Try.underlying36 Try.underlying3 Try.cells36 Try.cells3 hf with ⟨hcs0, hx⟩ | ⟨a, len', cap', A, L, C, Z, hcs0, _, hl, hm, hx, hrows⟩
  · obtain rfl : v = .slice none 0 0 := by simpa using hcs0
    exact ⟨none, 0, 0, [], rfl, rfl, Nat.le_refl _, by omega, fun h => absurd h (by omega)⟩
  · obtain rfl : v = .slice (some a) len' cap' := by simpa using hcs0
    subst hx
    have h24 := hw _ (weights_slice Try.underlying22 (.inl rfl))
    simp only [List.length_map, List.length_range, Try.bytes36, reachBytes] at h24
    refine ⟨some a, len', cap', (List.range len').map fun r => (Z r).take (L r), rfl, by simp, hl, by omega, fun hn => ?_⟩
    have hspot : a.spot = none := by
      have h0 := World.cell?_spot (hrows 0 (by omega)).1
      simpa [Addr.add] using h0
    obtain ⟨b, o, sp⟩ := a
    simp only at hspot
    subst hspot
    refine ⟨b, o, rfl, fun k hk => ?_⟩
    obtain ⟨hcell, hLC, hCm, hZ, hwf, hnone, hsome⟩ := hrows k (by omega)
    have hgr : gr ((List.range len').map fun r => (Z r).take (L r)) k = (Z k).take (L k) := by rw [gr_get (by simpa using hk)]; simp
    have hlen : ((Z k).take (L k)).length = L k := by rw [List.length_take]; omega
    rw [hgr, hlen]
    refine ⟨A k, C k, ?_, ⟨hlen, hLC, ?_, fun x hx => ?_, fun hp => ?_⟩⟩
    · rw [← add_plain]; exact hcell
    · by_cases hA : A k = none
      · have := hnone hA; omega
      · obtain ⟨a', ha'⟩ := Option.ne_none_iff_exists'.1 hA
        have h8 := hw ((((Z k).take (L k)).length + ((Z k).drop (L k)).length) * 8) (weights_slice Try.underlying22 (.inr ⟨intRow .i64 (A k) (L k) (Z k), .inl (List.mem_map.2 ⟨k, List.mem_range.2 hk, rfl⟩), by
          unfold intRow
          rw [ha']
          exact weights_slice Try.underlying36 (.inl (by simp [lits, Try.bytes3]))⟩))
        rw [List.length_take, List.length_drop] at h8
        simp only [reachBytes] at h8
        omega
    · have := hwf x (List.mem_of_mem_take hx)
      simp [Lit.wf, IntKind.min, IntKind.max, IntKind.signed, IntKind.bits] at this
      omega
    · have hA : A k ≠ none := fun hA => by have := hnone hA; omega
      obtain ⟨a', ha'⟩ := Option.ne_none_iff_exists'.1 hA
      obtain ⟨_, hc⟩ := hsome a' ha'
      have hspot : a'.spot = none := by
        have h0 := World.cell?_spot (hc 0 (by omega))
        simpa [Addr.add] using h0
      obtain ⟨b', o', sp⟩ := a'
      simp only at hspot
      subst hspot
      refine ⟨b', o', ha', fun i hi => ?_⟩
      rw [← add_plain, hc i (by omega)]
      congr 2
      rw [gi_get (by rw [hlen]; exact hi), List.getElem_take]
      simp [List.getD, show i < (Z k).length by omega]

set_option maxRecDepth 100000 in
/-- An argument of the type [][]int, opened. -/
theorem open_rows {W : World} {v : Value} {d : DataW H} {p : List MemPlace} {b0 : Nat} (hval : Value.okWide Try.prog W .any b0 22 v)
    (h : DataW.Trod enc Try.prog W 0 (fun _ => true) true 22 v d p) (hw : ∀ n ∈ d.weights Try.prog 22, n ≤ reachBytes) :
    ∃ A n c xss, v = .slice A n c ∧ IntRows W A n c xss := by
  obtain ⟨a0, len, cap, rfl⟩ := okWide_slice Try.underlying22 hval
  obtain ⟨fuel, hf⟩ := h
  exact open_rows_cell (x := (d, p)) hf hw

theorem Try.cells40 : Try.prog.cellsOf 40 = 2 := by kernel_rfl
set_option maxRecDepth 100000 in
/-- An argument of the type laws.Game, opened. -/
theorem open_game {W : World} {v : Value} {d : DataW H} {p : List MemPlace} {b0 : Nat} (hval : Value.okWide Try.prog W .any b0 40 v)
    (h : DataW.Trod enc Try.prog W 0 (fun _ => true) true 40 v d p) (hw : ∀ n ∈ d.weights Try.prog 40, n ≤ reachBytes) :
    ∃ A n c xs B m e ys, v = .agg #[.slice A n c, .slice B m e] ∧ IntRows W A n c xs ∧ IntRows W B m e ys := by
  obtain ⟨v0, v1, y0, y1, k, rfl, rfl, rfl, h0, h1⟩ := Go.Joins.open_agg2 Try.underlying40 (by kernel_rfl) Try.cells40 hval h
  have hw0 : ∀ n ∈ y0.1.weights Try.prog 22, n ≤ reachBytes := fun n hn => hw n (by simp [DataW.weights, Try.underlying40, DataW.weightsEach, hn])
  have hw1 : ∀ n ∈ y1.1.weights Try.prog 22, n ≤ reachBytes := fun n hn => hw n (by simp [DataW.weights, Try.underlying40, DataW.weightsEach, hn])
  obtain ⟨A, n, c, xs, rfl, hx⟩ := open_rows_cell h0 hw0
  obtain ⟨B, m, e, ys, rfl, hy⟩ := open_rows_cell h1 hw1
  exact ⟨A, n, c, xs, B, m, e, ys, rfl, hx, hy⟩

theorem weights_arg {F : Func} {s : ChangeSpec} {ds gs : List (DataW H)} (h : (DataW.weightsEach Try.checked.prog (F.params.toList ++ s.plain.varTypes Try.checked.prog) (ds ++ gs)).all (· ≤ reachBytes) = true)
    {j : Nat} {t : TypeId} {d : DataW H} (ht : F.params.toList[j]? = some t) (hd : ds[j]? = some d) : ∀ n ∈ d.weights Try.prog t, n ≤ reachBytes := fun n hn => by
  have ht' : (F.params.toList ++ s.plain.varTypes Try.checked.prog)[j]? = some t := by
    rw [List.getElem?_append_left (List.getElem?_eq_some_iff.1 ht).1]; exact ht
  have hd' : (ds ++ gs)[j]? = some d := by
    rw [List.getElem?_append_left (List.getElem?_eq_some_iff.1 hd).1]; exact hd
  have := List.all_eq_true.1 h _ (DataW.weights_mem_each (P := Try.checked.prog) ht' hd' n hn)
  simpa using this
end
end Go.Proofs.Ytjmfkodbilknlaa

