/- Texts merged: LiftB LiftC Enter C9E Math71 Y1 C9Y Asc Math73. -/
import Derived.Test.YtidoahicgiaodaaQ12
import Derived.ChangeSlices
/- An argument of bytes, opened. -/
namespace Go.Proofs.Ytidoahicgiaodaa
open Go.ChangeShapes Go.WideShapes Go.ChangeAt Go.RowKit Go.Deep

theorem Try.cells_u8 : Try.prog.cellsOf 5 = 1 := by kernel_rfl
theorem Try.bytes_u8 : Try.prog.bytesOf 5 = 1 := by kernel_rfl
set_option maxRecDepth 100000 in
theorem open_bytes {H : Type} {enc : TypeId × Value → H} {W : World} {v : Value} {d : DataW H} {p : List MemPlace} {b0 : Nat} (hval : Value.okWide Try.prog W .any b0 32 v)
    (h : DataW.Trod enc Try.prog W 0 (fun _ => true) true 32 v d p) (hw : ∀ n ∈ d.weights Try.prog 32, n ≤ reachBytes) :
    ∃ A n c, v = .slice A n c ∧ Bytes W A n c := by
  obtain ⟨a1, len, cap, rfl⟩ := okWide_slice Try.underlying32 hval
  obtain ⟨fuel, hf⟩ := h
  rcases open_ints Try.underlying32 Try.underlying5 Try.cells_u8 hf with ⟨hcs, hx⟩ | ⟨a, len', cap', zs, hcs, _, hl, hm, hz, hx, hcell, hwz⟩
  · simp [Value.cells] at hcs
    obtain ⟨rfl, rfl, rfl⟩ := hcs
    exact ⟨none, 0, 0, rfl, Nat.le_refl _, by omega, fun h => absurd h (by omega)⟩
  · simp [Value.cells] at hcs
    obtain ⟨rfl, rfl, rfl⟩ := hcs
    simp only [Prod.mk.injEq] at hx
    obtain ⟨rfl, rfl⟩ := hx
    simp only [if_true] at hz
    have h1 := hw _ (weights_slice Try.underlying32 (.inl rfl))
    simp only [lits, List.length_map, List.length_take, List.length_drop, Try.bytes_u8, reachBytes] at h1
    refine ⟨some a, len, cap, rfl, hl, by omega, fun hn => ?_⟩
    have hspot : a.spot = none := by simpa [Addr.add] using World.cell?_spot (hcell 0 (by omega))
    obtain ⟨b, o, sp⟩ := a
    simp only at hspot
    subst hspot
    refine ⟨b, o, rfl, fun k hk => ⟨zs.getD k 0, ?_, ?_, by rw [← add_plain]; exact hcell k (by omega)⟩⟩
    · rw [List.getD_eq_getElem?_getD]; have := hwz (zs.getD k 0) (by rw [List.getD_eq_getElem?_getD, List.getElem?_eq_getElem (show k < zs.length by omega)]; simp)
      simp [Lit.wf, IntKind.min, IntKind.max, IntKind.signed, IntKind.bits] at this
      omega
    · rw [List.getD_eq_getElem?_getD]; have := hwz (zs.getD k 0) (by rw [List.getD_eq_getElem?_getD, List.getElem?_eq_getElem (show k < zs.length by omega)]; simp)
      simp [Lit.wf, IntKind.min, IntKind.max, IntKind.signed, IntKind.bits] at this
      omega
end Go.Proofs.Ytidoahicgiaodaa

/- Arguments that are a slice of ints, or an int, opened. -/
namespace Go.Proofs.Ytidoahicgiaodaa
open Go.ChangeShapes Go.WideShapes Go.ChangeAt Go.RowKit Go.Deep

set_option maxRecDepth 100000 in
theorem open_intS {H : Type} {enc : TypeId × Value → H} {W : World} {v : Value} {d : DataW H} {p : List MemPlace} {b0 : Nat} (hval : Value.okWide Try.prog W .any b0 36 v)
    (h : DataW.Trod enc Try.prog W 0 (fun _ => true) true 36 v d p) (hw : ∀ n ∈ d.weights Try.prog 36, n ≤ reachBytes) :
    ∃ A n c xs, v = .slice A n c ∧ Ints W A n c xs := by
  obtain ⟨a1, len, cap, rfl⟩ := okWide_slice Try.underlying36 hval
  obtain ⟨fuel, hf⟩ := h
  rcases open_ints Try.underlying36 Try.underlying3 Try.cells3 hf with ⟨hcs, hx⟩ | ⟨a, len', cap', zs, hcs, _, hl, hm, hz, hx, hcell, hwz⟩
  · simp [Value.cells] at hcs
    obtain ⟨rfl, rfl, rfl⟩ := hcs
    exact ⟨none, 0, 0, [], rfl, rfl, Nat.le_refl _, by omega, fun _ h => by simp at h, fun h => absurd h (by omega)⟩
  · simp [Value.cells] at hcs
    obtain ⟨rfl, rfl, rfl⟩ := hcs
    simp only [Prod.mk.injEq] at hx
    obtain ⟨rfl, rfl⟩ := hx
    simp only [if_true] at hz
    have h1 := hw _ (weights_slice Try.underlying36 (.inl rfl))
    simp only [lits, List.length_map, List.length_take, List.length_drop, Try.bytes3, reachBytes] at h1
    have hlen : (zs.take len).length = len := by rw [List.length_take]; omega
    refine ⟨some a, len, cap, zs.take len, rfl, hlen, hl, by omega, fun x hx => ?_, fun hn => ?_⟩
    · have := hwz x (List.mem_of_mem_take hx)
      simp [Lit.wf, IntKind.min, IntKind.max, IntKind.signed, IntKind.bits] at this
      omega
    have hspot : a.spot = none := by simpa [Addr.add] using World.cell?_spot (hcell 0 (by omega))
    obtain ⟨b, o, sp⟩ := a
    simp only at hspot
    subst hspot
    refine ⟨b, o, rfl, fun k hk => ?_⟩
    rw [← add_plain, hcell k (by omega)]
    congr 2
    rw [gi_get (by rw [hlen]; exact hk), List.getElem_take]
    simp [List.getD, show k < zs.length by omega]

set_option maxRecDepth 100000 in
theorem open_num {H : Type} {enc : TypeId × Value → H} {W : World} {v : Value} {d : DataW H} {p : List MemPlace} {b0 : Nat} (hval : Value.okWide Try.prog W .any b0 3 v)
    (h : DataW.Trod enc Try.prog W 0 (fun _ => true) true 3 v d p) : ∃ x, v = .int .i64 x ∧ Fit x := by
  obtain ⟨x, rfl, _, _, hw⟩ := open_int Try.underlying3 hval h
  refine ⟨x, rfl, ?_⟩
  simp [Lit.wf, IntKind.min, IntKind.max, IntKind.signed, IntKind.bits] at hw
  unfold Fit
  omega
end Go.Proofs.Ytidoahicgiaodaa

/- The program may be entered: facts of its head, once for all laws. -/
namespace Go.Proofs.Ytidoahicgiaodaa

theorem prog_enters : Try.pinned.checked.prog.mayEnter = true := by kernel_rfl
theorem prog_lifts0 : (false == Try.pinned.checked.prog.liftsFinal) = true := by kernel_rfl
theorem prog_make0 : (Try.pinned.checked.prog.make == some .cut) = true := by kernel_rfl
theorem prog_lifts {b : Bool} (h : b = false) : (b == Try.pinned.checked.prog.liftsFinal) = true := by subst h; exact prog_lifts0
theorem prog_make {m : Make} (h : m = .cut) : (Try.pinned.checked.prog.make == some m) = true := by subst h; exact prog_make0
end Go.Proofs.Ytidoahicgiaodaa

/- A row that is copied and changed, beside rows under way. -/
namespace Go.Proofs.Ytidoahicgiaodaa
open Go.RowKit

theorem TN.pushs {wb H v vs xss u u' ys zs w w'} (h : TN wb H v vs xss u ys w)
    (hown : w'.ownsRow H 3 1 u' (ys.length + zs.length) (ys.map iv ++ zs.map iv)) (hgrow : w.grownBy w' u.ownBlock) :
    TN wb H v vs xss u' (ys ++ zs) w' := by
  have hlh := h.lh
  have hhs := h.hs
  have hsz := hgrow.size
  have hu : ∀ k, u.ownBlock = some k → H ≤ k := fun k hk => (h.bi.own.lt k hk).1
  have hbelow : ∀ k, k < H → w'.heap[k]? = w.heap[k]? := fun k hk => hgrow.block k (by omega) (fun e => by have := hu k e.symm; omega)
  refine ⟨h.bo.of_blocks fun k _ hk _ => hbelow k hk, ⟨by rw [List.length_append, List.map_append]; exact hown, fun k hk => (hown.lt k hk).2⟩, hlh, by omega, ?_⟩
  exact ⟨hgrow.os.trans h.up.os, hgrow.tape.trans h.up.tape, hgrow.output.trans h.up.output, by have := h.up.size; omega, fun k hk => (hbelow k (by omega)).trans (h.up.block k hk)⟩
theorem TN.set {wb H v vs xss u ys w} (h : TN wb H v vs xss u ys w) {j : Nat} (hj : j < ys.length) (x : Int) :
    ∃ b c, u = .slice (some ⟨b, 0, none⟩) ys.length c ∧ w.cell? ⟨b, j, none⟩ = some (.int .i64 (gi ys j)) ∧ w.frozen? ⟨b, j, none⟩ = false ∧ TN wb H v vs xss u (ys.set j x) (w.setCell ⟨b, j, none⟩ (.int .i64 x)) := by
  have hlh := h.lh
  obtain ⟨b, c, e, h1, h2, hc, hf, hs⟩ := h.bi.set hj x
  have hz : (w.setCell ⟨b, j, none⟩ (.int .i64 x)).heap.size = w.heap.size := by simp [World.setCell]
  refine ⟨b, c, e, hc, hf, h.bo.of_blocks (fun k _ hk _ => Below.heap_setCell _ _ _ _ (fun e => by have : k = b := e; omega)), by rw [hz]; exact hs, h.lh, by rw [hz]; exact h.hs, h.up.setCell (p := ⟨b, j, none⟩) (by show wb.heap.size ≤ b; omega) _⟩
/-- A row of which the first numbers are changed. -/
def updR (f : Nat → Int) (row : List Int) (k : Nat) : List Int := (List.range row.length).map fun q => if q < k then f q else gi row q
theorem updR_len (f : Nat → Int) (row : List Int) (k : Nat) : (updR f row k).length = row.length := by simp [updR]
theorem gi_updR {f : Nat → Int} {row : List Int} {k q : Nat} (h : q < row.length) : gi (updR f row k) q = if q < k then f q else gi row q := by rw [gi_get (by rw [updR_len]; exact h)]; simp [updR]
theorem updR_zero (f : Nat → Int) (row : List Int) : updR f row 0 = row := gi_ext (updR_len _ _ _) fun q hq => by rw [updR_len] at hq; rw [gi_updR hq, if_neg (by omega)]
theorem updR_set {f : Nat → Int} {row : List Int} {k : Nat} : (updR f row k).set k (f k) = updR f row (k + 1) := by
  refine gi_ext (by rw [List.length_set, updR_len, updR_len]) fun q hq => ?_
  rw [List.length_set, updR_len] at hq
  rw [gi_get (by rw [List.length_set, updR_len]; exact hq), List.getElem_set, gi_updR hq]
  by_cases e : k = q
  · subst e; rw [if_pos rfl, if_pos (by omega)]
  · rw [if_neg e, ← gi_get (by rw [updR_len]; exact hq), gi_updR hq]
    by_cases h1 : q < k
    · rw [if_pos h1, if_pos (by omega)]
    · rw [if_neg h1, if_neg (by omega)]
theorem updR_same {f : Nat → Int} {row : List Int} {k : Nat} (h : k < row.length) (e : f k = gi row k) : updR f row (k + 1) = updR f row k := by
  refine gi_ext (by rw [updR_len, updR_len]) fun q hq => ?_
  rw [updR_len] at hq
  rw [gi_updR hq, gi_updR hq]
  by_cases e2 : q = k
  · subst e2; rw [if_pos (by omega), if_neg (by omega), e]
  · by_cases h1 : q < k
    · rw [if_pos h1, if_pos (by omega)]
    · rw [if_neg h1, if_neg (by omega)]
/-- A table changed, row by row. -/
def chT (f : Nat → Nat → Int) (a : List (List Int)) (k : Nat) : List (List Int) := (List.range k).map fun i => updR (f i) (gr a i) (gr a i).length
theorem chT_succ (f : Nat → Nat → Int) (a : List (List Int)) (k : Nat) : chT f a (k + 1) = chT f a k ++ [updR (f k) (gr a k) (gr a k).length] := by rw [chT, List.range_succ, List.map_append]; rfl
theorem chT_len (f : Nat → Nat → Int) (a : List (List Int)) (k : Nat) : (chT f a k).length = k := by simp [chT]
theorem gr_chT {f : Nat → Nat → Int} {a : List (List Int)} {k i : Nat} (h : i < k) : gr (chT f a k) i = updR (f i) (gr a i) (gr a i).length := by rw [gr_get (by rw [chT_len]; exact h)]; simp [chT]
theorem chT_vc {f : Nat → Nat → Int} {a : List (List Int)} (v : VC a) (h : ∀ i j, i < a.length → j < a.length → 0 ≤ f i j ∧ f i j ≤ 20) : VC (chT f a a.length) := by
  have h1 := v.n1
  have h4 := v.n4
  refine ⟨by rw [chT_len]; exact h1, by rw [chT_len]; exact h4, fun i hi => ?_⟩
  rw [chT_len] at hi
  have hr := (v.rows i hi).1
  refine ⟨by rw [gr_chT hi, updR_len, chT_len, hr], fun j hj => ?_⟩
  rw [chT_len] at hj
  rw [gr_chT hi, gi_updR (by rw [hr]; exact hj), if_pos (by rw [hr]; exact hj)]
  have := h i j hi hj
  unfold InR; exact this
theorem g2_chT {f : Nat → Nat → Int} {a : List (List Int)} (v : VC a) {i j : Nat} (hi : i < a.length) (hj : j < a.length) : g2 (chT f a a.length) i j = f i j := by
  have hr := (v.rows i hi).1
  unfold g2
  rw [gr_chT hi, gi_updR (by rw [hr]; exact hj), if_pos (by rw [hr]; exact hj)]
end Go.Proofs.Ytidoahicgiaodaa

/- Costs of which one row is halved. -/
namespace Go.Proofs.Ytidoahicgiaodaa
open Go.RowKit

def haF (a : List (List Int)) (i j : Nat) : Int := if i = 0 then g2 a i j / 2 else g2 a i j
theorem haF_bd {a : List (List Int)} (v : VC a) {i j : Nat} (hi : i < a.length) (hj : j < a.length) : (0 ≤ haF a i j ∧ haF a i j ≤ 20) ∧ haF a i j ≤ g2 a i j := by
  have h := (v.rows i hi).2 j hj
  unfold InR at h
  unfold haF g2
  split <;> omega
theorem ha_less {a : List (List Int)} (v : VC a) {r : Nat} (hr : r < a.length) : TF (chT (haF a) a a.length) (r : Int) ≤ TF a (r : Int) := by
  have hv := chT_vc v (f := haF a) (fun i j hi hj => (haF_bd v hi hj).1)
  have hl := chT_len (haF a) a a.length
  have h := TF_in hv (r := r) (by rw [hl]; exact hr)
  rw [hl] at h
  obtain ⟨t, ht, e⟩ := (TF_in v hr).at_
  have h2 := h.low t ht
  have key : ∀ k, k ≤ a.length → csF (g2 (chT (haF a) a a.length)) r t k ≤ csF (g2 a) r t k := by
    intro k
    induction k with
    | zero => intro _; exact Int.le_refl _
    | succ k ih =>
      intro hk
      have i1 := ih (by omega)
      rw [csF, csF]
      by_cases ek : k = r
      · rw [if_pos ek, if_pos ek]; exact i1
      · rw [if_neg ek, if_neg ek]
        have h1 := ht.2.1.bd k (by rw [ht.1]; omega)
        rw [ht.1] at h1
        have hg := g2_chT (f := haF a) v (i := k) (j := (gi t k).toNat) (by omega) (by omega)
        have hb := (haF_bd v (i := k) (j := (gi t k).toNat) (by omega) (by omega)).2
        rw [hg]
        omega
  have := key a.length (Nat.le_refl _)
  omega
theorem updR_id {f : Nat → Int} {row : List Int} (h : ∀ q, q < row.length → f q = gi row q) (k : Nat) : updR f row k = row := gi_ext (updR_len _ _ _) fun q hq => by
  rw [updR_len] at hq
  rw [gi_updR hq]
  split
  · exact h q hq
  · rfl
end Go.Proofs.Ytidoahicgiaodaa

/- Small functions of the laws. -/
namespace Go.Proofs.Ytidoahicgiaodaa
open Go.RowKit

set_option maxHeartbeats 400000 in
theorem divisor_any (a b : Int) (w : World) (ha : Mid a) (hb : Mid b) :
    Calls Try.prog 69 #[.int .i64 a, .int .i64 b] w fun e w' => e = .returned (.int .i64 (gcdI a b)) ∧ Quiet w w' := by
  have HA := Lib.hid ha
  have HB := Lib.hid hb
  clear ha hb
  go_enter Try.func69, Try.ntmps69
  go_wp2
  go_loopw [0, 1] (fun s t wr => ∃ x y : Int, s = .int .i64 x ∧ t = .int .i64 y ∧ Hid (Mid x) ∧ Hid (Mid y) ∧ Hid (gcdI x y = gcdI a b) ∧ Quiet w wr) (fun _ t _ => (intOf t).natAbs)
  case atStart => exact ⟨a, b, rfl, rfl, HA, HB, Lib.hid rfl, Quiet.refl _⟩
  case round =>
    obtain ⟨x, y, rfl, rfl, HX, HY, HG, q, rfl⟩ := hrel
    obtain ⟨x1, x2⟩ := HX.out
    obtain ⟨y1, y2⟩ := HY.out
    by_cases hy : y = 0
    · subst hy
      have hg := Lib.hid (gcdI_zero x)
      go_wp2
      all_goals go_ret
      all_goals exact ⟨ret_int (by rw [← HG.out, hg.out]; omega), ⟨_, rfl⟩⟩
    · have hy' : (y != 0) = true := by simpa using hy
      have HM := Lib.hid (HX.out.tmod (y := y))
      have HS := Lib.hid (gcdI_step x y)
      have HT := Lib.hid (tmod_abs (a := x) hy)
      go_wp2
      go_roundw
      case rel => exact ⟨y, x.tmod y, rfl, rfl, HY, HM, Lib.hid (HS.out.trans HG.out), ⟨_, rfl⟩⟩
      case measure => have := HT.out; simpa [intOf] using this

set_option maxHeartbeats 400000 in
theorem lessOf_any (u d v e : Int) (w : World) (hu : -1000000000 ≤ u ∧ u ≤ 1000000000) (hv : -1000000000 ≤ v ∧ v ≤ 1000000000) (hd : 0 ≤ d ∧ d ≤ 1000000000) (he : 0 ≤ e ∧ e ≤ 1000000000) :
    Calls Try.prog 20 #[.agg #[.int .i64 u, .int .i64 d], .agg #[.int .i64 v, .int .i64 e]] w (Ret (.bool (lessB u d v e)) w) := by
  obtain ⟨p1, p2⟩ := less_bd hu he
  obtain ⟨p3, p4⟩ := less_bd hv hd
  have b0 := blk_old (blk_new w 25 #[.int .i64 u, .int .i64 d]) (.cells #[.int .i64 v, .int .i64 e] 25)
  have b1 := blk_new (w.alloc (.cells #[.int .i64 u, .int .i64 d] 25)) 25 #[.int .i64 v, .int .i64 e]
  have HB := Lib.hid (below_up (below_alloc w (.cells #[.int .i64 u, .int .i64 d] 25)) (below_alloc _ (.cells #[.int .i64 v, .int .i64 e] 25)))
  rw [World.size_alloc] at b1
  have c0 := blk_cell b0 (i := 0) rfl
  have c1 := blk_cell b0 (i := 1) rfl
  have c2 := blk_cell b1 (i := 0) rfl
  have c3 := blk_cell b1 (i := 1) rfl
  go_enter Try.func20, Try.ntmps20
  go_wp2
  go_ret
  exact ⟨rfl, HB.out⟩
set_option maxHeartbeats 1000000 in
theorem fracOfL_any (u d : Int) (w : World) (hu : Mid u) (hd : Mid d) (h1 : 1 ≤ d) :
    Calls Try.prog 23 #[.int .i64 u, .int .i64 d] w (Ret (frV u d) w) := by
  have HQ := Lib.hid (fun W => divisor_any u d W hu hd)
  have hg1 := gcdI_pos (a := u) (b := d) (by omega)
  have hg2 := gcdI_le (a := u) (b := d) (by omega)
  obtain ⟨u1, u2⟩ := hu
  obtain ⟨d1, d2⟩ := hd
  have hB := Lib.hid (below_alloc w (.cells #[.int .i64 0, .int .i64 0] 25))
  go_enter Try.func23, Try.ntmps23
  go_wp2_with fail
  refine (HQ.out _).mono ?_
  rintro e w2 ⟨rfl, hq⟩
  have HFU : Hid (frU u d = u.tdiv (gcdI u d)) := Lib.hid rfl
  have HFD : Hid (frD u d = d / gcdI u d) := Lib.hid (by unfold frD; rw [Int.tdiv_eq_ediv_of_nonneg (by omega)])
  have b0 := blk_quiet (blk_new w 25 #[.int .i64 0, .int .i64 0]) hq
  have HBW := Lib.hid (below_quiet hB.out hq)
  clear hq hB HQ
  generalize gcdI u d = g at *
  have c0 := blk_cell b0 (i := 0) rfl
  have c1 := blk_cell b0 (i := 1) rfl
  have f0 := blk_frozen b0 0
  have f1 := blk_frozen b0 1
  have g0 : (g == 0) = false := by simp; omega
  go_wp2
  go_region
  all_goals clear c0 c1 f0 f1
  all_goals go_wp2
  have B1 := blk_set (blk_set b0 0 (.int .i64 (u.tdiv g))) 1 (.int .i64 (d / g))
  have r0 := blk_cell B1 (i := 0) (v := .int .i64 (u.tdiv g)) rfl
  have r1 := blk_cell B1 (i := 1) (v := .int .i64 (d / g)) rfl
  have HBX := Lib.hid ((HBW.out.setCell (p := ⟨w.heap.size, 0, none⟩) (Nat.le_refl _) (.int .i64 (u.tdiv g))).setCell (p := ⟨w.heap.size, 1, none⟩) (Nat.le_refl _) (.int .i64 (d / g))).drew
  replace r0 : ((w2.setCell ⟨w.heap.size, 0, none⟩ (.int .i64 (u.tdiv g))).setCell ⟨w.heap.size, 1, none⟩ (.int .i64 (d / g))).drew.cell? ⟨w.heap.size, 0, none⟩ = some (.int .i64 (u.tdiv g)) := r0
  replace r1 : ((w2.setCell ⟨w.heap.size, 0, none⟩ (.int .i64 (u.tdiv g))).setCell ⟨w.heap.size, 1, none⟩ (.int .i64 (d / g))).drew.cell? ⟨w.heap.size, 1, none⟩ = some (.int .i64 (d / g)) := r1
  clear B1 b0 HBW
  generalize ((w2.setCell ⟨w.heap.size, 0, none⟩ (.int .i64 (u.tdiv g))).setCell ⟨w.heap.size, 1, none⟩ (.int .i64 (d / g))).drew = W3 at *
  refine bodyPost_ret (v := .agg #[.int .i64 (u.tdiv g), .int .i64 (d / g)]) (by simp [results, Try.results23, go_sem, r0, r1]) rfl ?_
  exact ⟨by rw [frV, HFU.out, HFD.out], HBX.out⟩
set_option maxHeartbeats 1000000 in
theorem plusOf_any (u d v e : Int) (w : World) (hu : -100000000 ≤ u ∧ u ≤ 100000000) (hv : -100000000 ≤ v ∧ v ≤ 100000000) (hd : 1 ≤ d ∧ d ≤ 10000000) (he : 1 ≤ e ∧ e ≤ 10000000) (hm : Mid (u * e + v * d)) :
    Calls Try.prog 24 #[.agg #[.int .i64 u, .int .i64 d], .agg #[.int .i64 v, .int .i64 e]] w (Ret (frV (u * e + v * d) (d * e)) w) := by
  obtain ⟨p1, p2⟩ := mulbd (x := u) (y := e) (A := 100000000) (B := 10000000) hu (by omega)
  obtain ⟨p3, p4⟩ := mulbd (x := v) (y := d) (A := 100000000) (B := 10000000) hv (by omega)
  obtain ⟨p5, p6⟩ := mulbd (x := d) (y := e) (A := 10000000) (B := 10000000) (by omega) (by omega)
  obtain ⟨p7, p8⟩ := mulbd (x := u) (y := v) (A := 100000000) (B := 100000000) hu hv
  have p9 : 1 ≤ d * e := by have h : 1 * 1 ≤ d * e := Int.mul_le_mul hd.1 he.1 (by omega) (by omega); omega
  have HC := Lib.hid (fun W => fracOfL_any (u * e + v * d) (d * e) W hm (by unfold Mid; omega) p9)
  have b0 := blk_old (blk_old (blk_new w 25 #[.int .i64 u, .int .i64 d]) (.cells #[.int .i64 v, .int .i64 e] 25)) (.cells #[.int .i64 0, .int .i64 0] 25)
  have b1 := blk_old (blk_new (w.alloc (.cells #[.int .i64 u, .int .i64 d] 25)) 25 #[.int .i64 v, .int .i64 e]) (.cells #[.int .i64 0, .int .i64 0] 25)
  have b2 := blk_new ((w.alloc (.cells #[.int .i64 u, .int .i64 d] 25)).alloc (.cells #[.int .i64 v, .int .i64 e] 25)) 25 #[.int .i64 0, .int .i64 0]
  have HB := Lib.hid (below_up (below_up (below_alloc w (.cells #[.int .i64 u, .int .i64 d] 25)) (below_alloc _ (.cells #[.int .i64 v, .int .i64 e] 25))) (below_alloc _ (.cells #[.int .i64 0, .int .i64 0] 25)))
  have HFV : Hid (frV (u * e + v * d) (d * e) = .agg #[.int .i64 (frU (u * e + v * d) (d * e)), .int .i64 (frD (u * e + v * d) (d * e))]) := Lib.hid rfl
  rw [HFV.out] at HC
  simp only [World.size_alloc] at b1 b2
  have c0 := blk_cell b0 (i := 0) rfl
  have c1 := blk_cell b0 (i := 1) rfl
  have c2 := blk_cell b1 (i := 0) rfl
  have c3 := blk_cell b1 (i := 1) rfl
  have HB2 := Lib.hid b2
  clear b0 b1 b2
  go_enter Try.func24, Try.ntmps24
  go_wp2_with fail
  clear c0 c1 c2 c3
  generalize ((w.alloc (.cells #[.int .i64 u, .int .i64 d] 25)).alloc (.cells #[.int .i64 v, .int .i64 e] 25)).alloc (.cells #[.int .i64 0, .int .i64 0] 25) = w1 at *
  refine (HC.out _).mono ?_
  rintro e w2 ⟨rfl, hb⟩
  have b0 := blk_below HB2.out hb
  have HBW := Lib.hid (below_up HB.out hb)
  clear hb HC HB HB2
  generalize frU (u * e + v * d) (d * e) = U at *
  generalize frD (u * e + v * d) (d * e) = D at *
  have c0 := blk_cell b0 (i := 0) rfl
  have c1 := blk_cell b0 (i := 1) rfl
  have f0 := blk_frozen b0 0
  have f1 := blk_frozen b0 1
  go_wp2
  clear c0 c1 f0 f1
  have B1 := blk_set (blk_set b0 0 (.int .i64 U)) 1 (.int .i64 D)
  have r0 := blk_cell B1 (i := 0) (v := .int .i64 U) rfl
  have r1 := blk_cell B1 (i := 1) (v := .int .i64 D) rfl
  have hle : w.heap.size ≤ w.heap.size + 1 + 1 := by omega
  have HBX := Lib.hid ((HBW.out.setCell (p := ⟨w.heap.size + 1 + 1, 0, none⟩) hle (.int .i64 U)).setCell (p := ⟨w.heap.size + 1 + 1, 1, none⟩) hle (.int .i64 D))
  clear B1 b0 HBW
  generalize (w2.setCell ⟨w.heap.size + 1 + 1, 0, none⟩ (.int .i64 U)).setCell ⟨w.heap.size + 1 + 1, 1, none⟩ (.int .i64 D) = WE at *
  refine bodyPost_ret (v := .agg #[.int .i64 U, .int .i64 D]) (by simp [results, Try.results24, go_sem, r0, r1]) rfl ?_
  exact ⟨by rw [HFV.out], HBX.out⟩
set_option maxHeartbeats 1000000 in
theorem timesOf_any (u d v e : Int) (w : World) (hu : -1000000 ≤ u ∧ u ≤ 1000000) (hv : -1000000 ≤ v ∧ v ≤ 1000000) (hd : 1 ≤ d ∧ d ≤ 1000000) (he : 1 ≤ e ∧ e ≤ 1000000) :
    Calls Try.prog 22 #[.agg #[.int .i64 u, .int .i64 d], .agg #[.int .i64 v, .int .i64 e]] w (Ret (frV (u * v) (d * e)) w) := by
  obtain ⟨p1, p2⟩ := mulbd (x := u) (y := e) (A := 1000000) (B := 1000000) hu (by omega)
  obtain ⟨p3, p4⟩ := mulbd (x := v) (y := d) (A := 1000000) (B := 1000000) hv (by omega)
  obtain ⟨p5, p6⟩ := mulbd (x := d) (y := e) (A := 1000000) (B := 1000000) (by omega) (by omega)
  obtain ⟨p7, p8⟩ := mulbd (x := u) (y := v) (A := 1000000) (B := 1000000) hu hv
  have p9 : 1 ≤ d * e := by have h : 1 * 1 ≤ d * e := Int.mul_le_mul hd.1 he.1 (by omega) (by omega); omega
  have HC := Lib.hid (fun W => fracOfL_any (u * v) (d * e) W (by unfold Mid; omega) (by unfold Mid; omega) p9)
  have b0 := blk_old (blk_old (blk_new w 25 #[.int .i64 u, .int .i64 d]) (.cells #[.int .i64 v, .int .i64 e] 25)) (.cells #[.int .i64 0, .int .i64 0] 25)
  have b1 := blk_old (blk_new (w.alloc (.cells #[.int .i64 u, .int .i64 d] 25)) 25 #[.int .i64 v, .int .i64 e]) (.cells #[.int .i64 0, .int .i64 0] 25)
  have b2 := blk_new ((w.alloc (.cells #[.int .i64 u, .int .i64 d] 25)).alloc (.cells #[.int .i64 v, .int .i64 e] 25)) 25 #[.int .i64 0, .int .i64 0]
  have HB := Lib.hid (below_up (below_up (below_alloc w (.cells #[.int .i64 u, .int .i64 d] 25)) (below_alloc _ (.cells #[.int .i64 v, .int .i64 e] 25))) (below_alloc _ (.cells #[.int .i64 0, .int .i64 0] 25)))
  have HFV : Hid (frV (u * v) (d * e) = .agg #[.int .i64 (frU (u * v) (d * e)), .int .i64 (frD (u * v) (d * e))]) := Lib.hid rfl
  rw [HFV.out] at HC
  simp only [World.size_alloc] at b1 b2
  have c0 := blk_cell b0 (i := 0) rfl
  have c1 := blk_cell b0 (i := 1) rfl
  have c2 := blk_cell b1 (i := 0) rfl
  have c3 := blk_cell b1 (i := 1) rfl
  have HB2 := Lib.hid b2
  clear b0 b1 b2
  go_enter Try.func22, Try.ntmps22
  go_wp2_with fail
  clear c0 c1 c2 c3
  generalize ((w.alloc (.cells #[.int .i64 u, .int .i64 d] 25)).alloc (.cells #[.int .i64 v, .int .i64 e] 25)).alloc (.cells #[.int .i64 0, .int .i64 0] 25) = w1 at *
  refine (HC.out _).mono ?_
  rintro e w2 ⟨rfl, hb⟩
  have b0 := blk_below HB2.out hb
  have HBW := Lib.hid (below_up HB.out hb)
  clear hb HC HB HB2
  generalize frU (u * v) (d * e) = U at *
  generalize frD (u * v) (d * e) = D at *
  have c0 := blk_cell b0 (i := 0) rfl
  have c1 := blk_cell b0 (i := 1) rfl
  have f0 := blk_frozen b0 0
  have f1 := blk_frozen b0 1
  go_wp2
  clear c0 c1 f0 f1
  have B1 := blk_set (blk_set b0 0 (.int .i64 U)) 1 (.int .i64 D)
  have r0 := blk_cell B1 (i := 0) (v := .int .i64 U) rfl
  have r1 := blk_cell B1 (i := 1) (v := .int .i64 D) rfl
  have hle : w.heap.size ≤ w.heap.size + 1 + 1 := by omega
  have HBX := Lib.hid ((HBW.out.setCell (p := ⟨w.heap.size + 1 + 1, 0, none⟩) hle (.int .i64 U)).setCell (p := ⟨w.heap.size + 1 + 1, 1, none⟩) hle (.int .i64 D))
  clear B1 b0 HBW
  generalize (w2.setCell ⟨w.heap.size + 1 + 1, 0, none⟩ (.int .i64 U)).setCell ⟨w.heap.size + 1 + 1, 1, none⟩ (.int .i64 D) = WE at *
  refine bodyPost_ret (v := .agg #[.int .i64 U, .int .i64 D]) (by simp [results, Try.results22, go_sem, r0, r1]) rfl ?_
  exact ⟨by rw [HFV.out], HBX.out⟩
/-- Whether a list has a number. -/
def HasN (xs : List Int) (x : Int) : Prop := ∃ k, k < xs.length ∧ gi xs k = x
set_option maxHeartbeats 400000 in
theorem isIn_any (A : Option Addr) (n c : Nat) (xs : List Int) (x : Int) (w : World) (hx : Ints w A n c xs) :
    Calls Try.prog 33 #[.slice A n c, .int .i64 x] w fun e w' => e = .returned (.bool (pb (HasN xs x))) ∧ Quiet w w' := by
  have hl := hx.max
  have HX := Lib.hid hx
  have HL := Lib.hid hx.len
  clear hx
  go_enter Try.func33, Try.ntmps33
  go_wp2
  go_loopw [5] (fun i wr => ∃ k : Nat, k ≤ n ∧ i = .int .i64 k ∧ Hid (∀ j, j < k → gi xs j ≠ x) ∧ Quiet w wr) (fun i _ => n - (intOf i).toNat)
  case atStart => exact ⟨0, Nat.zero_le _, rfl, Lib.hid (fun _ h => absurd h (by omega)), Quiet.refl _⟩
  case round =>
    obtain ⟨k, hk, rfl, HN, q, rfl⟩ := hrel
    by_cases hlt : k < n
    · obtain ⟨b, o, rfl, hc⟩ := HX.out.at_ (by omega)
      have c1 := hc k hlt
      clear hc
      by_cases he : gi xs k = x
      · have HR := Lib.hid (pb_true (p := HasN xs x) ⟨k, by rw [HL.out]; exact hlt, he⟩)
        have hd : (gi xs k == x) = true := by simpa using he
        clear he
        go_wp2
        go_ret
        exact ⟨ret_bool HR.out.symm, ⟨_, rfl⟩⟩
      · have HE := Lib.hid he
        have hd : (gi xs k == x) = false := by simpa using he
        clear he
        go_wp2
        go_roundw
        case rel => exact ⟨k + 1, by omega, by go_num, Lib.hid (fun j hj => by
          by_cases hjk : j < k
          · exact HN.out j hjk
          · obtain rfl : j = k := by omega
            exact HE.out), ⟨_, rfl⟩⟩
        case measure => simp [intOf]; omega
    · obtain rfl : k = n := by omega
      have HR := Lib.hid (pb_false (p := HasN xs x) (fun ⟨j, hj, e⟩ => HN.out j (by rw [← HL.out]; exact hj) e))
      go_wp2
      go_ret
      exact ⟨ret_bool HR.out.symm, ⟨_, rfl⟩⟩
set_option maxHeartbeats 400000 in
theorem equalInts_any (A B : Option Addr) (n c m d : Nat) (xs ys : List Int) (w : World) (hx : Ints w A n c xs) (hy : Ints w B m d ys) :
    Calls Try.prog 31 #[.slice A n c, .slice B m d] w fun e w' => e = .returned (.bool (eqI xs ys)) ∧ Quiet w w' := by
  obtain ⟨lx, cx, mx, _, hx⟩ := hx
  obtain ⟨ly, cy, my, _, hy⟩ := hy
  have Lx := Lib.hid lx
  have Ly := Lib.hid ly
  clear lx ly
  by_cases hnm : n = m
  · subst hnm
    go_enter Try.func31, Try.ntmps31
    go_wp2
    go_loopw [5] (fun i wr => ∃ k : Nat, k ≤ n ∧ i = .int .i64 k ∧ (∀ j, j < k → gi xs j = gi ys j) ∧ Quiet w wr) (fun i _ => n - (intOf i).toNat)
    case atStart => exact ⟨0, Nat.zero_le _, rfl, fun _ h => absurd h (by omega), Quiet.refl _⟩
    case round =>
      obtain ⟨k, hk, rfl, hall, q, rfl⟩ := hrel
      have HALL := Lib.hid hall
      clear hall
      by_cases hlt : k < n
      · obtain ⟨b, o, rfl, hcx⟩ := hx (by omega)
        obtain ⟨b2, o2, rfl, hcy⟩ := hy (by omega)
        have c1 := hcx k hlt
        have c2 := hcy k hlt
        clear hx hy hcx hcy
        by_cases he : gi xs k = gi ys k
        · have he' : (gi xs k != gi ys k) = false := by simp [he]
          have HE := Lib.hid he
          clear he
          go_wp2
          go_quiet (fail)
          go_wp2
          go_roundw
          case rel => exact ⟨k + 1, by omega, by go_num, fun j hj => by
            by_cases hjk : j < k
            · exact HALL.out j hjk
            · obtain rfl : j = k := by omega
              exact HE.out, ⟨_, rfl⟩⟩
          case measure => simp [intOf]; omega
        · have he' : (gi xs k != gi ys k) = true := by simpa using he
          go_wp2
          go_quiet (fail)
          go_wp2
          go_ret
          exact ⟨ret_bool (eqI_no he).symm, Quiet.two _ _ _⟩
      · obtain rfl : k = n := by omega
        go_wp2
        go_ret
        exact ⟨ret_bool (eqI_yes (by rw [Lx.out, Ly.out]) fun j hj => HALL.out j (by rw [Lx.out] at hj; exact hj)).symm, ⟨_, rfl⟩⟩
  · go_enter Try.func31, Try.ntmps31
    go_wp2
    go_ret
    exact ⟨ret_bool (eqI_len (by rw [Lx.out, Ly.out]; exact hnm)).symm, Quiet.refl _⟩

end Go.Proofs.Ytidoahicgiaodaa

/- What lasts, by the model. -/
namespace Go.Proofs.Ytidoahicgiaodaa
open Go.RowKit

/- What the loop knows (as C96's TW, which only a seat with TreeTried has). -/
structure TWL (w : World) (A : Option Addr) (n c : Nat) (a : List (List Int)) (W : World) : Prop where
  rows : IntRows W A n c a
  below : Below w.heap.size w W
theorem TWL.up {w A n c a W W'} (h : TWL w A n c a W) (k : Below W.heap.size W W') : TWL w A n c a W' := ⟨h.rows.keep (Keep.below k), below_up h.below k⟩
theorem byRounds_tf {A : Option Addr} {n c : Nat} {a : List (List Int)} {w : World} (hx : IntRows w A n c a) (v : VC a) (hl : a.length = n) (r : Nat) (hr : r < n) :
    Calls Try.prog 74 #[.slice A n c, .int .i64 r] w (Ret (.int .i64 (TF a (r : Int))) w) := by
  have hc := v.cb
  rw [hl] at hc
  refine (byRounds_any n n (Nat.le_refl _) A c a r w hx hc hr).mono ?_
  rintro e w2 ⟨⟨x, rfl, h⟩, hb⟩
  have h2 := TF_in v (r := r) (by rw [hl]; exact hr)
  rw [hl] at h2
  exact ⟨ret_int (h.one h2), hb⟩
theorem lasF_small (a : List (List Int)) (v : VC a) : (lasF a).length ≤ 100 ∧ ∀ y ∈ lasF a, -1000000000000000 ≤ y ∧ y ≤ 1000000000000000 := by
  have h4 := v.n4
  rw [lasF, if_pos (pb_true v)]
  exact ⟨by have := selL_len (atB (lst (tfL a a.length)) (tfL a a.length)) a.length; omega, selL_small _ _ (by omega)⟩
set_option maxRecDepth 100000 in
set_option maxHeartbeats 1600000 in
theorem LastingOf_spec (A : Option Addr) (n c : Nat) (a : List (List Int)) (w : World) (hx : IntRows w A n c a) :
    Calls Try.prog 32 #[.slice A n c] w (NewI w (lasF a)) := by
  have HX := Lib.hid hx
  have HL := Lib.hid hx.len
  have hmx := hx.max
  clear hx
  by_cases hv : VC a
  · have HC := Lib.hid (pb_true hv ▸ validCosts_any A n c a w HX.out)
    have HV := Lib.hid hv
    have h1 := hv.n1
    have h4 := hv.n4
    rw [HL.out] at h1 h4
    have HF := Lib.hid (show selL (atB (lst (tfL a n)) (tfL a n)) n = lasF a by rw [lasF, if_pos (pb_true hv), HL.out])
    have HSM := Lib.hid (lasF_small a hv)
    have HTB : Hid (∀ r, r < n → 0 ≤ TF a ((r : Nat) : Int) ∧ TF a ((r : Nat) : Int) ≤ 80) := Lib.hid (fun r hr => TF_bd HV.out (by rw [HL.out]; exact hr))
    have HMB : Hid (∀ k, k < n → 0 ≤ mn (tfL a n) k ∧ mn (tfL a n) k ≤ 80) := Lib.hid (fun k hk => mn_bd fun j hj => by rw [gi_tfL (by omega)]; exact HTB.out j (by omega))
    clear hv
    go_enter Try.func32, Try.ntmps32
    go_wp2_with fail
    refine HC.out.mono ?_
    rintro e w1 ⟨rfl, hq⟩
    have HT := Lib.hid (TWL.mk (HX.out.keep (Keep.quiet hq)) (Quiet.below (B := w.heap.size) hq))
    clear hq HC HX
    have H0 : Hid (Calls Try.prog 74 #[.slice A n c, .int .i64 0] w1 (Ret (.int .i64 (mn (tfL a n) 0)) w1)) := Lib.hid (by
      have h := byRounds_tf HT.out.rows HV.out HL.out 0 h1
      rw [← gi_tfL (a := a) h1] at h
      exact h)
    go_wp2_with fail
    refine H0.out.mono ?_
    rintro e w2 ⟨rfl, hb⟩
    have HT2 := Lib.hid (HT.out.up hb)
    clear hb H0 HT
    go_wp2
    go_loopw [3, 4] (fun b i wr => ∃ k : Nat, k + 1 ≤ n ∧ i = .int .i64 ((k : Int) + 1) ∧ b = .int .i64 (mn (tfL a n) k) ∧ Hid (TWL w A n c a wr)) (fun _ i _ => n - (intOf i).toNat)
    case atStart => exact ⟨0, h1, by go_num, rfl, HT2⟩
    case round =>
      clear HT2
      obtain ⟨k, hk, rfl, rfl, HT⟩ := hrel
      have hmb := HMB.out k (by omega)
      by_cases hkn : k + 1 < n
      · have hcast : ((k + 1 : Nat) : Int) = (k : Int) + 1 := by omega
        have HC0 := byRounds_tf HT.out.rows HV.out HL.out (k + 1) hkn
        have htb := HTB.out (k + 1) hkn
        have hmn : mn (tfL a n) (k + 1) = min (mn (tfL a n) k) (TF a ((k + 1 : Nat) : Int)) := by rw [mn, gi_tfL hkn]
        rw [hcast] at HC0 htb hmn
        have HC := Lib.hid HC0
        have HMN := Lib.hid hmn
        clear HC0 hmn hcast
        generalize mn (tfL a n) k = M at *
        generalize TF a ((k : Int) + 1) = T at *
        go_wp2_with fail
        refine HC.out.mono ?_
        rintro e w3 ⟨rfl, hb⟩
        have HT3 := Lib.hid (HT.out.up hb)
        clear hb HC HT
        go_wp2
        go_roundw
        case rel => exact ⟨k + 1, by omega, by go_num, congrArg (Value.int .i64) (by rw [HMN.out]; split <;> omega), HT3⟩
        case measure => simp [intOf]; omega
      · have hke : n = k + 1 := by omega
        have HKE := Lib.hid hke
        clear hke
        have HLS := Lib.hid (show lst (tfL a n) = mn (tfL a n) k by rw [lst, tfL_len, show n - 1 = k by have := HKE.out; omega])
        rw [HLS.out] at HF
        generalize mn (tfL a n) k = M at *
        obtain ⟨w4, hw4⟩ : ∃ w4, w4 = wr := ⟨_, rfl⟩
        rw [← hw4] at HT ⊢
        clear hw4
        have HU0 := Lib.hid (IU.start w4)
        go_wp2
        go_loopw [5, 6] (fun v i wr => ∃ q : Nat, q ≤ n ∧ i = .int .i64 q ∧ Hid (IU w4 v (selL (atB M (tfL a n)) q) wr)) (fun _ i _ => n - (intOf i).toNat)
        case atStart => exact ⟨0, by omega, rfl, HU0⟩
        case round =>
          clear HU0
          obtain ⟨q, hq, rfl, HI⟩ := hrel
          obtain ⟨Av, cv, rfl⟩ := HI.out.bi.form
          by_cases hqn : q < n
          · have HC := Lib.hid (byRounds_tf (HT.out.up HI.out.up).rows HV.out HL.out q hqn)
            have htb := HTB.out q hqn
            have HGQ := Lib.hid (gi_tfL (a := a) hqn)
            generalize TF a ((q : Nat) : Int) = T at *
            go_wp2_with fail
            refine HC.out.mono ?_
            rintro e w5 ⟨rfl, hb⟩
            have HI5 := Lib.hid (HI.out.next hb)
            clear hb HC HI
            by_cases hm : T = M
            · have hm' : (T == M) = true := by simp [hm]
              have HCS := Lib.hid (selL_yes (f := atB M (tfL a n)) (k := q) (by simp [atB, HGQ.out, hm]))
              clear hm
              have HML := Lib.hid (selL_len (atB M (tfL a n)) q)
              have hb := below_alloc w5 (.cells #[iv (q : Int)] 3)
              have HB4 := Lib.hid (HI5.out.bi.below hb).own
              have HN := Lib.hid (cell_one_new w5 (iv (q : Int)) 3)
              have hwz := HI5.out.up.size
              clear hb
              generalize selL (atB M (tfL a n)) q = ys at *
              obtain ⟨i0, hi0, hz0, hz1, hz2⟩ := info_parts Try.info_int
              go_wp2_with (at_builtin; refine wpList_append_own_at _ rfl _ _ 36 rfl w4.heap.size 3 i0 (.int .i64 0) 1 8 Try.underlying36 hi0 hz0 hz1 hz2 rfl (by decide) _ ys.length (ys.map iv) rfl HB4.out ⟨w5.heap.size, 0, none⟩ 1 1 [iv (q : Int)] rfl rfl ?c1 ?c2 ?c3 ?c4 ?c5 ?_)
              case c1 => exact HN.out
              case c2 => intro u hu; simp at hu; subst hu; rfl
              case c3 => have := HML.out; unfold maxLen; omega
              case c4 => have := HML.out; omega
              case c5 => simp; omega
              intro v' w6 hown' hgrow _ hat
              have HI6 := Lib.hid (HI5.out.push hown' hgrow (by simpa using hat))
              clear HB4 HN hown' hgrow hat HI5
              go_wp2
              go_roundw
              case rel => exact ⟨q + 1, by omega, by go_num, Lib.hid (by rw [HCS.out]; exact HI6.out)⟩
              case measure => simp [intOf]; omega
            · have hm' : (T == M) = false := by simp [hm]
              have HCS := Lib.hid (selL_no (f := atB M (tfL a n)) (k := q) (by simp [atB, HGQ.out, hm]))
              clear hm
              go_wp2
              go_roundw
              case rel => exact ⟨q + 1, by omega, by go_num, Lib.hid (by rw [HCS.out]; exact HI5.out)⟩
              case measure => simp [intOf]; omega
          · have hqe : q = n := by omega
            rw [hqe, HF.out] at HI ⊢
            have HNW := Lib.hid (NewI.from HT.out.below (HI.out.new HSM.out.1 HSM.out.2))
            go_wp2
            go_ret
            exact HNW.out
  · have HC := Lib.hid (pb_false hv ▸ validCosts_any A n c a w HX.out)
    have HF := Lib.hid (show lasF a = [] by rw [lasF, if_neg (by rw [pb_false hv]; decide)])
    clear hv
    go_enter Try.func32, Try.ntmps32
    go_wp2_with fail
    refine HC.out.mono ?_
    rintro e w1 ⟨rfl, hq⟩
    have HB1 := Lib.hid (Quiet.below (B := w.heap.size) hq)
    clear hq HC HX
    go_wp2
    go_ret
    exact NewI.empty HB1.out HF.out
theorem lasF_le (a : List (List Int)) : (lasF a).length ≤ 100 := by
  by_cases v : VC a
  · exact (lasF_small a v).1
  · rw [lasF, if_neg (by rw [pb_false v]; decide)]; simp
end Go.Proofs.Ytidoahicgiaodaa

/- Ascending lists, by the laws. -/
namespace Go.Proofs.Ytidoahicgiaodaa
open Go.RowKit

/-- Each number is more than the one ahead of it. -/
def AscL (xs : List Int) : Prop := ∀ j, 1 ≤ j → j < xs.length → gi xs (j - 1) < gi xs j
set_option maxHeartbeats 800000 in
theorem ascends_any (A : Option Addr) (n c : Nat) (xs : List Int) (w : World) (hx : Ints w A n c xs) (ha : AscL xs) :
    Calls Try.prog 34 #[.slice A n c] w fun e w' => e = .returned (.bool true) ∧ Quiet w w' := by
  have HL := Lib.hid hx.len
  have HX := Lib.hid hx
  have HA := Lib.hid ha
  have hmx := hx.max
  clear hx ha
  go_enter Try.func34, Try.ntmps34
  go_wp2
  go_loopw [3] (fun i wr => ∃ k : Nat, 1 ≤ k ∧ k ≤ n + 1 ∧ i = .int .i64 k ∧ Quiet w wr) (fun i _ => n + 1 - (intOf i).toNat)
  case atStart => exact ⟨1, by omega, by omega, rfl, Quiet.refl _⟩
  case round =>
    obtain ⟨k, h1, hk, rfl, q, rfl⟩ := hrel
    by_cases hlt : k < n
    · obtain ⟨b, o, rfl, hc⟩ := HX.out.at_ (by omega)
      obtain ⟨l, rfl⟩ : ∃ l, k = l + 1 := ⟨k - 1, by omega⟩
      have c1 := hc (l + 1) hlt
      have c2 := hc l (by omega)
      have hlt2 := HA.out (l + 1) (by omega) (by rw [HL.out]; exact hlt)
      rw [Nat.add_sub_cancel] at hlt2
      have hcs : ((l + 1 : Nat) : Int) - 1 = (l : Int) := by omega
      clear hc
      generalize gi xs (l + 1) = x at *
      generalize gi xs l = y at *
      have hle : decide (x ≤ y) = false := decide_eq_false (by omega)
      have hl1 : l < n := by omega
      have hln : (l : Int) < (n : Int) := by omega
      go_wp2
      go_quiet (fail)
      go_wp2
      go_roundw
      case rel => exact ⟨l + 1 + 1, by omega, by omega, by go_num, ⟨_, rfl⟩⟩
      case measure => simp [intOf]; omega
    · go_wp2
      go_ret
      exact ⟨rfl, ⟨_, rfl⟩⟩
end Go.Proofs.Ytidoahicgiaodaa

/- What lasts: the states with the least tree, ascending. -/
namespace Go.Proofs.Ytidoahicgiaodaa
open Go.RowKit

theorem selL_asc (f : Nat → Bool) (n : Nat) : AscL (selL f n) := by
  have hp : (selL f n).Pairwise (· < ·) := by
    unfold selL
    exact List.Pairwise.map _ (fun a b (h : a < b) => by omega) (List.Pairwise.filter _ List.pairwise_lt_range)
  intro j h1 h2
  rw [gi_get (by omega), gi_get h2]
  exact List.pairwise_iff_getElem.1 hp (j - 1) j (by omega) h2 (by omega)
theorem selL_hasn {f : Nat → Bool} {n r : Nat} (hr : r < n) : HasN (selL f n) (r : Int) ↔ f r = true := by
  constructor
  · rintro ⟨k, hk, e⟩
    have := gi_mem hk
    rw [e] at this
    obtain ⟨q, _, h2, e2⟩ := selL_mem.1 this
    have : r = q := by omega
    rw [this]; exact h2
  · intro h
    have : (r : Int) ∈ selL f n := selL_mem.2 ⟨r, hr, h, rfl⟩
    obtain ⟨k, hk, e⟩ := List.mem_iff_getElem.1 this
    exact ⟨k, hk, by rw [gi_get hk]; exact e⟩
/-- The least tree's cost. -/
noncomputable def leC (a : List (List Int)) : Int := lst (tfL a a.length)
theorem las_all {a : List (List Int)} (v : VC a) : 0 < (lasF a).length ∧ (∃ k : Nat, k < a.length ∧ gi (lasF a) 0 = k ∧ TF a (k : Int) = leC a) ∧
    (∀ r : Nat, r < a.length → leC a ≤ TF a (r : Int) ∧ (HasN (lasF a) (r : Int) ↔ TF a (r : Int) = leC a)) ∧ AscL (lasF a) := by
  have n1 := v.n1
  have hl := tfL_len a a.length
  have hF : lasF a = selL (atB (lst (tfL a a.length)) (tfL a a.length)) a.length := by rw [lasF, if_pos (pb_true v)]
  have hat : ∀ r, r < a.length → (atB (lst (tfL a a.length)) (tfL a a.length) r = true ↔ TF a (r : Int) = leC a) := fun r hr => by
    unfold atB leC; rw [gi_tfL hr]; exact decide_eq_true_iff
  obtain ⟨j, hj, e⟩ := mn_at' (tfL a a.length) ((tfL a a.length).length - 1)
  have hj' : j < a.length := by omega
  have hjm : (j : Int) ∈ lasF a := by
    rw [hF]
    refine selL_mem.2 ⟨j, hj', ?_, rfl⟩
    refine (hat j hj').2 ?_
    rw [gi_tfL hj'] at e
    exact e
  have hlen : 0 < (lasF a).length := List.length_pos_of_mem hjm
  refine ⟨hlen, ?_, fun r hr => ⟨?_, ?_⟩, ?_⟩
  · have h := gi_mem hlen
    have hE := hF ▸ h
    rw [hF] at h
    obtain ⟨k, hk, h2, e2⟩ := selL_mem.1 h
    exact ⟨k, hk, by rw [hF]; exact e2, (hat k hk).1 h2⟩
  · have : TF a (r : Int) ∈ tfL a a.length := by unfold tfL; exact List.mem_map.2 ⟨r, List.mem_range.2 hr, rfl⟩
    exact lst_low this
  · rw [hF, selL_hasn hr]; exact hat r hr
  · rw [hF]; exact selL_asc _ _
end Go.Proofs.Ytidoahicgiaodaa

