/- Texts merged: C99 C9T Math62 Math63 LO1 LO2 C9 E9. -/
import Derived.Test.YtidoahicgiaodaaQ8
import Derived.Deep.AppendSrc
/- Trees that are tried, by the program. -/
namespace Go.Proofs.Ytidoahicgiaodaa
open Go.RowKit

/-- A number behind a row that has no room: a new row. -/
theorem row_snoc (w : World) (x : Int) (R : Option Addr) (m c : Nat) (r : List Int) (hr : Ints w R m c r) (hm : m ≤ 20) (hx : -9223372036854775808 ≤ x ∧ x ≤ 9223372036854775807) :
    ∃ A cc w5 g, (Builtin.append_ #[36, 36] 36 #[.slice R m m, .slice (some ⟨w.heap.size, 0, none⟩) 1 1]).run Try.prog (w.alloc (.cells #[.int .i64 x] 3)) = .ok (.slice A (r ++ [x]).length cc) w5 ∧
      Below w.heap.size w w5 ∧ OwnI w.heap.size w5.heap.size w5 g A (r ++ [x]).length cc (r ++ [x]) := by
  obtain ⟨i0, hi0, hz0, hz1, hz2⟩ := info_parts Try.info_int
  have hb := below_alloc w (.cells #[.int .i64 x] 3)
  have hl := hr.len
  have hk := hr.keep (Keep.below hb)
  have hwf : ∀ y ∈ r ++ [x], -9223372036854775808 ≤ y ∧ y ≤ 9223372036854775807 := by
    intro y hy
    rcases List.mem_append.1 hy with hy | hy
    · exact hr.wf y hy
    · simp at hy; subst hy; exact hx
  have hold1 : ∀ w', (∀ p, w'.cell? p = (w.alloc (.cells #[.int .i64 x] 3)).cell? p) → (Builtin.firstCells 1 m (.slice R m m)).run Try.prog w' = .ok (r.map iv).toArray w' := by
    intro w' hw'
    by_cases h0 : m = 0
    · subst h0
      obtain rfl : r = [] := List.eq_nil_of_length_eq_zero hl
      cases R <;> simp [Builtin.firstCells, loadCells, loadCellsFrom]
    · obtain ⟨b, o, rfl, hc⟩ := hk.at_ (by omega)
      refine run_firstCells_some w' 1 m ⟨b, o, none⟩ m m (r.map iv) (by rw [List.length_map, hl, Nat.mul_one]) (fun j v hv => ?_)
      rw [List.getElem?_map] at hv
      by_cases hj : j < r.length
      · rw [List.getElem?_eq_getElem hj] at hv
        simp at hv
        subst hv
        rw [hw', Addr.add_lit, hc j (by omega), gi_get hj]
        rfl
      · rw [List.getElem?_eq_none (by omega)] at hv; simp at hv
  have hsrc1 : Src Try.prog 1 36 (.slice (some ⟨w.heap.size, 0, none⟩) 1 1) 1 [iv x] (w.alloc (.cells #[.int .i64 x] 3)) :=
    Src.ofSlice _ Try.underlying36 ⟨w.heap.size, 0, none⟩ 1 1 [iv x] rfl (fun j u hu => by
      match j with
      | 0 => simp at hu; subst hu; exact blk_cell (blk_new w 3 #[.int .i64 x]) rfl
      | j + 1 => simp at hu) (by intro u hu; simp at hu; subst hu; rfl)
  have hold : ∀ w', (∀ p, w'.cell? p = (w.alloc (.cells #[.int .i64 x] 3)).cell? p) → (Builtin.firstCells i0.size m (.slice R m m)).run Try.prog w' = .ok (r.map iv).toArray w' := by rw [hz1]; exact hold1
  have hsrc : Src Try.prog i0.size 36 (.slice (some ⟨w.heap.size, 0, none⟩) 1 1) 1 [iv x] (w.alloc (.cells #[.int .i64 x] 3)) := by rw [hz1]; exact hsrc1
  have hm256 : m < 256 := by omega
  have hrun := run_append_grow_src (P := Try.prog) (w.alloc (.cells #[.int .i64 x] 3)) 36 36 36 3 i0 (.int .i64 0) Try.underlying36 hi0 hz0 R m m (r.map iv) (hold _ (fun _ => rfl)) (.slice (some ⟨w.heap.size, 0, none⟩) 1 1) 1 [iv x] hsrc (by omega) (by omega) (by rw [hz2]; simp [Builtin.nextslicecap, hm256]; first | omega | (split <;> omega))
  have hge := grownCap_ge (w.alloc (.cells #[.int .i64 x] 3)) (m + 1) m 3
  have hlr : (r ++ [x]).length = m + 1 := by rw [List.length_append, hl]; rfl
  refine ⟨_, _, _, (w.alloc (.cells #[.int .i64 x] 3)).heap.size, by rw [hlr]; exact hrun, below_up hb ?_, ?_⟩
  · exact ⟨rfl, rfl, rfl, by simp, fun k hk => Below.heap_alloc (w.alloc (.cells #[.int .i64 x] 3)).drew _ k (by simpa using hk)⟩
  · have hbk := blk_new (w.alloc (.cells #[.int .i64 x] 3)).drew 3 ((r.map iv ++ [iv x]).toArray ++ Builtin.zeroCells (Value.int .i64 0).cells (grownCap (w.alloc (.cells #[.int .i64 x] 3)) (m + 1) m 3 - (m + 1)))
    refine ⟨⟨rfl, by rw [hlr]; exact hge, by omega, hwf, fun _ => ⟨_, 0, rfl, fun k hk => ?_⟩⟩, fun _ => ⟨0, rfl, by simp, by simp, fun k _ => by rw [Nat.zero_add]; exact blk_frozen hbk k⟩⟩
    rw [Nat.zero_add]
    refine blk_cell hbk ?_
    rw [hlr] at hk
    rw [Array.getElem?_append_left (by simp; omega)]
    rw [show (r.map iv ++ [iv x]) = (r ++ [x]).map iv by simp]
    rw [List.getElem?_toArray]
    exact getElem_iv (by rw [hlr]; exact hk)

theorem Clip_any (R : Option Addr) (m c : Nat) (w : World) (hc : m ≤ c) : Calls Try.prog 109 #[.slice R m c] w fun e w' => e = .returned (.slice R m m) ∧ w = w' := by
  go_enter Try.func109, Try.ntmps109
  go_wp2
  go_ret
  exact ⟨rfl, rfl⟩

/-- The rows that are made of a row. -/
def selB (k r : Nat) : Nat → Bool := fun x => (x == k) == (k == r)
def extL (k r : Nat) (t : List Int) (m : Nat) : List (List Int) := ((List.range m).filter (selB k r)).map fun (x : Nat) => t ++ [(x : Int)]
theorem beqN (a b : Nat) : ((a : Int) == (b : Int)) = (a == b) := by
  by_cases h : a = b
  · subst h; simp
  · have : (a : Int) ≠ (b : Int) := by omega
    rw [beq_eq_false_iff_ne.2 this, beq_eq_false_iff_ne.2 h]
theorem selB_int (k r m : Nat) : (((m : Int) == (k : Int)) == ((k : Int) == (r : Int))) = selB k r m := by rw [beqN, beqN]; rfl
theorem extL_yes {k r : Nat} {t : List Int} {m : Nat} (h : selB k r m = true) : extL k r t (m + 1) = extL k r t m ++ [t ++ [(m : Int)]] := by simp [extL, List.range_succ, List.filter_append, h]
theorem extL_no {k r : Nat} {t : List Int} {m : Nat} (h : selB k r m = false) : extL k r t (m + 1) = extL k r t m := by simp [extL, List.range_succ, List.filter_append, h]
theorem extL_len (k r : Nat) (t : List Int) (m : Nat) : (extL k r t m).length ≤ m := by
  rw [extL, List.length_map]
  have := List.length_filter_le (selB k r) (List.range m)
  rw [List.length_range] at this; exact this
theorem preI_succ (n r k : Nat) : preI n r (k + 1) = (preI n r k).flatMap fun t => extL k r t n := rfl
theorem flat_take {l : List (List Int)} {f : List Int → List (List Int)} {i : Nat} (h : i < l.length) : (l.take (i + 1)).flatMap f = (l.take i).flatMap f ++ f (gr l i) := by
  rw [List.take_add_one, List.flatMap_append, List.getElem?_eq_getElem h, gr_get h]; simp
theorem flat_len {f : List Int → List (List Int)} (h : ∀ t, (f t).length ≤ 4) : ∀ l : List (List Int), (l.flatMap f).length ≤ 4 * l.length
  | [] => by simp
  | t :: l => by rw [List.flatMap_cons, List.length_append, List.length_cons]; have := flat_len h l; have := h t; omega
theorem preI_in {n r : Nat} (hn : n ≤ 4) : ∀ {k : Nat}, ∀ t ∈ preI n r k, t.length = k ∧ ∀ y ∈ t, 0 ≤ y ∧ y < n
  | 0, t, h => by simp [preI] at h; subst h; exact ⟨rfl, fun y hy => by simp at hy⟩
  | k + 1, t, h => by
    rw [preI_succ, List.mem_flatMap] at h
    obtain ⟨s, hs, h⟩ := h
    obtain ⟨h1, h2⟩ := preI_in hn s hs
    rw [extL, List.mem_map] at h
    obtain ⟨x, hx, rfl⟩ := h
    have hxn := List.mem_range.1 (List.mem_filter.1 hx).1
    refine ⟨by rw [List.length_append, h1]; rfl, fun y hy => ?_⟩
    rcases List.mem_append.1 hy with hy | hy
    · exact h2 y hy
    · rw [List.mem_singleton] at hy; omega
/-- Rows under way, and a list that is read beside them. -/
structure QI (w : World) (lo hi : Nat) (v : Value) (vs : List Value) (acc : List (List Int)) (gg : Nat) (A : Option Addr) (n c : Nat) (list : List (List Int)) (wr : World) : Prop where
  tm : TM w v vs acc wr
  li : OwnR lo hi wr gg A n c list
  hi_ : hi ≤ wr.heap.size
  far : ∀ k, v.ownBlock = some k → k < lo ∨ hi ≤ k
theorem QI.blocks {w wr w5 w6 : World} {lo hi : Nat} {v : Value} {vs : List Value} {acc list : List (List Int)} {gg n c : Nat} {A : Option Addr} {o : Obj} (h : QI w lo hi v vs acc gg A n c list wr)
    (hk : Below wr.heap.size wr w5) (hgrow : (w5.alloc o).grownBy w6 v.ownBlock) : ∀ g, lo ≤ g → g < hi → w6.heap[g]? = wr.heap[g]? := fun g h4 h5 => by
  have h1 := h.hi_
  have h2 := hk.size
  refine (hgrow.block g (by simp; omega) (fun e => ?_)).trans ((Below.heap_alloc _ _ _ (by omega)).trans (hk.block g (by omega)))
  have := h.far g e.symm
  omega
theorem QI.push {w wr w5 w6 : World} {lo hi : Nat} {v v' : Value} {vs : List Value} {acc list : List (List Int)} {gg n c cr g : Nat} {A Ar : Option Addr} {r : List Int} (h : QI w lo hi v vs acc gg A n c list wr)
    (hk : Below wr.heap.size wr w5) (hr : OwnI wr.heap.size w5.heap.size w5 g Ar r.length cr r)
    (hown : w6.ownsRow w.heap.size 36 1 v' (acc.length + 1) (vs ++ [.slice Ar r.length cr])) (hgrow : (w5.alloc (.cells #[.slice Ar r.length cr] 36)).grownBy w6 v.ownBlock)
    (hat : v'.ownBlock = v.ownBlock ∨ v'.ownBlock = some (w5.heap.size + 1)) : QI w lo hi v' (vs ++ [.slice Ar r.length cr]) (acc ++ [r]) gg A n c list w6 := by
  have h1 := h.hi_
  have h2 := hk.size
  have h3 := hgrow.size
  simp only [World.size_alloc] at h3
  refine ⟨h.tm.push hk hr hown hgrow hat, h.li.of_blocks fun g h4 h5 h6 => ?_, by omega, fun k hk => ?_⟩
  · refine (hgrow.block g (by simp; omega) (fun e => ?_)).trans ((Below.heap_alloc _ _ _ (by omega)).trans (hk.block g h6))
    have := h.far g e.symm
    omega
  · rcases hat with hat | hat
    · exact h.far k (by rw [← hat]; exact hk)
    · rw [hat] at hk; injection hk with hk; omega
/-- The list's start: one empty row. -/
theorem TM.empty1 {wb w : World} (hb : Below wb.heap.size wb w) : TM wb (.slice (some ⟨w.heap.size, 0, none⟩) 1 1) [.slice none 0 0] [[]] (w.alloc (.cells #[.slice none 0 0] 36)) :=
  ⟨⟨World.ownsRow_lit w #[.slice none 0 0] 1 hb.size (by unfold maxLen; omega) rfl, fun k hk => by simp [Value.ownBlock] at hk; simp; omega, fun _ => w.heap.size, fun _ => none, fun _ => 0, fun k hk => by
      obtain rfl : k = 0 := by simpa using hk
      exact ⟨rfl, ⟨⟨rfl, Nat.le_refl _, by show (0 : Nat) ≤ _; omega, fun x hx => by simp [gr] at hx, fun h => by simp [gr] at h⟩, fun h => by simp [gr] at h⟩, fun h => by simp [gr] at h⟩, fun j k hjk hk => by simp at hk; omega⟩, below_up hb (below_alloc _ _)⟩
theorem TM.dfd {wb W : World} {A : Option Addr} {N c n r px : Nat} {vs : List Value} {xss : List (List Int)} (h : TM wb (.slice A N c) vs xss W) (hN : xss.length = N) (h0 : 0 < N) (h64 : N ≤ 64) (hn1 : 0 < n) (h4 : n ≤ 4)
    (hok : ∀ t ∈ xss, t.length = n ∧ gi t r = r ∧ InB t) (hbox : W.cell? ⟨px, 0, none⟩ = some (.int .i64 r)) (hpx : px < wb.heap.size) (f : Nat → Bool) :
    ∃ b, A = some ⟨b, 0, none⟩ ∧ N ≤ c ∧ DFd wb b N r px n (fun k => vs.getD k (.bool false)) xss f 0 W := by
  obtain ⟨hown, hhi, G, R, C, hrow, _⟩ := h.bo
  rcases hown.2 with ⟨e, h0'⟩ | ⟨g, cap, cur, e, hbg, hg, hnc, hcm, hcs, htake⟩
  · omega
  · injection e with e1 e2 e3
    subst e1
    subst e3
    have hvl : vs.length = N := by have := hown.1; omega
    rw [Nat.mul_one] at htake hcs
    refine ⟨g, rfl, by omega, ⟨⟨hN, h64, h4, fun k hk => ?_, fun k hk => ?_, hbox, by omega⟩, h.up, hbg, fun k hk => ?_, fun k hk => ?_⟩⟩
    · obtain ⟨a1, a2, a3⟩ := hrow k (by omega)
      have hl := (hok _ (gr_mem (show k < xss.length by omega))).1
      rw [hl] at a1 a2 a3
      refine ⟨R k, C k, by rw [List.getD_eq_getElem?_getD, a1]; rfl, ⟨a2.ints, fun p e hp => ?_⟩⟩
      obtain ⟨o, e2, _⟩ := a2.own hn1
      rw [e] at e2
      injection e2 with e2
      subst e2
      intro e3
      exact a3 hn1 (by simp [Value.ownBlock]; exact e3.symm)
    · obtain ⟨b1, b2, b3⟩ := hok _ (gr_mem (show k < xss.length by omega))
      exact ⟨b3, by unfold nx; simpa using b2⟩
    · rw [curD_at (Nat.zero_le _)]
      simp only [World.cell?, hg]
      have : vs[k]? = cur[k]? := by
        rw [← htake, List.getElem?_take_of_lt (by omega)]; simp
      rw [← this, List.getD_eq_getElem?_getD, List.getElem?_eq_getElem (by omega)]; rfl
    · simp [World.frozen?, hg]

set_option maxRecDepth 100000 in
set_option maxHeartbeats 6400000 in
theorem treesTo_any (r n : Nat) (w : World) (h4 : n ≤ 4) (hr : r < n) :
    Calls Try.prog 75 #[.int .i64 r, .int .i64 n] w (KeptR w (treeI n r)) := by
  have hb0 := below_alloc w (.cells #[.int .i64 r] 3)
  have HB0 := Lib.hid hb0
  have HBX := Lib.hid (blk_new w 3 #[.int .i64 (r : Int)])
  have HPX : Hid (w.heap.size < (w.alloc (.cells #[.int .i64 r] 3)).heap.size) := Lib.hid (by simp)
  have HT0 := Lib.hid (TM.empty1 (Below.refl (w.alloc (.cells #[.int .i64 r] 3)).heap.size (w.alloc (.cells #[.int .i64 r] 3))))
  clear hb0
  go_enter Try.func75, Try.ntmps75
  go_wp2
  have hwz : (w.alloc (.cells #[.int .i64 r] 3)).heap.size = w.heap.size + 1 := by simp
  rw [hwz] at HT0
  simp only [World.size_alloc] at HPX
  obtain ⟨w1, hw1⟩ : ∃ w1, w1 = w.alloc (.cells #[.int .i64 r] 3) := ⟨_, rfl⟩
  rw [← hw1] at HB0 HBX HT0 hwz ⊢
  have HWZ := Lib.hid hwz
  clear hw1 hwz
  go_loopw [5, 13] (fun v s wr => ∃ (k : Nat) (vs : List Value), k ≤ n ∧ s = .int .i64 k ∧ Hid (TM w1 v vs (preI n r k) wr)) (fun _ s _ => n - (intOf s).toNat)
  case atStart => exact ⟨0, _, Nat.zero_le _, rfl, HT0⟩
  case round =>
    clear HT0
    obtain ⟨k, vs0, hk, rfl, HT⟩ := hrel
    obtain ⟨Av, cv, hform⟩ := HT.out.bo.form
    have HLN := Lib.hid (preI_len (k := k) h4 hr hk)
    have hl64 := HLN.out
    by_cases hkn : k < n
    · obtain ⟨A', n', c', gg, e1, e2, ho⟩ := HT.out.bo.owns (by omega)
      rw [hform] at e1 ⊢
      injection e1 with e1 e3 e4
      subst e1
      subst e3
      subst e4
      obtain ⟨wA, hwA⟩ : ∃ wA, wA = wr := ⟨_, rfl⟩
      subst hwA
      have HQ := Lib.hid (QI.mk (w := w1) (v := .slice none 0 0) (vs := []) (acc := []) ⟨Bld.nil _ _ _, HT.out.up⟩ ho (Nat.le_refl _) (fun k h => by simp [Value.ownBlock] at h))
      have HIN := Lib.hid (preI_in (r := r) h4 (k := k))
      have HPS : Hid ((preI n r k).flatMap (fun t => extL k r t n) = preI n r (k + 1)) := Lib.hid (preI_succ n r k).symm
      clear HT ho hform e2
      generalize hlist : preI n r k = list at *
      clear hlist
      go_wp2
      generalize hhi : wA.heap.size = hi at *
      clear hhi
      go_loopw [7, 18] (fun v s wr => ∃ (i : Nat) (vs : List Value), i ≤ list.length ∧ s = .int .i64 i ∧ Hid (QI w1 w1.heap.size hi v vs ((list.take i).flatMap fun t => extL k r t n) gg Av list.length cv list wr)) (fun _ s _ => list.length - (intOf s).toNat)
      case atStart => exact ⟨0, [], Nat.zero_le _, rfl, Lib.hid (by simpa using HQ.out)⟩
      case round =>
        clear HQ
        obtain ⟨i, vs1, hi1, rfl, HQ⟩ := hrel
        obtain ⟨Au, cu, hform⟩ := HQ.out.tm.bo.form
        by_cases hil : i < list.length
        · obtain ⟨ol, G, RR, CC, hAv, _, _, hcell, _⟩ := HQ.out.li.at_ (by omega)
          obtain ⟨_, c1, hri, _⟩ := hcell i hil
          obtain ⟨hlr, hbr⟩ := HIN.out _ (gr_mem hil)
          rw [hlr] at c1 hri
          have HF := Lib.hid (flat_take (f := fun t => extL k r t n) hil)
          have HFL := Lib.hid (flat_len (f := fun t => extL k r t n) (fun t => by have := extL_len k r t n; omega) (list.take i))
          have HTL : Hid ((list.take i).length ≤ 64) := Lib.hid (by rw [List.length_take]; omega)
          have HLR := Lib.hid hlr
          have HBR := Lib.hid hbr
          rw [hform]
          subst hAv
          have HRI := Lib.hid hri
          clear hcell hri hlr hbr
          generalize ((list.take i).flatMap fun t => extL k r t n) = acc at *
          generalize hrow : gr list i = row at *
          have HROW := Lib.hid hrow
          clear hrow
          go_wp2
          clear c1
          obtain ⟨wB, hwB⟩ : ∃ wB, wB = wr := ⟨_, rfl⟩
          subst hwB
          go_loopw [7, 23] (fun v s wr => ∃ (m : Nat) (vs : List Value), m ≤ n ∧ s = .int .i64 m ∧ Hid (QI w1 w1.heap.size hi v vs (acc ++ extL k r row m) gg (some ⟨gg, ol, none⟩) list.length cv list wr ∧ OwnI w1.heap.size hi wr (G i) (RR i) k (CC i) row)) (fun _ s _ => n - (intOf s).toNat)
          case atStart => exact ⟨0, vs1, Nat.zero_le _, rfl, Lib.hid ⟨by rw [← hform]; simpa [extL] using HQ.out, HRI.out⟩⟩
          case round =>
            clear HQ hform vs1
            obtain ⟨m, vs, hm, rfl, HQ⟩ := hrel
            obtain ⟨Aw, cw, rfl⟩ := HQ.out.1.tm.bo.form
            by_cases hmn : m < n
            · have HLA := Lib.hid (show (acc ++ extL k r row m).length ≤ 300 by rw [List.length_append]; have := extL_len k r row m; have := HFL.out; have := HTL.out; omega)
              have cpx := HQ.out.1.tm.up.cell (p := ⟨w.heap.size, 0, none⟩) (by show w.heap.size < w1.heap.size; have := HWZ.out; omega)
              rw [blk_cell HBX.out (i := 0) rfl] at cpx
              cases hsel : selB k r m
              · have HS := Lib.hid (extL_no (t := row) hsel)
                have hs2 : (((m : Int) == (k : Int)) == ((k : Int) == (r : Int))) = false := by rw [selB_int]; exact hsel
                clear hsel
                obtain ⟨b1, hb1⟩ : ∃ b1, ((m : Int) == (k : Int)) = b1 := ⟨_, rfl⟩
                obtain ⟨b2, hb2⟩ : ∃ b2, ((k : Int) == (r : Int)) = b2 := ⟨_, rfl⟩
                rw [hb1, hb2] at hs2
                go_wp2
                go_roundw
                case rel => exact ⟨m + 1, vs, by omega, by go_num, Lib.hid (by rw [HS.out]; exact HQ.out)⟩
                case measure => simp [intOf]; omega
              · have HS := Lib.hid (extL_yes (t := row) hsel)
                have hs2 : (((m : Int) == (k : Int)) == ((k : Int) == (r : Int))) = true := by rw [selB_int]; exact hsel
                clear hsel
                obtain ⟨b1, hb1⟩ : ∃ b1, ((m : Int) == (k : Int)) = b1 := ⟨_, rfl⟩
                obtain ⟨b2, hb2⟩ : ∃ b2, ((k : Int) == (r : Int)) = b2 := ⟨_, rfl⟩
                rw [hb1, hb2] at hs2
                have HC := Lib.hid (Clip_any (RR i) k (CC i) wr HQ.out.2.ints.cap)
                obtain ⟨Ar, cr, w5, gr5, hrun, hb5, hI5⟩ := row_snoc wr (m : Int) (RR i) _ (CC i) row HQ.out.2.ints (by omega) (by omega)
                have HRUN := Lib.hid hrun
                have HB5 := Lib.hid hb5
                have HI5 := Lib.hid hI5
                clear hrun hb5 hI5
                generalize row ++ [(m : Int)] = row2 at *
                generalize hpart : extL k r row m = part at *
                have HPART := Lib.hid hpart
                clear hpart
                generalize hac2 : acc ++ part = ac2 at *
                have HAC := Lib.hid hac2
                clear hac2
                have HPN := Lib.hid ((HQ.out.1.tm.next HB5.out).bo.below (below_alloc w5 (.cells #[.slice Ar row2.length cr] 36))).own
                have HN := Lib.hid (cell_one_new w5 (.slice Ar row2.length cr) 36)
                have hlh : w1.heap.size ≤ w5.heap.size := Nat.le_trans HQ.out.1.tm.up.size HB5.out.size
                obtain ⟨i1, hi1', hy0, hy1, hy2⟩ := info_parts Try.info_row
                go_wp2_with fail
                refine HC.out.mono ?_
                rintro e w3 ⟨rfl, rfl⟩
                go_wp2_with (first
                  | (at_builtin; refine Lib.wpList_append_run _ rfl _ _ _ _ rfl _ _ rfl rfl _ _ HRUN.out ?_)
                  | (at_builtin; refine wpList_append_own_at _ rfl _ _ 22 rfl w1.heap.size 36 i1 (.slice none 0 0) 1 24 Try.underlying22 hi1' hy0 hy1 hy2 rfl (by decide) _ ac2.length vs rfl HPN.out ⟨w5.heap.size, 0, none⟩ 1 1 [.slice Ar row2.length cr] rfl rfl (by exact HN.out) ?d2 ?d3 ?d4 ?d5 ?_))
                case d2 => first | (intro u hu; simp at hu; subst hu; rfl) | rfl | simp [Value.oneCell']
                case d3 => have := HLA.out; unfold maxLen; omega
                case d4 => have := HLA.out; omega
                case d5 => first | omega | (simp; omega)
                intro v' w6 hown' hgrow _ hat
                have HQ6 := Lib.hid (show QI _ _ _ _ _ _ _ _ _ _ _ w6 ∧ OwnI w1.heap.size hi w6 (G i) (RR i) k (CC i) row from ⟨HQ.out.1.push HB5.out HI5.out hown' hgrow (by simpa using hat), HQ.out.2.of_block fun hn => HQ.out.1.blocks HB5.out hgrow _ (by obtain ⟨_, _, a, _, _⟩ := HQ.out.2.own hn; exact a) (by obtain ⟨_, _, _, a, _⟩ := HQ.out.2.own hn; exact a)⟩)
                clear HPN HN hown' hgrow hat HQ HRUN HB5 HI5 cpx hb1 hb2 hs2
                go_wp2
                go_roundw
                case rel => exact ⟨m + 1, _, by omega, by go_num, Lib.hid (by rw [HS.out, ← List.append_assoc, HAC.out]; exact HQ6.out)⟩
                case measure => simp [intOf]; omega
            · obtain rfl : m = n := by omega
              have HE := Lib.hid HF.out
              have HQ2 := Lib.hid HQ.out.1
              rw [← HE.out] at HQ2
              have HLE := Lib.hid (congrArg List.length HE.out)
              rw [← HLE.out]
              clear HQ HE HLE HF
              go_wp2
              go_roundw
              case rel => exact ⟨i + 1, vs, by omega, by go_num, HQ2⟩
              case measure => simp [intOf]; omega
        · obtain rfl : i = list.length := by omega
          have HTM := Lib.hid HQ.out.tm
          rw [List.take_length, HPS.out] at HTM
          clear HQ
          go_wp2
          go_roundw
          case rel => exact ⟨k + 1, vs1, by omega, by go_num, HTM⟩
          case measure => simp [intOf]; omega
    · obtain rfl : k = n := by omega
      rw [hform] at HT
      have cpx := HT.out.up.cell (p := ⟨w.heap.size, 0, none⟩) (by show w.heap.size < w1.heap.size; have := HWZ.out; omega)
      rw [blk_cell HBX.out (i := 0) rfl] at cpx
      have hpos : 0 < (preI k r k).length := Nat.pos_of_ne_zero fun e => by
        have h1 := (treeI_mem h4 hr).2 (star_tree k r hr)
        rw [treeI, List.mem_filter, List.eq_nil_of_length_eq_zero e] at h1
        exact absurd h1.1 (by simp)
      obtain ⟨b, hAb, hcap, hD⟩ := HT.out.dfd (f := fun j => ldB (gr (preI k r k) j) r) (n := k) rfl hpos hl64 (by omega) h4 (fun t ht => preI_ok h4 hr ht) cpx (by have := HWZ.out; omega)
      have HDC := Lib.hid (DeleteFunc_any w1 b _ r w.heap.size k cv _ (preI k r k) _ wr hD (fun _ _ => rfl) hcap hpos)
      have HTI : Hid ((preI k r k).filter (fun t => ldB t r) = treeI k r) := Lib.hid rfl
      rw [HTI.out] at HDC
      subst hAb
      rw [hform]
      clear hD cpx HT hform
      go_wp2_with fail
      refine HDC.out.mono ?_
      rintro e w6 ⟨A6, c6, rfl, hrows, hb6⟩
      have HR6 := Lib.hid hrows
      have HB6 := Lib.hid (below_up HB0.out hb6)
      clear HDC hrows hb6
      go_wp2
      go_ret
      exact ⟨A6, c6, rfl, HR6.out, HB6.out⟩
end Go.Proofs.Ytidoahicgiaodaa

/- Trees that are tried, by the program: the least sum. -/
namespace Go.Proofs.Ytidoahicgiaodaa
open Go.RowKit

/-- What all trees cost. -/
def sumL (a : List (List Int)) (l : List (List Int)) (n : Nat) : List Int := l.map fun t => tot (csL a t n)
theorem sumL_len (a : List (List Int)) (l : List (List Int)) (n : Nat) : (sumL a l n).length = l.length := by simp [sumL]
theorem sumL_snoc {a : List (List Int)} {l : List (List Int)} {n k : Nat} (h : k < l.length) : sumL a (l.take (k + 1)) n = sumL a (l.take k) n ++ [tot (csL a (gr l k) n)] := by
  rw [sumL, sumL, List.take_add_one, List.map_append, List.getElem?_eq_getElem h, gr_get h]; rfl
theorem sm_cs {a : List (List Int)} {n r : Nat} {t : List Int} (ht : Tr n r t) : ∀ k, k ≤ n → sm (csL a t n) k = cs a r t k
  | 0, _ => rfl
  | k + 1, hk => by
    rw [sm, cs, sm_cs ht k (by omega), gi_csL (by omega)]
    by_cases e : k = r
    · subst e; rw [if_pos ht.2.2.1, if_pos rfl]; omega
    · rw [if_neg e, if_neg]
      intro e2
      have h1 := ht.2.2.2 k (by rw [ht.1]; omega)
      have h2 : ∀ d, orS t r k d = (k : Int) := by
        intro d
        induction d with
        | zero => rfl
        | succ d ih =>
          rw [orS, if_neg (by rw [ih]; omega), ih]
          unfold nx; simpa using e2
      rw [h2] at h1; omega
theorem tot_cs {a : List (List Int)} {n r : Nat} {t : List Int} (ht : Tr n r t) : tot (csL a t n) = cs a r t n := by rw [tot, csL_len]; exact sm_cs ht n (Nat.le_refl _)
theorem mn_le' (xs : List Int) : ∀ {k j : Nat}, j ≤ k → mn xs k ≤ gi xs j
  | 0, j, h => by obtain rfl : j = 0 := by omega
                  exact Int.le_refl _
  | k + 1, j, h => by
    simp only [mn]
    by_cases e : j = k + 1
    · subst e; omega
    · have := mn_le' xs (k := k) (j := j) (by omega); omega
theorem mn_at' (xs : List Int) : ∀ k, ∃ j, j ≤ k ∧ gi xs j = mn xs k
  | 0 => ⟨0, Nat.le_refl _, rfl⟩
  | k + 1 => by
    obtain ⟨j, hj, e⟩ := mn_at' xs k
    simp only [mn]
    by_cases h : mn xs k ≤ gi xs (k + 1)
    · exact ⟨j, by omega, by omega⟩
    · exact ⟨k + 1, Nat.le_refl _, by omega⟩
theorem gi_sumL {a : List (List Int)} {l : List (List Int)} {n k : Nat} (h : k < l.length) : gi (sumL a l n) k = tot (csL a (gr l k) n) := by
  rw [gi_get (by rw [sumL_len]; exact h), gr_get h]; simp [sumL]
/-- The least of the sums is the least tree. -/
theorem sumL_least {a : List (List Int)} {n r : Nat} (h4 : n ≤ 4) (hr : r < n) : LeastT a n r (lst (sumL a (treeI n r) n)) := by
  have hne : 0 < (treeI n r).length := List.length_pos_of_mem ((treeI_mem h4 hr).2 (star_tree n r hr))
  refine ⟨fun t ht => ?_, ?_⟩
  · obtain ⟨k, hk, e⟩ := List.mem_iff_getElem.1 ((treeI_mem h4 hr).2 ht)
    rw [← gr_get hk] at e
    have h1 := mn_le' (sumL a (treeI n r) n) (k := (sumL a (treeI n r) n).length - 1) (j := k) (by rw [sumL_len]; omega)
    rw [gi_sumL hk, e, tot_cs ht] at h1
    exact h1
  · obtain ⟨j, hj, e⟩ := mn_at' (sumL a (treeI n r) n) ((sumL a (treeI n r) n).length - 1)
    rw [sumL_len] at hj
    have hjl : j < (treeI n r).length := by omega
    have ht := (treeI_mem h4 hr).1 (gr_mem hjl)
    refine ⟨_, ht, ?_⟩
    rw [gi_sumL hjl, tot_cs ht] at e
    exact e.symm
theorem treeI_len {n r : Nat} (h4 : n ≤ 4) (hr : r < n) : (treeI n r).length ≤ 64 ∧ 0 < (treeI n r).length :=
  ⟨Nat.le_trans (List.length_filter_le _ _) (preI_len h4 hr (Nat.le_refl _)), List.length_pos_of_mem ((treeI_mem h4 hr).2 (star_tree n r hr))⟩

set_option maxRecDepth 100000 in
set_option maxHeartbeats 3200000 in
theorem TreeTried_impl (A : Option Addr) (n c : Nat) (a : List (List Int)) (root : Int) (w : World) (hx : IntRows w A n c a) (hf : Fit root) :
    Calls Try.prog 28 #[.slice A n c, .int .i64 root] w (Ret (.int .i64 (TF a root)) w) := by
  have HX := Lib.hid hx
  have HL := Lib.hid hx.len
  have HC := Lib.hid (isRooted_any A n c a root w hx)
  have hmx := hx.max
  clear hx
  by_cases hv : VC a ∧ Blw a.length root
  · have h1 := hv.1.n1
    have h4 := hv.1.n4
    rw [HL.out] at h1 h4
    have HV := Lib.hid hv.1
    have HC2 := Lib.hid HC.out
    rw [pb_true hv.1, pb_true hv.2] at HC2
    have hr := hv.2
    unfold Blw at hr
    rw [HL.out] at hr
    have HP := Lib.hid (show TF a root = bw a n root.toNat (n ^ n) by rw [TF, pb_true hv.1, pb_true hv.2, HL.out]; rfl)
    obtain ⟨r, rfl⟩ : ∃ r : Nat, root = r := ⟨root.toNat, by omega⟩
    have hrn : r < n := by omega
    simp only [Int.toNat_natCast] at HP
    have HE := Lib.hid (show lst (sumL a (treeI n r) n) = TF a (r : Int) by rw [HP.out]; exact (sumL_least h4 hrn).one (bw_least HV.out HL.out hrn))
    have HSQ := Lib.hid ((HV.out.sq).mono (show (20 : Int) ≤ 100000 by omega))
    have HSQ2 := Lib.hid HV.out.sq
    rw [HL.out] at HSQ HSQ2
    have HTC := Lib.hid (fun W => treesTo_any r n W h4 hrn)
    obtain ⟨hlt64, hlt0⟩ := treeI_len h4 hrn
    have HTM : Hid (∀ t ∈ treeI n r, t.length = n ∧ InB t) := Lib.hid (fun t ht => ⟨((treeI_mem h4 hrn).1 ht).1, ((treeI_mem h4 hrn).1 ht).2.1⟩)
    clear hv hr HC HP hf
    go_enter Try.func28, Try.ntmps28
    go_wp2_with fail
    refine HC2.out.mono ?_
    rintro e w1 ⟨rfl, hq⟩
    have HB := Lib.hid (Quiet.below (B := w.heap.size) hq)
    clear HC2 hq
    go_wp2_with fail
    refine (HTC.out _).mono ?_
    rintro e w2 ⟨A2, c2, rfl, hrows, hb⟩
    have HR := Lib.hid hrows
    have HB2 := Lib.hid (below_up HB.out hb)
    have HX2 := Lib.hid (HX.out.keep (Keep.below HB2.out))
    clear hrows hb HB HTC HX
    generalize treeI n r = list at *
    have HU0 := Lib.hid (IU.nil w2)
    go_wp2
    go_loopw [5, 17] (fun v s wr => ∃ k : Nat, k ≤ list.length ∧ s = .int .i64 k ∧ Hid (IU w2 v (sumL a (list.take k) n) wr)) (fun _ s _ => list.length - (intOf s).toNat)
    case atStart => exact ⟨0, Nat.zero_le _, rfl, HU0⟩
    case round =>
      clear HU0
      obtain ⟨k, hk, rfl, HU⟩ := hrel
      obtain ⟨Av, cv, rfl⟩ := HU.out.bi.form
      by_cases hkl : k < list.length
      · obtain ⟨b, o, rfl, hcell⟩ := (HR.out.keep (Keep.below HU.out.up)).at_ (by omega)
        obtain ⟨R, cc, c1, hI⟩ := hcell k hkl
        obtain ⟨hlk, hbk⟩ := HTM.out _ (gr_mem hkl)
        rw [hlk] at c1 hI
        have HCO := Lib.hid (costsOf_any A R n c cc a (gr list k) wr (HX2.out.keep (Keep.below HU.out.up)) hI HSQ.out hbk h4)
        have HSS := Lib.hid (sumL_snoc (a := a) (n := n) hkl)
        have HBD := Lib.hid (csL_bd HSQ2.out (by omega) hlk hbk)
        have HCL := Lib.hid (csL_len a (gr list k) n)
        have HLA := Lib.hid (show (sumL a (list.take k) n).length ≤ 64 by rw [sumL_len, List.length_take]; omega)
        clear hcell hI hlk hbk
        generalize csL a (gr list k) n = ys at *
        generalize sumL a (list.take k) n = acc at *
        have hty : -(80 : Int) ≤ tot ys ∧ tot ys ≤ 80 := by
          have h := sm_bd (xs := ys) (lo := -20) (hi := 20) (k := ys.length) (fun j hj => HBD.out j (by rw [HCL.out] at hj; exact hj))
          rw [HCL.out] at h
          rw [tot, HCL.out]
          omega
        have HSO := Lib.hid (show SumOk ys from ⟨by rw [HCL.out]; omega, fun j hj => by have := HBD.out j (by rw [HCL.out] at hj; exact hj); omega⟩)
        go_wp2_with fail
        refine HCO.out.mono ?_
        rintro e w3 ⟨rfl, ho, hb, -⟩
        have HU3 := Lib.hid (HU.out.next hb)
        have HY := Lib.hid ho.ints
        clear HCO ho hb HU c1
        generalize hgz : wr.heap.size = gz at *
        clear hgz
        have HSC := Lib.hid (sumOf_any _ _ _ ys _ HY.out HSO.out)
        go_wp2_with fail
        refine HSC.out.mono ?_
        rintro e w4 ⟨rfl, hq⟩
        have HU4 := Lib.hid (HU3.out.next (Quiet.below hq))
        clear HSC HU3 HY hq HSO HBD
        generalize tot ys = T at *
        have hb := below_alloc w4 (.cells #[iv T] 3)
        have HB4 := Lib.hid (HU4.out.bi.below hb).own
        have HN := Lib.hid (cell_one_new w4 (iv T) 3)
        have hwz := HU4.out.up.size
        clear hb
        obtain ⟨i0, hi0, hz0, hz1, hz2⟩ := info_parts Try.info_int
        go_wp2_with (at_builtin; refine wpList_append_own_at _ rfl _ _ 36 rfl w2.heap.size 3 i0 (.int .i64 0) 1 8 Try.underlying36 hi0 hz0 hz1 hz2 rfl (by decide) _ (acc).length ((acc).map iv) rfl HB4.out ⟨w4.heap.size, 0, none⟩ 1 1 [iv T] rfl rfl ?c1 ?c2 ?c3 ?c4 ?c5 ?_)
        case c1 => exact HN.out
        case c2 => intro u hu; simp at hu; subst hu; rfl
        case c3 => have := HLA.out; unfold maxLen; omega
        case c4 => have := HLA.out; omega
        case c5 => simp; omega
        intro v' w5 hown' hgrow _ hat
        have HU5 := Lib.hid (HU4.out.push hown' hgrow (by simpa using hat))
        clear HB4 HN hown' hgrow hat
        clear HU4
        go_wp2
        go_roundw
        case rel => exact ⟨k + 1, by omega, by go_num, Lib.hid (by rw [HSS.out]; exact HU5.out)⟩
        case measure => simp [intOf]; omega
      · obtain rfl : k = list.length := by omega
        have HIN := Lib.hid (show Ints wr Av (sumL a (list.take list.length) n).length cv (sumL a (list.take list.length) n) from HU.out.ints (by rw [sumL_len, List.length_take]; omega) (fun y hy => by
          obtain ⟨t, ht, rfl⟩ := List.mem_map.1 hy
          rw [List.take_length] at ht
          obtain ⟨h1, h2⟩ := HTM.out t ht
          have hbd := csL_bd HSQ2.out (by omega) h1 h2
          have h := sm_bd (xs := csL a t n) (lo := -20) (hi := 20) (k := n) hbd
          rw [tot, csL_len]
          omega))
        have HMC := Lib.hid (Min_any _ _ _ _ _ HIN.out (by rw [sumL_len, List.length_take]; omega))
        rw [List.take_length, HE.out] at HMC
        have HB3 := Lib.hid (below_up HB2.out HU.out.up)
        rw [List.take_length]
        clear HU HIN
        go_wp2_with fail
        refine HMC.out.mono ?_
        rintro e w3 ⟨rfl, hq⟩
        have HB4 := Lib.hid (below_quiet HB3.out hq)
        clear HMC hq HB3
        go_wp2
        go_ret
        exact ⟨rfl, HB4.out⟩
  · have HP := Lib.hid (show TF a root = -1 by
      rw [TF]
      by_cases h : VC a
      · rw [pb_true h, pb_false (fun h2 => hv ⟨h, h2⟩)]; rfl
      · rw [pb_false h]; rfl)
    have HC2 := Lib.hid HC.out
    rw [show (pb (VC a) && pb (Blw a.length root)) = false by
      by_cases h : VC a
      · rw [pb_true h, pb_false (fun h2 => hv ⟨h, h2⟩)]; rfl
      · rw [pb_false h]; rfl] at HC2
    clear hv HC hf
    go_enter Try.func28, Try.ntmps28
    go_wp2_with fail
    refine HC2.out.mono ?_
    rintro e w1 ⟨rfl, hq⟩
    have HB := Lib.hid (Quiet.below (B := w.heap.size) hq)
    clear HC2 hq
    go_wp2
    go_ret
    exact ⟨ret_int HP.out.symm, HB.out⟩
end Go.Proofs.Ytidoahicgiaodaa

/- Least trees: costs as functions; a round of ways that cost nothing is one state. -/
namespace Go.Proofs.Ytidoahicgiaodaa
open Go.RowKit

def csF (f : Nat → Nat → Int) (r : Nat) (t : List Int) : Nat → Int
  | 0 => 0
  | k + 1 => if k = r then csF f r t k else csF f r t k + f k (gi t k).toNat
theorem cs_csF (c : List (List Int)) (r : Nat) (t : List Int) : ∀ k, cs c r t k = csF (g2 c) r t k
  | 0 => rfl
  | k + 1 => by rw [cs, csF, cs_csF c r t k]
structure LF (f : Nat → Nat → Int) (n r : Nat) (v : Int) : Prop where
  low : ∀ t, Tr n r t → v ≤ csF f r t n
  at_ : ∃ t, Tr n r t ∧ v = csF f r t n
theorem LeastT.f {c : List (List Int)} {n r : Nat} {v : Int} : LeastT c n r v ↔ LF (g2 c) n r v :=
  ⟨fun h => ⟨fun t ht => by rw [← cs_csF]; exact h.low t ht, let ⟨t, ht, e⟩ := h.at_; ⟨t, ht, by rw [← cs_csF]; exact e⟩⟩,
   fun h => ⟨fun t ht => by rw [cs_csF]; exact h.low t ht, let ⟨t, ht, e⟩ := h.at_; ⟨t, ht, by rw [cs_csF]; exact e⟩⟩⟩
theorem LF.one {f : Nat → Nat → Int} {n r : Nat} {v u : Int} (h : LF f n r v) (k : LF f n r u) : v = u := by
  obtain ⟨t, ht, e⟩ := h.at_
  obtain ⟨s, hs, e2⟩ := k.at_
  have h1 := h.low s hs
  have h2 := k.low t ht
  omega
theorem Tr.ne {n r : Nat} {t : List Int} (ht : Tr n r t) {i : Nat} (hi : i < n) (hr : i ≠ r) : gi t i ≠ i := by
  intro e2
  have h1 := ht.2.2.2 i (by rw [ht.1]; exact hi)
  have h2 : ∀ d, orS t r i d = (i : Int) := by
    intro d
    induction d with
    | zero => rfl
    | succ d ih =>
      rw [orS, if_neg (by rw [ih]; omega), ih]
      unfold nx; simpa using e2
  rw [h2] at h1; omega
/-- Costs that are the same but on the diagonal. -/
theorem csF_congr {f g : Nat → Nat → Int} {n r : Nat} {t : List Int} (ht : Tr n r t) (h : ∀ i j, i < n → j < n → i ≠ j → f i j = g i j) : ∀ k, k ≤ n → csF f r t k = csF g r t k
  | 0, _ => rfl
  | k + 1, hk => by
    rw [csF, csF, csF_congr ht h k (by omega)]
    split
    · rfl
    · rename_i hne
      have h1 := ht.2.1.bd k (by rw [ht.1]; omega)
      rw [ht.1] at h1
      have h2 := ht.ne (i := k) (by omega) hne
      rw [h k (gi t k).toNat (by omega) (by omega) (by omega)]
theorem LF.congr {f g : Nat → Nat → Int} {n r : Nat} {v : Int} (h : LF f n r v) (e : ∀ i j, i < n → j < n → i ≠ j → f i j = g i j) : LF g n r v :=
  ⟨fun t ht => by rw [← csF_congr ht e n (Nat.le_refl _)]; exact h.low t ht, let ⟨t, ht, e2⟩ := h.at_; ⟨t, ht, by rw [← csF_congr ht e n (Nat.le_refl _)]; exact e2⟩⟩
/-- What is paid for each state but the root. -/
def pdS (p : Nat → Int) (r : Nat) : Nat → Int
  | 0 => 0
  | k + 1 => if k = r then pdS p r k else pdS p r k + p k
theorem csF_shift (f : Nat → Nat → Int) (p : Nat → Int) (r : Nat) (t : List Int) : ∀ k, csF (fun i j => f i j - p i) r t k = csF f r t k - pdS p r k
  | 0 => rfl
  | k + 1 => by
    rw [csF, csF, pdS, csF_shift f p r t k]
    split <;> omega
theorem LF.shift {f : Nat → Nat → Int} {p : Nat → Int} {n r : Nat} {v : Int} (h : LF (fun i j => f i j - p i) n r v) : LF f n r (v + pdS p r n) :=
  ⟨fun t ht => by have := h.low t ht; rw [csF_shift] at this; omega, let ⟨t, ht, e⟩ := h.at_; ⟨t, ht, by rw [csF_shift] at e; omega⟩⟩
theorem LF.ex (c : List (List Int)) {n r : Nat} (h4 : n ≤ 4) (hr : r < n) : ∃ v, LF (g2 c) n r v := ⟨_, LeastT.f.1 (sumL_least h4 hr)⟩
/-- Some costs as a list. -/
def toC (f : Nat → Nat → Int) : List (List Int) := (List.range 4).map fun i => (List.range 4).map fun j => f i j
theorem g2_toC (f : Nat → Nat → Int) {i j : Nat} (hi : i < 4) (hj : j < 4) : g2 (toC f) i j = f i j := by
  unfold g2 toC
  rw [gr_get (by simpa using hi)]
  simp only [List.getElem_map, List.getElem_range]
  rw [gi_get (by simpa using hj)]
  simp
theorem LF.exF (f : Nat → Nat → Int) {n r : Nat} (h4 : n ≤ 4) (hr : r < n) : ∃ v, LF f n r v := by
  obtain ⟨v, h⟩ := LF.ex (toC f) h4 hr
  exact ⟨v, h.congr fun i j hi hj _ => g2_toC f (by omega) (by omega)⟩
theorem LF.list {f : Nat → Nat → Int} {n r : Nat} {v : Int} (h4 : n ≤ 4) (hr : r < n) : LF f n r v ↔ (∀ t ∈ treeI n r, v ≤ csF f r t n) ∧ ∃ t ∈ treeI n r, v = csF f r t n :=
  ⟨fun h => ⟨fun t ht => h.low t ((treeI_mem h4 hr).1 ht), let ⟨t, ht, e⟩ := h.at_; ⟨t, (treeI_mem h4 hr).2 ht, e⟩⟩,
   fun h => ⟨fun t ht => h.1 t ((treeI_mem h4 hr).2 ht), let ⟨t, ht, e⟩ := h.2; ⟨t, (treeI_mem h4 hr).1 ht, e⟩⟩⟩
theorem tl_1_0 : treeI 1 0 = [[0]] := by decide +kernel
theorem ex_1_0 {f : Nat → Nat → Int} {v : Int} : LF f 1 0 v ↔ (v ≤ 0) ∧ (v = 0) := by
  rw [LF.list (by decide) (by decide), tl_1_0]
  simp [csF]
theorem tl_2_0 : treeI 2 0 = [[0, 0]] := by decide +kernel
theorem ex_2_0 {f : Nat → Nat → Int} {v : Int} : LF f 2 0 v ↔ (v ≤ f 1 0) ∧ (v = f 1 0) := by
  rw [LF.list (by decide) (by decide), tl_2_0]
  simp [csF, gi]
theorem tl_2_1 : treeI 2 1 = [[1, 1]] := by decide +kernel
theorem ex_2_1 {f : Nat → Nat → Int} {v : Int} : LF f 2 1 v ↔ (v ≤ f 0 1) ∧ (v = f 0 1) := by
  rw [LF.list (by decide) (by decide), tl_2_1]
  simp [csF, gi]
theorem tl_3_0 : treeI 3 0 = [[0, 0, 0], [0, 0, 1], [0, 2, 0]] := by decide +kernel
theorem ex_3_0 {f : Nat → Nat → Int} {v : Int} : LF f 3 0 v ↔ (v ≤ f 1 0 + f 2 0 ∧ v ≤ f 1 0 + f 2 1 ∧ v ≤ f 1 2 + f 2 0) ∧ (v = f 1 0 + f 2 0 ∨ v = f 1 0 + f 2 1 ∨ v = f 1 2 + f 2 0) := by
  rw [LF.list (by decide) (by decide), tl_3_0]
  simp [csF, gi]
theorem tl_3_1 : treeI 3 1 = [[1, 1, 0], [1, 1, 1], [2, 1, 1]] := by decide +kernel
theorem ex_3_1 {f : Nat → Nat → Int} {v : Int} : LF f 3 1 v ↔ (v ≤ f 0 1 + f 2 0 ∧ v ≤ f 0 1 + f 2 1 ∧ v ≤ f 0 2 + f 2 1) ∧ (v = f 0 1 + f 2 0 ∨ v = f 0 1 + f 2 1 ∨ v = f 0 2 + f 2 1) := by
  rw [LF.list (by decide) (by decide), tl_3_1]
  simp [csF, gi]
theorem tl_3_2 : treeI 3 2 = [[1, 2, 2], [2, 0, 2], [2, 2, 2]] := by decide +kernel
theorem ex_3_2 {f : Nat → Nat → Int} {v : Int} : LF f 3 2 v ↔ (v ≤ f 0 1 + f 1 2 ∧ v ≤ f 0 2 + f 1 0 ∧ v ≤ f 0 2 + f 1 2) ∧ (v = f 0 1 + f 1 2 ∨ v = f 0 2 + f 1 0 ∨ v = f 0 2 + f 1 2) := by
  rw [LF.list (by decide) (by decide), tl_3_2]
  simp [csF, gi]
theorem tl_4_0 : treeI 4 0 = [[0, 0, 0, 0], [0, 0, 0, 1], [0, 0, 0, 2], [0, 0, 1, 0], [0, 0, 1, 1], [0, 0, 1, 2], [0, 0, 3, 0], [0, 0, 3, 1], [0, 2, 0, 0], [0, 2, 0, 1], [0, 2, 0, 2], [0, 2, 3, 0], [0, 3, 0, 0], [0, 3, 0, 2], [0, 3, 1, 0], [0, 3, 3, 0]] := by decide +kernel
theorem ex_4_0 {f : Nat → Nat → Int} {v : Int} : LF f 4 0 v ↔ (v ≤ f 1 0 + f 2 0 + f 3 0 ∧ v ≤ f 1 0 + f 2 0 + f 3 1 ∧ v ≤ f 1 0 + f 2 0 + f 3 2 ∧ v ≤ f 1 0 + f 2 1 + f 3 0 ∧ v ≤ f 1 0 + f 2 1 + f 3 1 ∧ v ≤ f 1 0 + f 2 1 + f 3 2 ∧ v ≤ f 1 0 + f 2 3 + f 3 0 ∧ v ≤ f 1 0 + f 2 3 + f 3 1 ∧ v ≤ f 1 2 + f 2 0 + f 3 0 ∧ v ≤ f 1 2 + f 2 0 + f 3 1 ∧ v ≤ f 1 2 + f 2 0 + f 3 2 ∧ v ≤ f 1 2 + f 2 3 + f 3 0 ∧ v ≤ f 1 3 + f 2 0 + f 3 0 ∧ v ≤ f 1 3 + f 2 0 + f 3 2 ∧ v ≤ f 1 3 + f 2 1 + f 3 0 ∧ v ≤ f 1 3 + f 2 3 + f 3 0) ∧ (v = f 1 0 + f 2 0 + f 3 0 ∨ v = f 1 0 + f 2 0 + f 3 1 ∨ v = f 1 0 + f 2 0 + f 3 2 ∨ v = f 1 0 + f 2 1 + f 3 0 ∨ v = f 1 0 + f 2 1 + f 3 1 ∨ v = f 1 0 + f 2 1 + f 3 2 ∨ v = f 1 0 + f 2 3 + f 3 0 ∨ v = f 1 0 + f 2 3 + f 3 1 ∨ v = f 1 2 + f 2 0 + f 3 0 ∨ v = f 1 2 + f 2 0 + f 3 1 ∨ v = f 1 2 + f 2 0 + f 3 2 ∨ v = f 1 2 + f 2 3 + f 3 0 ∨ v = f 1 3 + f 2 0 + f 3 0 ∨ v = f 1 3 + f 2 0 + f 3 2 ∨ v = f 1 3 + f 2 1 + f 3 0 ∨ v = f 1 3 + f 2 3 + f 3 0) := by
  rw [LF.list (by decide) (by decide), tl_4_0]
  simp [csF, gi]
theorem tl_4_1 : treeI 4 1 = [[1, 1, 0, 0], [1, 1, 0, 1], [1, 1, 0, 2], [1, 1, 1, 0], [1, 1, 1, 1], [1, 1, 1, 2], [1, 1, 3, 0], [1, 1, 3, 1], [2, 1, 1, 0], [2, 1, 1, 1], [2, 1, 1, 2], [2, 1, 3, 1], [3, 1, 0, 1], [3, 1, 1, 1], [3, 1, 1, 2], [3, 1, 3, 1]] := by decide +kernel
theorem ex_4_1 {f : Nat → Nat → Int} {v : Int} : LF f 4 1 v ↔ (v ≤ f 0 1 + f 2 0 + f 3 0 ∧ v ≤ f 0 1 + f 2 0 + f 3 1 ∧ v ≤ f 0 1 + f 2 0 + f 3 2 ∧ v ≤ f 0 1 + f 2 1 + f 3 0 ∧ v ≤ f 0 1 + f 2 1 + f 3 1 ∧ v ≤ f 0 1 + f 2 1 + f 3 2 ∧ v ≤ f 0 1 + f 2 3 + f 3 0 ∧ v ≤ f 0 1 + f 2 3 + f 3 1 ∧ v ≤ f 0 2 + f 2 1 + f 3 0 ∧ v ≤ f 0 2 + f 2 1 + f 3 1 ∧ v ≤ f 0 2 + f 2 1 + f 3 2 ∧ v ≤ f 0 2 + f 2 3 + f 3 1 ∧ v ≤ f 0 3 + f 2 0 + f 3 1 ∧ v ≤ f 0 3 + f 2 1 + f 3 1 ∧ v ≤ f 0 3 + f 2 1 + f 3 2 ∧ v ≤ f 0 3 + f 2 3 + f 3 1) ∧ (v = f 0 1 + f 2 0 + f 3 0 ∨ v = f 0 1 + f 2 0 + f 3 1 ∨ v = f 0 1 + f 2 0 + f 3 2 ∨ v = f 0 1 + f 2 1 + f 3 0 ∨ v = f 0 1 + f 2 1 + f 3 1 ∨ v = f 0 1 + f 2 1 + f 3 2 ∨ v = f 0 1 + f 2 3 + f 3 0 ∨ v = f 0 1 + f 2 3 + f 3 1 ∨ v = f 0 2 + f 2 1 + f 3 0 ∨ v = f 0 2 + f 2 1 + f 3 1 ∨ v = f 0 2 + f 2 1 + f 3 2 ∨ v = f 0 2 + f 2 3 + f 3 1 ∨ v = f 0 3 + f 2 0 + f 3 1 ∨ v = f 0 3 + f 2 1 + f 3 1 ∨ v = f 0 3 + f 2 1 + f 3 2 ∨ v = f 0 3 + f 2 3 + f 3 1) := by
  rw [LF.list (by decide) (by decide), tl_4_1]
  simp [csF, gi]
theorem tl_4_2 : treeI 4 2 = [[1, 2, 2, 0], [1, 2, 2, 1], [1, 2, 2, 2], [1, 3, 2, 2], [2, 0, 2, 0], [2, 0, 2, 1], [2, 0, 2, 2], [2, 2, 2, 0], [2, 2, 2, 1], [2, 2, 2, 2], [2, 3, 2, 0], [2, 3, 2, 2], [3, 0, 2, 2], [3, 2, 2, 1], [3, 2, 2, 2], [3, 3, 2, 2]] := by decide +kernel
theorem ex_4_2 {f : Nat → Nat → Int} {v : Int} : LF f 4 2 v ↔ (v ≤ f 0 1 + f 1 2 + f 3 0 ∧ v ≤ f 0 1 + f 1 2 + f 3 1 ∧ v ≤ f 0 1 + f 1 2 + f 3 2 ∧ v ≤ f 0 1 + f 1 3 + f 3 2 ∧ v ≤ f 0 2 + f 1 0 + f 3 0 ∧ v ≤ f 0 2 + f 1 0 + f 3 1 ∧ v ≤ f 0 2 + f 1 0 + f 3 2 ∧ v ≤ f 0 2 + f 1 2 + f 3 0 ∧ v ≤ f 0 2 + f 1 2 + f 3 1 ∧ v ≤ f 0 2 + f 1 2 + f 3 2 ∧ v ≤ f 0 2 + f 1 3 + f 3 0 ∧ v ≤ f 0 2 + f 1 3 + f 3 2 ∧ v ≤ f 0 3 + f 1 0 + f 3 2 ∧ v ≤ f 0 3 + f 1 2 + f 3 1 ∧ v ≤ f 0 3 + f 1 2 + f 3 2 ∧ v ≤ f 0 3 + f 1 3 + f 3 2) ∧ (v = f 0 1 + f 1 2 + f 3 0 ∨ v = f 0 1 + f 1 2 + f 3 1 ∨ v = f 0 1 + f 1 2 + f 3 2 ∨ v = f 0 1 + f 1 3 + f 3 2 ∨ v = f 0 2 + f 1 0 + f 3 0 ∨ v = f 0 2 + f 1 0 + f 3 1 ∨ v = f 0 2 + f 1 0 + f 3 2 ∨ v = f 0 2 + f 1 2 + f 3 0 ∨ v = f 0 2 + f 1 2 + f 3 1 ∨ v = f 0 2 + f 1 2 + f 3 2 ∨ v = f 0 2 + f 1 3 + f 3 0 ∨ v = f 0 2 + f 1 3 + f 3 2 ∨ v = f 0 3 + f 1 0 + f 3 2 ∨ v = f 0 3 + f 1 2 + f 3 1 ∨ v = f 0 3 + f 1 2 + f 3 2 ∨ v = f 0 3 + f 1 3 + f 3 2) := by
  rw [LF.list (by decide) (by decide), tl_4_2]
  simp [csF, gi]
theorem tl_4_3 : treeI 4 3 = [[1, 2, 3, 3], [1, 3, 0, 3], [1, 3, 1, 3], [1, 3, 3, 3], [2, 0, 3, 3], [2, 2, 3, 3], [2, 3, 1, 3], [2, 3, 3, 3], [3, 0, 0, 3], [3, 0, 1, 3], [3, 0, 3, 3], [3, 2, 0, 3], [3, 2, 3, 3], [3, 3, 0, 3], [3, 3, 1, 3], [3, 3, 3, 3]] := by decide +kernel
theorem ex_4_3 {f : Nat → Nat → Int} {v : Int} : LF f 4 3 v ↔ (v ≤ f 0 1 + f 1 2 + f 2 3 ∧ v ≤ f 0 1 + f 1 3 + f 2 0 ∧ v ≤ f 0 1 + f 1 3 + f 2 1 ∧ v ≤ f 0 1 + f 1 3 + f 2 3 ∧ v ≤ f 0 2 + f 1 0 + f 2 3 ∧ v ≤ f 0 2 + f 1 2 + f 2 3 ∧ v ≤ f 0 2 + f 1 3 + f 2 1 ∧ v ≤ f 0 2 + f 1 3 + f 2 3 ∧ v ≤ f 0 3 + f 1 0 + f 2 0 ∧ v ≤ f 0 3 + f 1 0 + f 2 1 ∧ v ≤ f 0 3 + f 1 0 + f 2 3 ∧ v ≤ f 0 3 + f 1 2 + f 2 0 ∧ v ≤ f 0 3 + f 1 2 + f 2 3 ∧ v ≤ f 0 3 + f 1 3 + f 2 0 ∧ v ≤ f 0 3 + f 1 3 + f 2 1 ∧ v ≤ f 0 3 + f 1 3 + f 2 3) ∧ (v = f 0 1 + f 1 2 + f 2 3 ∨ v = f 0 1 + f 1 3 + f 2 0 ∨ v = f 0 1 + f 1 3 + f 2 1 ∨ v = f 0 1 + f 1 3 + f 2 3 ∨ v = f 0 2 + f 1 0 + f 2 3 ∨ v = f 0 2 + f 1 2 + f 2 3 ∨ v = f 0 2 + f 1 3 + f 2 1 ∨ v = f 0 2 + f 1 3 + f 2 3 ∨ v = f 0 3 + f 1 0 + f 2 0 ∨ v = f 0 3 + f 1 0 + f 2 1 ∨ v = f 0 3 + f 1 0 + f 2 3 ∨ v = f 0 3 + f 1 2 + f 2 0 ∨ v = f 0 3 + f 1 2 + f 2 3 ∨ v = f 0 3 + f 1 3 + f 2 0 ∨ v = f 0 3 + f 1 3 + f 2 1 ∨ v = f 0 3 + f 1 3 + f 2 3) := by
  rw [LF.list (by decide) (by decide), tl_4_3]
  simp [csF, gi]
end Go.Proofs.Ytidoahicgiaodaa

/- A round of ways that cost nothing is one state: every case. -/
namespace Go.Proofs.Ytidoahicgiaodaa
open Go.RowKit

/-- Costs with a round put together to one state, behind the others. -/
structure Ctr (f h : Nat → Nat → Int) (n : Nat) (ring oth : List Nat) : Prop where
  zero : ∀ k, k < ring.length → f (ring.getD k 0) (ring.getD ((k + 1) % ring.length) 0) = 0
  pos : ∀ i j, i < n → j < n → i ≠ j → 0 ≤ f i j
  bb : ∀ x y, x < oth.length → y < oth.length → x ≠ y → h x y = f (oth.getD x 0) (oth.getD y 0)
  bmL : ∀ x, x < oth.length → ∀ s ∈ ring, h x oth.length ≤ f (oth.getD x 0) s
  bmE : ∀ x, x < oth.length → ∃ s ∈ ring, h x oth.length = f (oth.getD x 0) s
  mbL : ∀ y, y < oth.length → ∀ s ∈ ring, h oth.length y ≤ f s (oth.getD y 0)
  mbE : ∀ y, y < oth.length → ∃ s ∈ ring, h oth.length y = f s (oth.getD y 0)
theorem ctr_0 {f h : Nat → Nat → Int} {v : Int} (c : Ctr f h 3 [2, 1] [0]) (H : LF h 2 0 v) : LF f 3 0 v := by
  obtain ⟨u, U⟩ := LF.exF f (n := 3) (r := 0) (by decide) (by decide)
  have E : v = u := by
    obtain ⟨hl, ha⟩ := ex_2_0.1 H
    obtain ⟨ul, ua⟩ := ex_3_0.1 U
    have z0 : f 2 1 = 0 := c.zero 0 (by decide)
    have z1 : f 1 2 = 0 := c.zero 1 (by decide)
    have p20 : 0 ≤ f 2 0 := c.pos 2 0 (by decide) (by decide) (by decide)
    have p21 : 0 ≤ f 2 1 := c.pos 2 1 (by decide) (by decide) (by decide)
    have p10 : 0 ≤ f 1 0 := c.pos 1 0 (by decide) (by decide) (by decide)
    have p12 : 0 ≤ f 1 2 := c.pos 1 2 (by decide) (by decide) (by decide)
    have q0_2 : h 1 0 ≤ f 2 0 := c.mbL 0 (by decide) 2 (by decide)
    have q0_1 : h 1 0 ≤ f 1 0 := c.mbL 0 (by decide) 1 (by decide)
    have N0 : h 1 0 = f 2 0 ∨ h 1 0 = f 1 0 := by
      obtain ⟨s, hs, e⟩ := c.mbE 0 (by decide)
      simp at hs
      rcases hs with rfl | rfl <;> simp at e <;> simp [e]
    refine Int.le_antisymm ?_ ?_
    · clear N0
      rcases ua with e | e | e <;> omega
    · rcases N0 with N0' | N0' <;> omega
  rw [E]; exact U
theorem ctr_1 {f h : Nat → Nat → Int} {v : Int} (c : Ctr f h 3 [2, 0] [1]) (H : LF h 2 0 v) : LF f 3 1 v := by
  obtain ⟨u, U⟩ := LF.exF f (n := 3) (r := 1) (by decide) (by decide)
  have E : v = u := by
    obtain ⟨hl, ha⟩ := ex_2_0.1 H
    obtain ⟨ul, ua⟩ := ex_3_1.1 U
    have z0 : f 2 0 = 0 := c.zero 0 (by decide)
    have z1 : f 0 2 = 0 := c.zero 1 (by decide)
    have p20 : 0 ≤ f 2 0 := c.pos 2 0 (by decide) (by decide) (by decide)
    have p21 : 0 ≤ f 2 1 := c.pos 2 1 (by decide) (by decide) (by decide)
    have p01 : 0 ≤ f 0 1 := c.pos 0 1 (by decide) (by decide) (by decide)
    have p02 : 0 ≤ f 0 2 := c.pos 0 2 (by decide) (by decide) (by decide)
    have q0_2 : h 1 0 ≤ f 2 1 := c.mbL 0 (by decide) 2 (by decide)
    have q0_0 : h 1 0 ≤ f 0 1 := c.mbL 0 (by decide) 0 (by decide)
    have N0 : h 1 0 = f 2 1 ∨ h 1 0 = f 0 1 := by
      obtain ⟨s, hs, e⟩ := c.mbE 0 (by decide)
      simp at hs
      rcases hs with rfl | rfl <;> simp at e <;> simp [e]
    refine Int.le_antisymm ?_ ?_
    · clear N0
      rcases ua with e | e | e <;> omega
    · rcases N0 with N0' | N0' <;> omega
  rw [E]; exact U
theorem ctr_2 {f h : Nat → Nat → Int} {v : Int} (c : Ctr f h 3 [1, 0] [2]) (H : LF h 2 0 v) : LF f 3 2 v := by
  obtain ⟨u, U⟩ := LF.exF f (n := 3) (r := 2) (by decide) (by decide)
  have E : v = u := by
    obtain ⟨hl, ha⟩ := ex_2_0.1 H
    obtain ⟨ul, ua⟩ := ex_3_2.1 U
    have z0 : f 1 0 = 0 := c.zero 0 (by decide)
    have z1 : f 0 1 = 0 := c.zero 1 (by decide)
    have p10 : 0 ≤ f 1 0 := c.pos 1 0 (by decide) (by decide) (by decide)
    have p12 : 0 ≤ f 1 2 := c.pos 1 2 (by decide) (by decide) (by decide)
    have p01 : 0 ≤ f 0 1 := c.pos 0 1 (by decide) (by decide) (by decide)
    have p02 : 0 ≤ f 0 2 := c.pos 0 2 (by decide) (by decide) (by decide)
    have q0_1 : h 1 0 ≤ f 1 2 := c.mbL 0 (by decide) 1 (by decide)
    have q0_0 : h 1 0 ≤ f 0 2 := c.mbL 0 (by decide) 0 (by decide)
    have N0 : h 1 0 = f 1 2 ∨ h 1 0 = f 0 2 := by
      obtain ⟨s, hs, e⟩ := c.mbE 0 (by decide)
      simp at hs
      rcases hs with rfl | rfl <;> simp at e <;> simp [e]
    refine Int.le_antisymm ?_ ?_
    · clear N0
      rcases ua with e | e | e <;> omega
    · rcases N0 with N0' | N0' <;> omega
  rw [E]; exact U
theorem ctr_3 {f h : Nat → Nat → Int} {v : Int} (c : Ctr f h 4 [2, 3] [0, 1]) (H : LF h 3 0 v) : LF f 4 0 v := by
  obtain ⟨u, U⟩ := LF.exF f (n := 4) (r := 0) (by decide) (by decide)
  have E : v = u := by
    obtain ⟨hl, ha⟩ := ex_3_0.1 H
    obtain ⟨ul, ua⟩ := ex_4_0.1 U
    have z0 : f 2 3 = 0 := c.zero 0 (by decide)
    have z1 : f 3 2 = 0 := c.zero 1 (by decide)
    have p20 : 0 ≤ f 2 0 := c.pos 2 0 (by decide) (by decide) (by decide)
    have p21 : 0 ≤ f 2 1 := c.pos 2 1 (by decide) (by decide) (by decide)
    have p23 : 0 ≤ f 2 3 := c.pos 2 3 (by decide) (by decide) (by decide)
    have p30 : 0 ≤ f 3 0 := c.pos 3 0 (by decide) (by decide) (by decide)
    have p31 : 0 ≤ f 3 1 := c.pos 3 1 (by decide) (by decide) (by decide)
    have p32 : 0 ≤ f 3 2 := c.pos 3 2 (by decide) (by decide) (by decide)
    have b01 : h 0 1 = f 0 1 := c.bb 0 1 (by decide) (by decide) (by decide)
    have b10 : h 1 0 = f 1 0 := c.bb 1 0 (by decide) (by decide) (by decide)
    have l1_2 : h 1 2 ≤ f 1 2 := c.bmL 1 (by decide) 2 (by decide)
    have l1_3 : h 1 2 ≤ f 1 3 := c.bmL 1 (by decide) 3 (by decide)
    have M1 : h 1 2 = f 1 2 ∨ h 1 2 = f 1 3 := by
      obtain ⟨s, hs, e⟩ := c.bmE 1 (by decide)
      simp at hs
      rcases hs with rfl | rfl <;> simp at e <;> simp [e]
    have q0_2 : h 2 0 ≤ f 2 0 := c.mbL 0 (by decide) 2 (by decide)
    have q0_3 : h 2 0 ≤ f 3 0 := c.mbL 0 (by decide) 3 (by decide)
    have N0 : h 2 0 = f 2 0 ∨ h 2 0 = f 3 0 := by
      obtain ⟨s, hs, e⟩ := c.mbE 0 (by decide)
      simp at hs
      rcases hs with rfl | rfl <;> simp at e <;> simp [e]
    have q1_2 : h 2 1 ≤ f 2 1 := c.mbL 1 (by decide) 2 (by decide)
    have q1_3 : h 2 1 ≤ f 3 1 := c.mbL 1 (by decide) 3 (by decide)
    have N1 : h 2 1 = f 2 1 ∨ h 2 1 = f 3 1 := by
      obtain ⟨s, hs, e⟩ := c.mbE 1 (by decide)
      simp at hs
      rcases hs with rfl | rfl <;> simp at e <;> simp [e]
    refine Int.le_antisymm ?_ ?_
    · clear M1 N0 N1
      rcases ua with e | e | e | e | e | e | e | e | e | e | e | e | e | e | e | e <;> omega
    · rcases ha with e | e | e
      · clear M1 N1; rcases N0 with N0' | N0' <;> omega
      · clear M1 N0; rcases N1 with N1' | N1' <;> omega
      · clear N1; rcases M1 with M1' | M1' <;> rcases N0 with N0' | N0' <;> omega
  rw [E]; exact U
theorem ctr_4 {f h : Nat → Nat → Int} {v : Int} (c : Ctr f h 4 [1, 2] [0, 3]) (H : LF h 3 0 v) : LF f 4 0 v := by
  obtain ⟨u, U⟩ := LF.exF f (n := 4) (r := 0) (by decide) (by decide)
  have E : v = u := by
    obtain ⟨hl, ha⟩ := ex_3_0.1 H
    obtain ⟨ul, ua⟩ := ex_4_0.1 U
    have z0 : f 1 2 = 0 := c.zero 0 (by decide)
    have z1 : f 2 1 = 0 := c.zero 1 (by decide)
    have p10 : 0 ≤ f 1 0 := c.pos 1 0 (by decide) (by decide) (by decide)
    have p12 : 0 ≤ f 1 2 := c.pos 1 2 (by decide) (by decide) (by decide)
    have p13 : 0 ≤ f 1 3 := c.pos 1 3 (by decide) (by decide) (by decide)
    have p20 : 0 ≤ f 2 0 := c.pos 2 0 (by decide) (by decide) (by decide)
    have p21 : 0 ≤ f 2 1 := c.pos 2 1 (by decide) (by decide) (by decide)
    have p23 : 0 ≤ f 2 3 := c.pos 2 3 (by decide) (by decide) (by decide)
    have b01 : h 0 1 = f 0 3 := c.bb 0 1 (by decide) (by decide) (by decide)
    have b10 : h 1 0 = f 3 0 := c.bb 1 0 (by decide) (by decide) (by decide)
    have l1_1 : h 1 2 ≤ f 3 1 := c.bmL 1 (by decide) 1 (by decide)
    have l1_2 : h 1 2 ≤ f 3 2 := c.bmL 1 (by decide) 2 (by decide)
    have M1 : h 1 2 = f 3 1 ∨ h 1 2 = f 3 2 := by
      obtain ⟨s, hs, e⟩ := c.bmE 1 (by decide)
      simp at hs
      rcases hs with rfl | rfl <;> simp at e <;> simp [e]
    have q0_1 : h 2 0 ≤ f 1 0 := c.mbL 0 (by decide) 1 (by decide)
    have q0_2 : h 2 0 ≤ f 2 0 := c.mbL 0 (by decide) 2 (by decide)
    have N0 : h 2 0 = f 1 0 ∨ h 2 0 = f 2 0 := by
      obtain ⟨s, hs, e⟩ := c.mbE 0 (by decide)
      simp at hs
      rcases hs with rfl | rfl <;> simp at e <;> simp [e]
    have q1_1 : h 2 1 ≤ f 1 3 := c.mbL 1 (by decide) 1 (by decide)
    have q1_2 : h 2 1 ≤ f 2 3 := c.mbL 1 (by decide) 2 (by decide)
    have N1 : h 2 1 = f 1 3 ∨ h 2 1 = f 2 3 := by
      obtain ⟨s, hs, e⟩ := c.mbE 1 (by decide)
      simp at hs
      rcases hs with rfl | rfl <;> simp at e <;> simp [e]
    refine Int.le_antisymm ?_ ?_
    · clear M1 N0 N1
      rcases ua with e | e | e | e | e | e | e | e | e | e | e | e | e | e | e | e <;> omega
    · rcases ha with e | e | e
      · clear M1 N1; rcases N0 with N0' | N0' <;> omega
      · clear M1 N0; rcases N1 with N1' | N1' <;> omega
      · clear N1; rcases M1 with M1' | M1' <;> rcases N0 with N0' | N0' <;> omega
  rw [E]; exact U
theorem ctr_5 {f h : Nat → Nat → Int} {v : Int} (c : Ctr f h 4 [2, 3, 1] [0]) (H : LF h 2 0 v) : LF f 4 0 v := by
  obtain ⟨u, U⟩ := LF.exF f (n := 4) (r := 0) (by decide) (by decide)
  have E : v = u := by
    obtain ⟨hl, ha⟩ := ex_2_0.1 H
    obtain ⟨ul, ua⟩ := ex_4_0.1 U
    have z0 : f 2 3 = 0 := c.zero 0 (by decide)
    have z1 : f 3 1 = 0 := c.zero 1 (by decide)
    have z2 : f 1 2 = 0 := c.zero 2 (by decide)
    have p20 : 0 ≤ f 2 0 := c.pos 2 0 (by decide) (by decide) (by decide)
    have p21 : 0 ≤ f 2 1 := c.pos 2 1 (by decide) (by decide) (by decide)
    have p23 : 0 ≤ f 2 3 := c.pos 2 3 (by decide) (by decide) (by decide)
    have p30 : 0 ≤ f 3 0 := c.pos 3 0 (by decide) (by decide) (by decide)
    have p31 : 0 ≤ f 3 1 := c.pos 3 1 (by decide) (by decide) (by decide)
    have p32 : 0 ≤ f 3 2 := c.pos 3 2 (by decide) (by decide) (by decide)
    have p10 : 0 ≤ f 1 0 := c.pos 1 0 (by decide) (by decide) (by decide)
    have p12 : 0 ≤ f 1 2 := c.pos 1 2 (by decide) (by decide) (by decide)
    have p13 : 0 ≤ f 1 3 := c.pos 1 3 (by decide) (by decide) (by decide)
    have q0_2 : h 1 0 ≤ f 2 0 := c.mbL 0 (by decide) 2 (by decide)
    have q0_3 : h 1 0 ≤ f 3 0 := c.mbL 0 (by decide) 3 (by decide)
    have q0_1 : h 1 0 ≤ f 1 0 := c.mbL 0 (by decide) 1 (by decide)
    have N0 : h 1 0 = f 2 0 ∨ h 1 0 = f 3 0 ∨ h 1 0 = f 1 0 := by
      obtain ⟨s, hs, e⟩ := c.mbE 0 (by decide)
      simp at hs
      rcases hs with rfl | rfl | rfl <;> simp at e <;> simp [e]
    refine Int.le_antisymm ?_ ?_
    · clear N0
      rcases ua with e | e | e | e | e | e | e | e | e | e | e | e | e | e | e | e <;> omega
    · rcases N0 with N0' | N0' | N0' <;> omega
  rw [E]; exact U
theorem ctr_6 {f h : Nat → Nat → Int} {v : Int} (c : Ctr f h 4 [3, 2] [0, 1]) (H : LF h 3 0 v) : LF f 4 0 v := by
  obtain ⟨u, U⟩ := LF.exF f (n := 4) (r := 0) (by decide) (by decide)
  have E : v = u := by
    obtain ⟨hl, ha⟩ := ex_3_0.1 H
    obtain ⟨ul, ua⟩ := ex_4_0.1 U
    have z0 : f 3 2 = 0 := c.zero 0 (by decide)
    have z1 : f 2 3 = 0 := c.zero 1 (by decide)
    have p30 : 0 ≤ f 3 0 := c.pos 3 0 (by decide) (by decide) (by decide)
    have p31 : 0 ≤ f 3 1 := c.pos 3 1 (by decide) (by decide) (by decide)
    have p32 : 0 ≤ f 3 2 := c.pos 3 2 (by decide) (by decide) (by decide)
    have p20 : 0 ≤ f 2 0 := c.pos 2 0 (by decide) (by decide) (by decide)
    have p21 : 0 ≤ f 2 1 := c.pos 2 1 (by decide) (by decide) (by decide)
    have p23 : 0 ≤ f 2 3 := c.pos 2 3 (by decide) (by decide) (by decide)
    have b01 : h 0 1 = f 0 1 := c.bb 0 1 (by decide) (by decide) (by decide)
    have b10 : h 1 0 = f 1 0 := c.bb 1 0 (by decide) (by decide) (by decide)
    have l1_3 : h 1 2 ≤ f 1 3 := c.bmL 1 (by decide) 3 (by decide)
    have l1_2 : h 1 2 ≤ f 1 2 := c.bmL 1 (by decide) 2 (by decide)
    have M1 : h 1 2 = f 1 3 ∨ h 1 2 = f 1 2 := by
      obtain ⟨s, hs, e⟩ := c.bmE 1 (by decide)
      simp at hs
      rcases hs with rfl | rfl <;> simp at e <;> simp [e]
    have q0_3 : h 2 0 ≤ f 3 0 := c.mbL 0 (by decide) 3 (by decide)
    have q0_2 : h 2 0 ≤ f 2 0 := c.mbL 0 (by decide) 2 (by decide)
    have N0 : h 2 0 = f 3 0 ∨ h 2 0 = f 2 0 := by
      obtain ⟨s, hs, e⟩ := c.mbE 0 (by decide)
      simp at hs
      rcases hs with rfl | rfl <;> simp at e <;> simp [e]
    have q1_3 : h 2 1 ≤ f 3 1 := c.mbL 1 (by decide) 3 (by decide)
    have q1_2 : h 2 1 ≤ f 2 1 := c.mbL 1 (by decide) 2 (by decide)
    have N1 : h 2 1 = f 3 1 ∨ h 2 1 = f 2 1 := by
      obtain ⟨s, hs, e⟩ := c.mbE 1 (by decide)
      simp at hs
      rcases hs with rfl | rfl <;> simp at e <;> simp [e]
    refine Int.le_antisymm ?_ ?_
    · clear M1 N0 N1
      rcases ua with e | e | e | e | e | e | e | e | e | e | e | e | e | e | e | e <;> omega
    · rcases ha with e | e | e
      · clear M1 N1; rcases N0 with N0' | N0' <;> omega
      · clear M1 N0; rcases N1 with N1' | N1' <;> omega
      · clear N1; rcases M1 with M1' | M1' <;> rcases N0 with N0' | N0' <;> omega
  rw [E]; exact U
theorem ctr_7 {f h : Nat → Nat → Int} {v : Int} (c : Ctr f h 4 [1, 3] [0, 2]) (H : LF h 3 0 v) : LF f 4 0 v := by
  obtain ⟨u, U⟩ := LF.exF f (n := 4) (r := 0) (by decide) (by decide)
  have E : v = u := by
    obtain ⟨hl, ha⟩ := ex_3_0.1 H
    obtain ⟨ul, ua⟩ := ex_4_0.1 U
    have z0 : f 1 3 = 0 := c.zero 0 (by decide)
    have z1 : f 3 1 = 0 := c.zero 1 (by decide)
    have p10 : 0 ≤ f 1 0 := c.pos 1 0 (by decide) (by decide) (by decide)
    have p12 : 0 ≤ f 1 2 := c.pos 1 2 (by decide) (by decide) (by decide)
    have p13 : 0 ≤ f 1 3 := c.pos 1 3 (by decide) (by decide) (by decide)
    have p30 : 0 ≤ f 3 0 := c.pos 3 0 (by decide) (by decide) (by decide)
    have p31 : 0 ≤ f 3 1 := c.pos 3 1 (by decide) (by decide) (by decide)
    have p32 : 0 ≤ f 3 2 := c.pos 3 2 (by decide) (by decide) (by decide)
    have b01 : h 0 1 = f 0 2 := c.bb 0 1 (by decide) (by decide) (by decide)
    have b10 : h 1 0 = f 2 0 := c.bb 1 0 (by decide) (by decide) (by decide)
    have l1_1 : h 1 2 ≤ f 2 1 := c.bmL 1 (by decide) 1 (by decide)
    have l1_3 : h 1 2 ≤ f 2 3 := c.bmL 1 (by decide) 3 (by decide)
    have M1 : h 1 2 = f 2 1 ∨ h 1 2 = f 2 3 := by
      obtain ⟨s, hs, e⟩ := c.bmE 1 (by decide)
      simp at hs
      rcases hs with rfl | rfl <;> simp at e <;> simp [e]
    have q0_1 : h 2 0 ≤ f 1 0 := c.mbL 0 (by decide) 1 (by decide)
    have q0_3 : h 2 0 ≤ f 3 0 := c.mbL 0 (by decide) 3 (by decide)
    have N0 : h 2 0 = f 1 0 ∨ h 2 0 = f 3 0 := by
      obtain ⟨s, hs, e⟩ := c.mbE 0 (by decide)
      simp at hs
      rcases hs with rfl | rfl <;> simp at e <;> simp [e]
    have q1_1 : h 2 1 ≤ f 1 2 := c.mbL 1 (by decide) 1 (by decide)
    have q1_3 : h 2 1 ≤ f 3 2 := c.mbL 1 (by decide) 3 (by decide)
    have N1 : h 2 1 = f 1 2 ∨ h 2 1 = f 3 2 := by
      obtain ⟨s, hs, e⟩ := c.mbE 1 (by decide)
      simp at hs
      rcases hs with rfl | rfl <;> simp at e <;> simp [e]
    refine Int.le_antisymm ?_ ?_
    · clear M1 N0 N1
      rcases ua with e | e | e | e | e | e | e | e | e | e | e | e | e | e | e | e <;> omega
    · rcases ha with e | e | e
      · clear M1 N1; rcases N0 with N0' | N0' <;> omega
      · clear M1 N0; rcases N1 with N1' | N1' <;> omega
      · clear N1; rcases M1 with M1' | M1' <;> rcases N0 with N0' | N0' <;> omega
  rw [E]; exact U
theorem ctr_8 {f h : Nat → Nat → Int} {v : Int} (c : Ctr f h 4 [3, 2, 1] [0]) (H : LF h 2 0 v) : LF f 4 0 v := by
  obtain ⟨u, U⟩ := LF.exF f (n := 4) (r := 0) (by decide) (by decide)
  have E : v = u := by
    obtain ⟨hl, ha⟩ := ex_2_0.1 H
    obtain ⟨ul, ua⟩ := ex_4_0.1 U
    have z0 : f 3 2 = 0 := c.zero 0 (by decide)
    have z1 : f 2 1 = 0 := c.zero 1 (by decide)
    have z2 : f 1 3 = 0 := c.zero 2 (by decide)
    have p30 : 0 ≤ f 3 0 := c.pos 3 0 (by decide) (by decide) (by decide)
    have p31 : 0 ≤ f 3 1 := c.pos 3 1 (by decide) (by decide) (by decide)
    have p32 : 0 ≤ f 3 2 := c.pos 3 2 (by decide) (by decide) (by decide)
    have p20 : 0 ≤ f 2 0 := c.pos 2 0 (by decide) (by decide) (by decide)
    have p21 : 0 ≤ f 2 1 := c.pos 2 1 (by decide) (by decide) (by decide)
    have p23 : 0 ≤ f 2 3 := c.pos 2 3 (by decide) (by decide) (by decide)
    have p10 : 0 ≤ f 1 0 := c.pos 1 0 (by decide) (by decide) (by decide)
    have p12 : 0 ≤ f 1 2 := c.pos 1 2 (by decide) (by decide) (by decide)
    have p13 : 0 ≤ f 1 3 := c.pos 1 3 (by decide) (by decide) (by decide)
    have q0_3 : h 1 0 ≤ f 3 0 := c.mbL 0 (by decide) 3 (by decide)
    have q0_2 : h 1 0 ≤ f 2 0 := c.mbL 0 (by decide) 2 (by decide)
    have q0_1 : h 1 0 ≤ f 1 0 := c.mbL 0 (by decide) 1 (by decide)
    have N0 : h 1 0 = f 3 0 ∨ h 1 0 = f 2 0 ∨ h 1 0 = f 1 0 := by
      obtain ⟨s, hs, e⟩ := c.mbE 0 (by decide)
      simp at hs
      rcases hs with rfl | rfl | rfl <;> simp at e <;> simp [e]
    refine Int.le_antisymm ?_ ?_
    · clear N0
      rcases ua with e | e | e | e | e | e | e | e | e | e | e | e | e | e | e | e <;> omega
    · rcases N0 with N0' | N0' | N0' <;> omega
  rw [E]; exact U
theorem ctr_9 {f h : Nat → Nat → Int} {v : Int} (c : Ctr f h 4 [2, 3] [0, 1]) (H : LF h 3 1 v) : LF f 4 1 v := by
  obtain ⟨u, U⟩ := LF.exF f (n := 4) (r := 1) (by decide) (by decide)
  have E : v = u := by
    obtain ⟨hl, ha⟩ := ex_3_1.1 H
    obtain ⟨ul, ua⟩ := ex_4_1.1 U
    have z0 : f 2 3 = 0 := c.zero 0 (by decide)
    have z1 : f 3 2 = 0 := c.zero 1 (by decide)
    have p20 : 0 ≤ f 2 0 := c.pos 2 0 (by decide) (by decide) (by decide)
    have p21 : 0 ≤ f 2 1 := c.pos 2 1 (by decide) (by decide) (by decide)
    have p23 : 0 ≤ f 2 3 := c.pos 2 3 (by decide) (by decide) (by decide)
    have p30 : 0 ≤ f 3 0 := c.pos 3 0 (by decide) (by decide) (by decide)
    have p31 : 0 ≤ f 3 1 := c.pos 3 1 (by decide) (by decide) (by decide)
    have p32 : 0 ≤ f 3 2 := c.pos 3 2 (by decide) (by decide) (by decide)
    have b01 : h 0 1 = f 0 1 := c.bb 0 1 (by decide) (by decide) (by decide)
    have b10 : h 1 0 = f 1 0 := c.bb 1 0 (by decide) (by decide) (by decide)
    have l0_2 : h 0 2 ≤ f 0 2 := c.bmL 0 (by decide) 2 (by decide)
    have l0_3 : h 0 2 ≤ f 0 3 := c.bmL 0 (by decide) 3 (by decide)
    have M0 : h 0 2 = f 0 2 ∨ h 0 2 = f 0 3 := by
      obtain ⟨s, hs, e⟩ := c.bmE 0 (by decide)
      simp at hs
      rcases hs with rfl | rfl <;> simp at e <;> simp [e]
    have q0_2 : h 2 0 ≤ f 2 0 := c.mbL 0 (by decide) 2 (by decide)
    have q0_3 : h 2 0 ≤ f 3 0 := c.mbL 0 (by decide) 3 (by decide)
    have N0 : h 2 0 = f 2 0 ∨ h 2 0 = f 3 0 := by
      obtain ⟨s, hs, e⟩ := c.mbE 0 (by decide)
      simp at hs
      rcases hs with rfl | rfl <;> simp at e <;> simp [e]
    have q1_2 : h 2 1 ≤ f 2 1 := c.mbL 1 (by decide) 2 (by decide)
    have q1_3 : h 2 1 ≤ f 3 1 := c.mbL 1 (by decide) 3 (by decide)
    have N1 : h 2 1 = f 2 1 ∨ h 2 1 = f 3 1 := by
      obtain ⟨s, hs, e⟩ := c.mbE 1 (by decide)
      simp at hs
      rcases hs with rfl | rfl <;> simp at e <;> simp [e]
    refine Int.le_antisymm ?_ ?_
    · clear M0 N0 N1
      rcases ua with e | e | e | e | e | e | e | e | e | e | e | e | e | e | e | e <;> omega
    · rcases ha with e | e | e
      · clear M0 N1; rcases N0 with N0' | N0' <;> omega
      · clear M0 N0; rcases N1 with N1' | N1' <;> omega
      · clear N0; rcases M0 with M0' | M0' <;> rcases N1 with N1' | N1' <;> omega
  rw [E]; exact U
theorem ctr_10 {f h : Nat → Nat → Int} {v : Int} (c : Ctr f h 4 [0, 2] [1, 3]) (H : LF h 3 0 v) : LF f 4 1 v := by
  obtain ⟨u, U⟩ := LF.exF f (n := 4) (r := 1) (by decide) (by decide)
  have E : v = u := by
    obtain ⟨hl, ha⟩ := ex_3_0.1 H
    obtain ⟨ul, ua⟩ := ex_4_1.1 U
    have z0 : f 0 2 = 0 := c.zero 0 (by decide)
    have z1 : f 2 0 = 0 := c.zero 1 (by decide)
    have p01 : 0 ≤ f 0 1 := c.pos 0 1 (by decide) (by decide) (by decide)
    have p02 : 0 ≤ f 0 2 := c.pos 0 2 (by decide) (by decide) (by decide)
    have p03 : 0 ≤ f 0 3 := c.pos 0 3 (by decide) (by decide) (by decide)
    have p20 : 0 ≤ f 2 0 := c.pos 2 0 (by decide) (by decide) (by decide)
    have p21 : 0 ≤ f 2 1 := c.pos 2 1 (by decide) (by decide) (by decide)
    have p23 : 0 ≤ f 2 3 := c.pos 2 3 (by decide) (by decide) (by decide)
    have b01 : h 0 1 = f 1 3 := c.bb 0 1 (by decide) (by decide) (by decide)
    have b10 : h 1 0 = f 3 1 := c.bb 1 0 (by decide) (by decide) (by decide)
    have l1_0 : h 1 2 ≤ f 3 0 := c.bmL 1 (by decide) 0 (by decide)
    have l1_2 : h 1 2 ≤ f 3 2 := c.bmL 1 (by decide) 2 (by decide)
    have M1 : h 1 2 = f 3 0 ∨ h 1 2 = f 3 2 := by
      obtain ⟨s, hs, e⟩ := c.bmE 1 (by decide)
      simp at hs
      rcases hs with rfl | rfl <;> simp at e <;> simp [e]
    have q0_0 : h 2 0 ≤ f 0 1 := c.mbL 0 (by decide) 0 (by decide)
    have q0_2 : h 2 0 ≤ f 2 1 := c.mbL 0 (by decide) 2 (by decide)
    have N0 : h 2 0 = f 0 1 ∨ h 2 0 = f 2 1 := by
      obtain ⟨s, hs, e⟩ := c.mbE 0 (by decide)
      simp at hs
      rcases hs with rfl | rfl <;> simp at e <;> simp [e]
    have q1_0 : h 2 1 ≤ f 0 3 := c.mbL 1 (by decide) 0 (by decide)
    have q1_2 : h 2 1 ≤ f 2 3 := c.mbL 1 (by decide) 2 (by decide)
    have N1 : h 2 1 = f 0 3 ∨ h 2 1 = f 2 3 := by
      obtain ⟨s, hs, e⟩ := c.mbE 1 (by decide)
      simp at hs
      rcases hs with rfl | rfl <;> simp at e <;> simp [e]
    refine Int.le_antisymm ?_ ?_
    · clear M1 N0 N1
      rcases ua with e | e | e | e | e | e | e | e | e | e | e | e | e | e | e | e <;> omega
    · rcases ha with e | e | e
      · clear M1 N1; rcases N0 with N0' | N0' <;> omega
      · clear M1 N0; rcases N1 with N1' | N1' <;> omega
      · clear N1; rcases M1 with M1' | M1' <;> rcases N0 with N0' | N0' <;> omega
  rw [E]; exact U
theorem ctr_11 {f h : Nat → Nat → Int} {v : Int} (c : Ctr f h 4 [2, 3, 0] [1]) (H : LF h 2 0 v) : LF f 4 1 v := by
  obtain ⟨u, U⟩ := LF.exF f (n := 4) (r := 1) (by decide) (by decide)
  have E : v = u := by
    obtain ⟨hl, ha⟩ := ex_2_0.1 H
    obtain ⟨ul, ua⟩ := ex_4_1.1 U
    have z0 : f 2 3 = 0 := c.zero 0 (by decide)
    have z1 : f 3 0 = 0 := c.zero 1 (by decide)
    have z2 : f 0 2 = 0 := c.zero 2 (by decide)
    have p20 : 0 ≤ f 2 0 := c.pos 2 0 (by decide) (by decide) (by decide)
    have p21 : 0 ≤ f 2 1 := c.pos 2 1 (by decide) (by decide) (by decide)
    have p23 : 0 ≤ f 2 3 := c.pos 2 3 (by decide) (by decide) (by decide)
    have p30 : 0 ≤ f 3 0 := c.pos 3 0 (by decide) (by decide) (by decide)
    have p31 : 0 ≤ f 3 1 := c.pos 3 1 (by decide) (by decide) (by decide)
    have p32 : 0 ≤ f 3 2 := c.pos 3 2 (by decide) (by decide) (by decide)
    have p01 : 0 ≤ f 0 1 := c.pos 0 1 (by decide) (by decide) (by decide)
    have p02 : 0 ≤ f 0 2 := c.pos 0 2 (by decide) (by decide) (by decide)
    have p03 : 0 ≤ f 0 3 := c.pos 0 3 (by decide) (by decide) (by decide)
    have q0_2 : h 1 0 ≤ f 2 1 := c.mbL 0 (by decide) 2 (by decide)
    have q0_3 : h 1 0 ≤ f 3 1 := c.mbL 0 (by decide) 3 (by decide)
    have q0_0 : h 1 0 ≤ f 0 1 := c.mbL 0 (by decide) 0 (by decide)
    have N0 : h 1 0 = f 2 1 ∨ h 1 0 = f 3 1 ∨ h 1 0 = f 0 1 := by
      obtain ⟨s, hs, e⟩ := c.mbE 0 (by decide)
      simp at hs
      rcases hs with rfl | rfl | rfl <;> simp at e <;> simp [e]
    refine Int.le_antisymm ?_ ?_
    · clear N0
      rcases ua with e | e | e | e | e | e | e | e | e | e | e | e | e | e | e | e <;> omega
    · rcases N0 with N0' | N0' | N0' <;> omega
  rw [E]; exact U
theorem ctr_12 {f h : Nat → Nat → Int} {v : Int} (c : Ctr f h 4 [3, 2] [0, 1]) (H : LF h 3 1 v) : LF f 4 1 v := by
  obtain ⟨u, U⟩ := LF.exF f (n := 4) (r := 1) (by decide) (by decide)
  have E : v = u := by
    obtain ⟨hl, ha⟩ := ex_3_1.1 H
    obtain ⟨ul, ua⟩ := ex_4_1.1 U
    have z0 : f 3 2 = 0 := c.zero 0 (by decide)
    have z1 : f 2 3 = 0 := c.zero 1 (by decide)
    have p30 : 0 ≤ f 3 0 := c.pos 3 0 (by decide) (by decide) (by decide)
    have p31 : 0 ≤ f 3 1 := c.pos 3 1 (by decide) (by decide) (by decide)
    have p32 : 0 ≤ f 3 2 := c.pos 3 2 (by decide) (by decide) (by decide)
    have p20 : 0 ≤ f 2 0 := c.pos 2 0 (by decide) (by decide) (by decide)
    have p21 : 0 ≤ f 2 1 := c.pos 2 1 (by decide) (by decide) (by decide)
    have p23 : 0 ≤ f 2 3 := c.pos 2 3 (by decide) (by decide) (by decide)
    have b01 : h 0 1 = f 0 1 := c.bb 0 1 (by decide) (by decide) (by decide)
    have b10 : h 1 0 = f 1 0 := c.bb 1 0 (by decide) (by decide) (by decide)
    have l0_3 : h 0 2 ≤ f 0 3 := c.bmL 0 (by decide) 3 (by decide)
    have l0_2 : h 0 2 ≤ f 0 2 := c.bmL 0 (by decide) 2 (by decide)
    have M0 : h 0 2 = f 0 3 ∨ h 0 2 = f 0 2 := by
      obtain ⟨s, hs, e⟩ := c.bmE 0 (by decide)
      simp at hs
      rcases hs with rfl | rfl <;> simp at e <;> simp [e]
    have q0_3 : h 2 0 ≤ f 3 0 := c.mbL 0 (by decide) 3 (by decide)
    have q0_2 : h 2 0 ≤ f 2 0 := c.mbL 0 (by decide) 2 (by decide)
    have N0 : h 2 0 = f 3 0 ∨ h 2 0 = f 2 0 := by
      obtain ⟨s, hs, e⟩ := c.mbE 0 (by decide)
      simp at hs
      rcases hs with rfl | rfl <;> simp at e <;> simp [e]
    have q1_3 : h 2 1 ≤ f 3 1 := c.mbL 1 (by decide) 3 (by decide)
    have q1_2 : h 2 1 ≤ f 2 1 := c.mbL 1 (by decide) 2 (by decide)
    have N1 : h 2 1 = f 3 1 ∨ h 2 1 = f 2 1 := by
      obtain ⟨s, hs, e⟩ := c.mbE 1 (by decide)
      simp at hs
      rcases hs with rfl | rfl <;> simp at e <;> simp [e]
    refine Int.le_antisymm ?_ ?_
    · clear M0 N0 N1
      rcases ua with e | e | e | e | e | e | e | e | e | e | e | e | e | e | e | e <;> omega
    · rcases ha with e | e | e
      · clear M0 N1; rcases N0 with N0' | N0' <;> omega
      · clear M0 N0; rcases N1 with N1' | N1' <;> omega
      · clear N0; rcases M0 with M0' | M0' <;> rcases N1 with N1' | N1' <;> omega
  rw [E]; exact U
theorem ctr_13 {f h : Nat → Nat → Int} {v : Int} (c : Ctr f h 4 [0, 3] [1, 2]) (H : LF h 3 0 v) : LF f 4 1 v := by
  obtain ⟨u, U⟩ := LF.exF f (n := 4) (r := 1) (by decide) (by decide)
  have E : v = u := by
    obtain ⟨hl, ha⟩ := ex_3_0.1 H
    obtain ⟨ul, ua⟩ := ex_4_1.1 U
    have z0 : f 0 3 = 0 := c.zero 0 (by decide)
    have z1 : f 3 0 = 0 := c.zero 1 (by decide)
    have p01 : 0 ≤ f 0 1 := c.pos 0 1 (by decide) (by decide) (by decide)
    have p02 : 0 ≤ f 0 2 := c.pos 0 2 (by decide) (by decide) (by decide)
    have p03 : 0 ≤ f 0 3 := c.pos 0 3 (by decide) (by decide) (by decide)
    have p30 : 0 ≤ f 3 0 := c.pos 3 0 (by decide) (by decide) (by decide)
    have p31 : 0 ≤ f 3 1 := c.pos 3 1 (by decide) (by decide) (by decide)
    have p32 : 0 ≤ f 3 2 := c.pos 3 2 (by decide) (by decide) (by decide)
    have b01 : h 0 1 = f 1 2 := c.bb 0 1 (by decide) (by decide) (by decide)
    have b10 : h 1 0 = f 2 1 := c.bb 1 0 (by decide) (by decide) (by decide)
    have l1_0 : h 1 2 ≤ f 2 0 := c.bmL 1 (by decide) 0 (by decide)
    have l1_3 : h 1 2 ≤ f 2 3 := c.bmL 1 (by decide) 3 (by decide)
    have M1 : h 1 2 = f 2 0 ∨ h 1 2 = f 2 3 := by
      obtain ⟨s, hs, e⟩ := c.bmE 1 (by decide)
      simp at hs
      rcases hs with rfl | rfl <;> simp at e <;> simp [e]
    have q0_0 : h 2 0 ≤ f 0 1 := c.mbL 0 (by decide) 0 (by decide)
    have q0_3 : h 2 0 ≤ f 3 1 := c.mbL 0 (by decide) 3 (by decide)
    have N0 : h 2 0 = f 0 1 ∨ h 2 0 = f 3 1 := by
      obtain ⟨s, hs, e⟩ := c.mbE 0 (by decide)
      simp at hs
      rcases hs with rfl | rfl <;> simp at e <;> simp [e]
    have q1_0 : h 2 1 ≤ f 0 2 := c.mbL 1 (by decide) 0 (by decide)
    have q1_3 : h 2 1 ≤ f 3 2 := c.mbL 1 (by decide) 3 (by decide)
    have N1 : h 2 1 = f 0 2 ∨ h 2 1 = f 3 2 := by
      obtain ⟨s, hs, e⟩ := c.mbE 1 (by decide)
      simp at hs
      rcases hs with rfl | rfl <;> simp at e <;> simp [e]
    refine Int.le_antisymm ?_ ?_
    · clear M1 N0 N1
      rcases ua with e | e | e | e | e | e | e | e | e | e | e | e | e | e | e | e <;> omega
    · rcases ha with e | e | e
      · clear M1 N1; rcases N0 with N0' | N0' <;> omega
      · clear M1 N0; rcases N1 with N1' | N1' <;> omega
      · clear N1; rcases M1 with M1' | M1' <;> rcases N0 with N0' | N0' <;> omega
  rw [E]; exact U
theorem ctr_14 {f h : Nat → Nat → Int} {v : Int} (c : Ctr f h 4 [3, 2, 0] [1]) (H : LF h 2 0 v) : LF f 4 1 v := by
  obtain ⟨u, U⟩ := LF.exF f (n := 4) (r := 1) (by decide) (by decide)
  have E : v = u := by
    obtain ⟨hl, ha⟩ := ex_2_0.1 H
    obtain ⟨ul, ua⟩ := ex_4_1.1 U
    have z0 : f 3 2 = 0 := c.zero 0 (by decide)
    have z1 : f 2 0 = 0 := c.zero 1 (by decide)
    have z2 : f 0 3 = 0 := c.zero 2 (by decide)
    have p30 : 0 ≤ f 3 0 := c.pos 3 0 (by decide) (by decide) (by decide)
    have p31 : 0 ≤ f 3 1 := c.pos 3 1 (by decide) (by decide) (by decide)
    have p32 : 0 ≤ f 3 2 := c.pos 3 2 (by decide) (by decide) (by decide)
    have p20 : 0 ≤ f 2 0 := c.pos 2 0 (by decide) (by decide) (by decide)
    have p21 : 0 ≤ f 2 1 := c.pos 2 1 (by decide) (by decide) (by decide)
    have p23 : 0 ≤ f 2 3 := c.pos 2 3 (by decide) (by decide) (by decide)
    have p01 : 0 ≤ f 0 1 := c.pos 0 1 (by decide) (by decide) (by decide)
    have p02 : 0 ≤ f 0 2 := c.pos 0 2 (by decide) (by decide) (by decide)
    have p03 : 0 ≤ f 0 3 := c.pos 0 3 (by decide) (by decide) (by decide)
    have q0_3 : h 1 0 ≤ f 3 1 := c.mbL 0 (by decide) 3 (by decide)
    have q0_2 : h 1 0 ≤ f 2 1 := c.mbL 0 (by decide) 2 (by decide)
    have q0_0 : h 1 0 ≤ f 0 1 := c.mbL 0 (by decide) 0 (by decide)
    have N0 : h 1 0 = f 3 1 ∨ h 1 0 = f 2 1 ∨ h 1 0 = f 0 1 := by
      obtain ⟨s, hs, e⟩ := c.mbE 0 (by decide)
      simp at hs
      rcases hs with rfl | rfl | rfl <;> simp at e <;> simp [e]
    refine Int.le_antisymm ?_ ?_
    · clear N0
      rcases ua with e | e | e | e | e | e | e | e | e | e | e | e | e | e | e | e <;> omega
    · rcases N0 with N0' | N0' | N0' <;> omega
  rw [E]; exact U
theorem ctr_15 {f h : Nat → Nat → Int} {v : Int} (c : Ctr f h 4 [0, 1] [2, 3]) (H : LF h 3 0 v) : LF f 4 2 v := by
  obtain ⟨u, U⟩ := LF.exF f (n := 4) (r := 2) (by decide) (by decide)
  have E : v = u := by
    obtain ⟨hl, ha⟩ := ex_3_0.1 H
    obtain ⟨ul, ua⟩ := ex_4_2.1 U
    have z0 : f 0 1 = 0 := c.zero 0 (by decide)
    have z1 : f 1 0 = 0 := c.zero 1 (by decide)
    have p01 : 0 ≤ f 0 1 := c.pos 0 1 (by decide) (by decide) (by decide)
    have p02 : 0 ≤ f 0 2 := c.pos 0 2 (by decide) (by decide) (by decide)
    have p03 : 0 ≤ f 0 3 := c.pos 0 3 (by decide) (by decide) (by decide)
    have p10 : 0 ≤ f 1 0 := c.pos 1 0 (by decide) (by decide) (by decide)
    have p12 : 0 ≤ f 1 2 := c.pos 1 2 (by decide) (by decide) (by decide)
    have p13 : 0 ≤ f 1 3 := c.pos 1 3 (by decide) (by decide) (by decide)
    have b01 : h 0 1 = f 2 3 := c.bb 0 1 (by decide) (by decide) (by decide)
    have b10 : h 1 0 = f 3 2 := c.bb 1 0 (by decide) (by decide) (by decide)
    have l1_0 : h 1 2 ≤ f 3 0 := c.bmL 1 (by decide) 0 (by decide)
    have l1_1 : h 1 2 ≤ f 3 1 := c.bmL 1 (by decide) 1 (by decide)
    have M1 : h 1 2 = f 3 0 ∨ h 1 2 = f 3 1 := by
      obtain ⟨s, hs, e⟩ := c.bmE 1 (by decide)
      simp at hs
      rcases hs with rfl | rfl <;> simp at e <;> simp [e]
    have q0_0 : h 2 0 ≤ f 0 2 := c.mbL 0 (by decide) 0 (by decide)
    have q0_1 : h 2 0 ≤ f 1 2 := c.mbL 0 (by decide) 1 (by decide)
    have N0 : h 2 0 = f 0 2 ∨ h 2 0 = f 1 2 := by
      obtain ⟨s, hs, e⟩ := c.mbE 0 (by decide)
      simp at hs
      rcases hs with rfl | rfl <;> simp at e <;> simp [e]
    have q1_0 : h 2 1 ≤ f 0 3 := c.mbL 1 (by decide) 0 (by decide)
    have q1_1 : h 2 1 ≤ f 1 3 := c.mbL 1 (by decide) 1 (by decide)
    have N1 : h 2 1 = f 0 3 ∨ h 2 1 = f 1 3 := by
      obtain ⟨s, hs, e⟩ := c.mbE 1 (by decide)
      simp at hs
      rcases hs with rfl | rfl <;> simp at e <;> simp [e]
    refine Int.le_antisymm ?_ ?_
    · clear M1 N0 N1
      rcases ua with e | e | e | e | e | e | e | e | e | e | e | e | e | e | e | e <;> omega
    · rcases ha with e | e | e
      · clear M1 N1; rcases N0 with N0' | N0' <;> omega
      · clear M1 N0; rcases N1 with N1' | N1' <;> omega
      · clear N1; rcases M1 with M1' | M1' <;> rcases N0 with N0' | N0' <;> omega
  rw [E]; exact U
theorem ctr_16 {f h : Nat → Nat → Int} {v : Int} (c : Ctr f h 4 [1, 3, 0] [2]) (H : LF h 2 0 v) : LF f 4 2 v := by
  obtain ⟨u, U⟩ := LF.exF f (n := 4) (r := 2) (by decide) (by decide)
  have E : v = u := by
    obtain ⟨hl, ha⟩ := ex_2_0.1 H
    obtain ⟨ul, ua⟩ := ex_4_2.1 U
    have z0 : f 1 3 = 0 := c.zero 0 (by decide)
    have z1 : f 3 0 = 0 := c.zero 1 (by decide)
    have z2 : f 0 1 = 0 := c.zero 2 (by decide)
    have p10 : 0 ≤ f 1 0 := c.pos 1 0 (by decide) (by decide) (by decide)
    have p12 : 0 ≤ f 1 2 := c.pos 1 2 (by decide) (by decide) (by decide)
    have p13 : 0 ≤ f 1 3 := c.pos 1 3 (by decide) (by decide) (by decide)
    have p30 : 0 ≤ f 3 0 := c.pos 3 0 (by decide) (by decide) (by decide)
    have p31 : 0 ≤ f 3 1 := c.pos 3 1 (by decide) (by decide) (by decide)
    have p32 : 0 ≤ f 3 2 := c.pos 3 2 (by decide) (by decide) (by decide)
    have p01 : 0 ≤ f 0 1 := c.pos 0 1 (by decide) (by decide) (by decide)
    have p02 : 0 ≤ f 0 2 := c.pos 0 2 (by decide) (by decide) (by decide)
    have p03 : 0 ≤ f 0 3 := c.pos 0 3 (by decide) (by decide) (by decide)
    have q0_1 : h 1 0 ≤ f 1 2 := c.mbL 0 (by decide) 1 (by decide)
    have q0_3 : h 1 0 ≤ f 3 2 := c.mbL 0 (by decide) 3 (by decide)
    have q0_0 : h 1 0 ≤ f 0 2 := c.mbL 0 (by decide) 0 (by decide)
    have N0 : h 1 0 = f 1 2 ∨ h 1 0 = f 3 2 ∨ h 1 0 = f 0 2 := by
      obtain ⟨s, hs, e⟩ := c.mbE 0 (by decide)
      simp at hs
      rcases hs with rfl | rfl | rfl <;> simp at e <;> simp [e]
    refine Int.le_antisymm ?_ ?_
    · clear N0
      rcases ua with e | e | e | e | e | e | e | e | e | e | e | e | e | e | e | e <;> omega
    · rcases N0 with N0' | N0' | N0' <;> omega
  rw [E]; exact U
theorem ctr_17 {f h : Nat → Nat → Int} {v : Int} (c : Ctr f h 4 [3, 1] [0, 2]) (H : LF h 3 1 v) : LF f 4 2 v := by
  obtain ⟨u, U⟩ := LF.exF f (n := 4) (r := 2) (by decide) (by decide)
  have E : v = u := by
    obtain ⟨hl, ha⟩ := ex_3_1.1 H
    obtain ⟨ul, ua⟩ := ex_4_2.1 U
    have z0 : f 3 1 = 0 := c.zero 0 (by decide)
    have z1 : f 1 3 = 0 := c.zero 1 (by decide)
    have p30 : 0 ≤ f 3 0 := c.pos 3 0 (by decide) (by decide) (by decide)
    have p31 : 0 ≤ f 3 1 := c.pos 3 1 (by decide) (by decide) (by decide)
    have p32 : 0 ≤ f 3 2 := c.pos 3 2 (by decide) (by decide) (by decide)
    have p10 : 0 ≤ f 1 0 := c.pos 1 0 (by decide) (by decide) (by decide)
    have p12 : 0 ≤ f 1 2 := c.pos 1 2 (by decide) (by decide) (by decide)
    have p13 : 0 ≤ f 1 3 := c.pos 1 3 (by decide) (by decide) (by decide)
    have b01 : h 0 1 = f 0 2 := c.bb 0 1 (by decide) (by decide) (by decide)
    have b10 : h 1 0 = f 2 0 := c.bb 1 0 (by decide) (by decide) (by decide)
    have l0_3 : h 0 2 ≤ f 0 3 := c.bmL 0 (by decide) 3 (by decide)
    have l0_1 : h 0 2 ≤ f 0 1 := c.bmL 0 (by decide) 1 (by decide)
    have M0 : h 0 2 = f 0 3 ∨ h 0 2 = f 0 1 := by
      obtain ⟨s, hs, e⟩ := c.bmE 0 (by decide)
      simp at hs
      rcases hs with rfl | rfl <;> simp at e <;> simp [e]
    have q0_3 : h 2 0 ≤ f 3 0 := c.mbL 0 (by decide) 3 (by decide)
    have q0_1 : h 2 0 ≤ f 1 0 := c.mbL 0 (by decide) 1 (by decide)
    have N0 : h 2 0 = f 3 0 ∨ h 2 0 = f 1 0 := by
      obtain ⟨s, hs, e⟩ := c.mbE 0 (by decide)
      simp at hs
      rcases hs with rfl | rfl <;> simp at e <;> simp [e]
    have q1_3 : h 2 1 ≤ f 3 2 := c.mbL 1 (by decide) 3 (by decide)
    have q1_1 : h 2 1 ≤ f 1 2 := c.mbL 1 (by decide) 1 (by decide)
    have N1 : h 2 1 = f 3 2 ∨ h 2 1 = f 1 2 := by
      obtain ⟨s, hs, e⟩ := c.mbE 1 (by decide)
      simp at hs
      rcases hs with rfl | rfl <;> simp at e <;> simp [e]
    refine Int.le_antisymm ?_ ?_
    · clear M0 N0 N1
      rcases ua with e | e | e | e | e | e | e | e | e | e | e | e | e | e | e | e <;> omega
    · rcases ha with e | e | e
      · clear M0 N1; rcases N0 with N0' | N0' <;> omega
      · clear M0 N0; rcases N1 with N1' | N1' <;> omega
      · clear N0; rcases M0 with M0' | M0' <;> rcases N1 with N1' | N1' <;> omega
  rw [E]; exact U
theorem ctr_18 {f h : Nat → Nat → Int} {v : Int} (c : Ctr f h 4 [1, 3] [0, 2]) (H : LF h 3 1 v) : LF f 4 2 v := by
  obtain ⟨u, U⟩ := LF.exF f (n := 4) (r := 2) (by decide) (by decide)
  have E : v = u := by
    obtain ⟨hl, ha⟩ := ex_3_1.1 H
    obtain ⟨ul, ua⟩ := ex_4_2.1 U
    have z0 : f 1 3 = 0 := c.zero 0 (by decide)
    have z1 : f 3 1 = 0 := c.zero 1 (by decide)
    have p10 : 0 ≤ f 1 0 := c.pos 1 0 (by decide) (by decide) (by decide)
    have p12 : 0 ≤ f 1 2 := c.pos 1 2 (by decide) (by decide) (by decide)
    have p13 : 0 ≤ f 1 3 := c.pos 1 3 (by decide) (by decide) (by decide)
    have p30 : 0 ≤ f 3 0 := c.pos 3 0 (by decide) (by decide) (by decide)
    have p31 : 0 ≤ f 3 1 := c.pos 3 1 (by decide) (by decide) (by decide)
    have p32 : 0 ≤ f 3 2 := c.pos 3 2 (by decide) (by decide) (by decide)
    have b01 : h 0 1 = f 0 2 := c.bb 0 1 (by decide) (by decide) (by decide)
    have b10 : h 1 0 = f 2 0 := c.bb 1 0 (by decide) (by decide) (by decide)
    have l0_1 : h 0 2 ≤ f 0 1 := c.bmL 0 (by decide) 1 (by decide)
    have l0_3 : h 0 2 ≤ f 0 3 := c.bmL 0 (by decide) 3 (by decide)
    have M0 : h 0 2 = f 0 1 ∨ h 0 2 = f 0 3 := by
      obtain ⟨s, hs, e⟩ := c.bmE 0 (by decide)
      simp at hs
      rcases hs with rfl | rfl <;> simp at e <;> simp [e]
    have q0_1 : h 2 0 ≤ f 1 0 := c.mbL 0 (by decide) 1 (by decide)
    have q0_3 : h 2 0 ≤ f 3 0 := c.mbL 0 (by decide) 3 (by decide)
    have N0 : h 2 0 = f 1 0 ∨ h 2 0 = f 3 0 := by
      obtain ⟨s, hs, e⟩ := c.mbE 0 (by decide)
      simp at hs
      rcases hs with rfl | rfl <;> simp at e <;> simp [e]
    have q1_1 : h 2 1 ≤ f 1 2 := c.mbL 1 (by decide) 1 (by decide)
    have q1_3 : h 2 1 ≤ f 3 2 := c.mbL 1 (by decide) 3 (by decide)
    have N1 : h 2 1 = f 1 2 ∨ h 2 1 = f 3 2 := by
      obtain ⟨s, hs, e⟩ := c.mbE 1 (by decide)
      simp at hs
      rcases hs with rfl | rfl <;> simp at e <;> simp [e]
    refine Int.le_antisymm ?_ ?_
    · clear M0 N0 N1
      rcases ua with e | e | e | e | e | e | e | e | e | e | e | e | e | e | e | e <;> omega
    · rcases ha with e | e | e
      · clear M0 N1; rcases N0 with N0' | N0' <;> omega
      · clear M0 N0; rcases N1 with N1' | N1' <;> omega
      · clear N0; rcases M0 with M0' | M0' <;> rcases N1 with N1' | N1' <;> omega
  rw [E]; exact U
theorem ctr_19 {f h : Nat → Nat → Int} {v : Int} (c : Ctr f h 4 [0, 3] [1, 2]) (H : LF h 3 1 v) : LF f 4 2 v := by
  obtain ⟨u, U⟩ := LF.exF f (n := 4) (r := 2) (by decide) (by decide)
  have E : v = u := by
    obtain ⟨hl, ha⟩ := ex_3_1.1 H
    obtain ⟨ul, ua⟩ := ex_4_2.1 U
    have z0 : f 0 3 = 0 := c.zero 0 (by decide)
    have z1 : f 3 0 = 0 := c.zero 1 (by decide)
    have p01 : 0 ≤ f 0 1 := c.pos 0 1 (by decide) (by decide) (by decide)
    have p02 : 0 ≤ f 0 2 := c.pos 0 2 (by decide) (by decide) (by decide)
    have p03 : 0 ≤ f 0 3 := c.pos 0 3 (by decide) (by decide) (by decide)
    have p30 : 0 ≤ f 3 0 := c.pos 3 0 (by decide) (by decide) (by decide)
    have p31 : 0 ≤ f 3 1 := c.pos 3 1 (by decide) (by decide) (by decide)
    have p32 : 0 ≤ f 3 2 := c.pos 3 2 (by decide) (by decide) (by decide)
    have b01 : h 0 1 = f 1 2 := c.bb 0 1 (by decide) (by decide) (by decide)
    have b10 : h 1 0 = f 2 1 := c.bb 1 0 (by decide) (by decide) (by decide)
    have l0_0 : h 0 2 ≤ f 1 0 := c.bmL 0 (by decide) 0 (by decide)
    have l0_3 : h 0 2 ≤ f 1 3 := c.bmL 0 (by decide) 3 (by decide)
    have M0 : h 0 2 = f 1 0 ∨ h 0 2 = f 1 3 := by
      obtain ⟨s, hs, e⟩ := c.bmE 0 (by decide)
      simp at hs
      rcases hs with rfl | rfl <;> simp at e <;> simp [e]
    have q0_0 : h 2 0 ≤ f 0 1 := c.mbL 0 (by decide) 0 (by decide)
    have q0_3 : h 2 0 ≤ f 3 1 := c.mbL 0 (by decide) 3 (by decide)
    have N0 : h 2 0 = f 0 1 ∨ h 2 0 = f 3 1 := by
      obtain ⟨s, hs, e⟩ := c.mbE 0 (by decide)
      simp at hs
      rcases hs with rfl | rfl <;> simp at e <;> simp [e]
    have q1_0 : h 2 1 ≤ f 0 2 := c.mbL 1 (by decide) 0 (by decide)
    have q1_3 : h 2 1 ≤ f 3 2 := c.mbL 1 (by decide) 3 (by decide)
    have N1 : h 2 1 = f 0 2 ∨ h 2 1 = f 3 2 := by
      obtain ⟨s, hs, e⟩ := c.mbE 1 (by decide)
      simp at hs
      rcases hs with rfl | rfl <;> simp at e <;> simp [e]
    refine Int.le_antisymm ?_ ?_
    · clear M0 N0 N1
      rcases ua with e | e | e | e | e | e | e | e | e | e | e | e | e | e | e | e <;> omega
    · rcases ha with e | e | e
      · clear M0 N1; rcases N0 with N0' | N0' <;> omega
      · clear M0 N0; rcases N1 with N1' | N1' <;> omega
      · clear N0; rcases M0 with M0' | M0' <;> rcases N1 with N1' | N1' <;> omega
  rw [E]; exact U
theorem ctr_20 {f h : Nat → Nat → Int} {v : Int} (c : Ctr f h 4 [3, 1, 0] [2]) (H : LF h 2 0 v) : LF f 4 2 v := by
  obtain ⟨u, U⟩ := LF.exF f (n := 4) (r := 2) (by decide) (by decide)
  have E : v = u := by
    obtain ⟨hl, ha⟩ := ex_2_0.1 H
    obtain ⟨ul, ua⟩ := ex_4_2.1 U
    have z0 : f 3 1 = 0 := c.zero 0 (by decide)
    have z1 : f 1 0 = 0 := c.zero 1 (by decide)
    have z2 : f 0 3 = 0 := c.zero 2 (by decide)
    have p30 : 0 ≤ f 3 0 := c.pos 3 0 (by decide) (by decide) (by decide)
    have p31 : 0 ≤ f 3 1 := c.pos 3 1 (by decide) (by decide) (by decide)
    have p32 : 0 ≤ f 3 2 := c.pos 3 2 (by decide) (by decide) (by decide)
    have p10 : 0 ≤ f 1 0 := c.pos 1 0 (by decide) (by decide) (by decide)
    have p12 : 0 ≤ f 1 2 := c.pos 1 2 (by decide) (by decide) (by decide)
    have p13 : 0 ≤ f 1 3 := c.pos 1 3 (by decide) (by decide) (by decide)
    have p01 : 0 ≤ f 0 1 := c.pos 0 1 (by decide) (by decide) (by decide)
    have p02 : 0 ≤ f 0 2 := c.pos 0 2 (by decide) (by decide) (by decide)
    have p03 : 0 ≤ f 0 3 := c.pos 0 3 (by decide) (by decide) (by decide)
    have q0_3 : h 1 0 ≤ f 3 2 := c.mbL 0 (by decide) 3 (by decide)
    have q0_1 : h 1 0 ≤ f 1 2 := c.mbL 0 (by decide) 1 (by decide)
    have q0_0 : h 1 0 ≤ f 0 2 := c.mbL 0 (by decide) 0 (by decide)
    have N0 : h 1 0 = f 3 2 ∨ h 1 0 = f 1 2 ∨ h 1 0 = f 0 2 := by
      obtain ⟨s, hs, e⟩ := c.mbE 0 (by decide)
      simp at hs
      rcases hs with rfl | rfl | rfl <;> simp at e <;> simp [e]
    refine Int.le_antisymm ?_ ?_
    · clear N0
      rcases ua with e | e | e | e | e | e | e | e | e | e | e | e | e | e | e | e <;> omega
    · rcases N0 with N0' | N0' | N0' <;> omega
  rw [E]; exact U
theorem ctr_21 {f h : Nat → Nat → Int} {v : Int} (c : Ctr f h 4 [0, 1] [2, 3]) (H : LF h 3 1 v) : LF f 4 3 v := by
  obtain ⟨u, U⟩ := LF.exF f (n := 4) (r := 3) (by decide) (by decide)
  have E : v = u := by
    obtain ⟨hl, ha⟩ := ex_3_1.1 H
    obtain ⟨ul, ua⟩ := ex_4_3.1 U
    have z0 : f 0 1 = 0 := c.zero 0 (by decide)
    have z1 : f 1 0 = 0 := c.zero 1 (by decide)
    have p01 : 0 ≤ f 0 1 := c.pos 0 1 (by decide) (by decide) (by decide)
    have p02 : 0 ≤ f 0 2 := c.pos 0 2 (by decide) (by decide) (by decide)
    have p03 : 0 ≤ f 0 3 := c.pos 0 3 (by decide) (by decide) (by decide)
    have p10 : 0 ≤ f 1 0 := c.pos 1 0 (by decide) (by decide) (by decide)
    have p12 : 0 ≤ f 1 2 := c.pos 1 2 (by decide) (by decide) (by decide)
    have p13 : 0 ≤ f 1 3 := c.pos 1 3 (by decide) (by decide) (by decide)
    have b01 : h 0 1 = f 2 3 := c.bb 0 1 (by decide) (by decide) (by decide)
    have b10 : h 1 0 = f 3 2 := c.bb 1 0 (by decide) (by decide) (by decide)
    have l0_0 : h 0 2 ≤ f 2 0 := c.bmL 0 (by decide) 0 (by decide)
    have l0_1 : h 0 2 ≤ f 2 1 := c.bmL 0 (by decide) 1 (by decide)
    have M0 : h 0 2 = f 2 0 ∨ h 0 2 = f 2 1 := by
      obtain ⟨s, hs, e⟩ := c.bmE 0 (by decide)
      simp at hs
      rcases hs with rfl | rfl <;> simp at e <;> simp [e]
    have q0_0 : h 2 0 ≤ f 0 2 := c.mbL 0 (by decide) 0 (by decide)
    have q0_1 : h 2 0 ≤ f 1 2 := c.mbL 0 (by decide) 1 (by decide)
    have N0 : h 2 0 = f 0 2 ∨ h 2 0 = f 1 2 := by
      obtain ⟨s, hs, e⟩ := c.mbE 0 (by decide)
      simp at hs
      rcases hs with rfl | rfl <;> simp at e <;> simp [e]
    have q1_0 : h 2 1 ≤ f 0 3 := c.mbL 1 (by decide) 0 (by decide)
    have q1_1 : h 2 1 ≤ f 1 3 := c.mbL 1 (by decide) 1 (by decide)
    have N1 : h 2 1 = f 0 3 ∨ h 2 1 = f 1 3 := by
      obtain ⟨s, hs, e⟩ := c.mbE 1 (by decide)
      simp at hs
      rcases hs with rfl | rfl <;> simp at e <;> simp [e]
    refine Int.le_antisymm ?_ ?_
    · clear M0 N0 N1
      rcases ua with e | e | e | e | e | e | e | e | e | e | e | e | e | e | e | e <;> omega
    · rcases ha with e | e | e
      · clear M0 N1; rcases N0 with N0' | N0' <;> omega
      · clear M0 N0; rcases N1 with N1' | N1' <;> omega
      · clear N0; rcases M0 with M0' | M0' <;> rcases N1 with N1' | N1' <;> omega
  rw [E]; exact U
theorem ctr_22 {f h : Nat → Nat → Int} {v : Int} (c : Ctr f h 4 [1, 2, 0] [3]) (H : LF h 2 0 v) : LF f 4 3 v := by
  obtain ⟨u, U⟩ := LF.exF f (n := 4) (r := 3) (by decide) (by decide)
  have E : v = u := by
    obtain ⟨hl, ha⟩ := ex_2_0.1 H
    obtain ⟨ul, ua⟩ := ex_4_3.1 U
    have z0 : f 1 2 = 0 := c.zero 0 (by decide)
    have z1 : f 2 0 = 0 := c.zero 1 (by decide)
    have z2 : f 0 1 = 0 := c.zero 2 (by decide)
    have p10 : 0 ≤ f 1 0 := c.pos 1 0 (by decide) (by decide) (by decide)
    have p12 : 0 ≤ f 1 2 := c.pos 1 2 (by decide) (by decide) (by decide)
    have p13 : 0 ≤ f 1 3 := c.pos 1 3 (by decide) (by decide) (by decide)
    have p20 : 0 ≤ f 2 0 := c.pos 2 0 (by decide) (by decide) (by decide)
    have p21 : 0 ≤ f 2 1 := c.pos 2 1 (by decide) (by decide) (by decide)
    have p23 : 0 ≤ f 2 3 := c.pos 2 3 (by decide) (by decide) (by decide)
    have p01 : 0 ≤ f 0 1 := c.pos 0 1 (by decide) (by decide) (by decide)
    have p02 : 0 ≤ f 0 2 := c.pos 0 2 (by decide) (by decide) (by decide)
    have p03 : 0 ≤ f 0 3 := c.pos 0 3 (by decide) (by decide) (by decide)
    have q0_1 : h 1 0 ≤ f 1 3 := c.mbL 0 (by decide) 1 (by decide)
    have q0_2 : h 1 0 ≤ f 2 3 := c.mbL 0 (by decide) 2 (by decide)
    have q0_0 : h 1 0 ≤ f 0 3 := c.mbL 0 (by decide) 0 (by decide)
    have N0 : h 1 0 = f 1 3 ∨ h 1 0 = f 2 3 ∨ h 1 0 = f 0 3 := by
      obtain ⟨s, hs, e⟩ := c.mbE 0 (by decide)
      simp at hs
      rcases hs with rfl | rfl | rfl <;> simp at e <;> simp [e]
    refine Int.le_antisymm ?_ ?_
    · clear N0
      rcases ua with e | e | e | e | e | e | e | e | e | e | e | e | e | e | e | e <;> omega
    · rcases N0 with N0' | N0' | N0' <;> omega
  rw [E]; exact U
theorem ctr_23 {f h : Nat → Nat → Int} {v : Int} (c : Ctr f h 4 [2, 1] [0, 3]) (H : LF h 3 1 v) : LF f 4 3 v := by
  obtain ⟨u, U⟩ := LF.exF f (n := 4) (r := 3) (by decide) (by decide)
  have E : v = u := by
    obtain ⟨hl, ha⟩ := ex_3_1.1 H
    obtain ⟨ul, ua⟩ := ex_4_3.1 U
    have z0 : f 2 1 = 0 := c.zero 0 (by decide)
    have z1 : f 1 2 = 0 := c.zero 1 (by decide)
    have p20 : 0 ≤ f 2 0 := c.pos 2 0 (by decide) (by decide) (by decide)
    have p21 : 0 ≤ f 2 1 := c.pos 2 1 (by decide) (by decide) (by decide)
    have p23 : 0 ≤ f 2 3 := c.pos 2 3 (by decide) (by decide) (by decide)
    have p10 : 0 ≤ f 1 0 := c.pos 1 0 (by decide) (by decide) (by decide)
    have p12 : 0 ≤ f 1 2 := c.pos 1 2 (by decide) (by decide) (by decide)
    have p13 : 0 ≤ f 1 3 := c.pos 1 3 (by decide) (by decide) (by decide)
    have b01 : h 0 1 = f 0 3 := c.bb 0 1 (by decide) (by decide) (by decide)
    have b10 : h 1 0 = f 3 0 := c.bb 1 0 (by decide) (by decide) (by decide)
    have l0_2 : h 0 2 ≤ f 0 2 := c.bmL 0 (by decide) 2 (by decide)
    have l0_1 : h 0 2 ≤ f 0 1 := c.bmL 0 (by decide) 1 (by decide)
    have M0 : h 0 2 = f 0 2 ∨ h 0 2 = f 0 1 := by
      obtain ⟨s, hs, e⟩ := c.bmE 0 (by decide)
      simp at hs
      rcases hs with rfl | rfl <;> simp at e <;> simp [e]
    have q0_2 : h 2 0 ≤ f 2 0 := c.mbL 0 (by decide) 2 (by decide)
    have q0_1 : h 2 0 ≤ f 1 0 := c.mbL 0 (by decide) 1 (by decide)
    have N0 : h 2 0 = f 2 0 ∨ h 2 0 = f 1 0 := by
      obtain ⟨s, hs, e⟩ := c.mbE 0 (by decide)
      simp at hs
      rcases hs with rfl | rfl <;> simp at e <;> simp [e]
    have q1_2 : h 2 1 ≤ f 2 3 := c.mbL 1 (by decide) 2 (by decide)
    have q1_1 : h 2 1 ≤ f 1 3 := c.mbL 1 (by decide) 1 (by decide)
    have N1 : h 2 1 = f 2 3 ∨ h 2 1 = f 1 3 := by
      obtain ⟨s, hs, e⟩ := c.mbE 1 (by decide)
      simp at hs
      rcases hs with rfl | rfl <;> simp at e <;> simp [e]
    refine Int.le_antisymm ?_ ?_
    · clear M0 N0 N1
      rcases ua with e | e | e | e | e | e | e | e | e | e | e | e | e | e | e | e <;> omega
    · rcases ha with e | e | e
      · clear M0 N1; rcases N0 with N0' | N0' <;> omega
      · clear M0 N0; rcases N1 with N1' | N1' <;> omega
      · clear N0; rcases M0 with M0' | M0' <;> rcases N1 with N1' | N1' <;> omega
  rw [E]; exact U
theorem ctr_24 {f h : Nat → Nat → Int} {v : Int} (c : Ctr f h 4 [0, 2] [1, 3]) (H : LF h 3 1 v) : LF f 4 3 v := by
  obtain ⟨u, U⟩ := LF.exF f (n := 4) (r := 3) (by decide) (by decide)
  have E : v = u := by
    obtain ⟨hl, ha⟩ := ex_3_1.1 H
    obtain ⟨ul, ua⟩ := ex_4_3.1 U
    have z0 : f 0 2 = 0 := c.zero 0 (by decide)
    have z1 : f 2 0 = 0 := c.zero 1 (by decide)
    have p01 : 0 ≤ f 0 1 := c.pos 0 1 (by decide) (by decide) (by decide)
    have p02 : 0 ≤ f 0 2 := c.pos 0 2 (by decide) (by decide) (by decide)
    have p03 : 0 ≤ f 0 3 := c.pos 0 3 (by decide) (by decide) (by decide)
    have p20 : 0 ≤ f 2 0 := c.pos 2 0 (by decide) (by decide) (by decide)
    have p21 : 0 ≤ f 2 1 := c.pos 2 1 (by decide) (by decide) (by decide)
    have p23 : 0 ≤ f 2 3 := c.pos 2 3 (by decide) (by decide) (by decide)
    have b01 : h 0 1 = f 1 3 := c.bb 0 1 (by decide) (by decide) (by decide)
    have b10 : h 1 0 = f 3 1 := c.bb 1 0 (by decide) (by decide) (by decide)
    have l0_0 : h 0 2 ≤ f 1 0 := c.bmL 0 (by decide) 0 (by decide)
    have l0_2 : h 0 2 ≤ f 1 2 := c.bmL 0 (by decide) 2 (by decide)
    have M0 : h 0 2 = f 1 0 ∨ h 0 2 = f 1 2 := by
      obtain ⟨s, hs, e⟩ := c.bmE 0 (by decide)
      simp at hs
      rcases hs with rfl | rfl <;> simp at e <;> simp [e]
    have q0_0 : h 2 0 ≤ f 0 1 := c.mbL 0 (by decide) 0 (by decide)
    have q0_2 : h 2 0 ≤ f 2 1 := c.mbL 0 (by decide) 2 (by decide)
    have N0 : h 2 0 = f 0 1 ∨ h 2 0 = f 2 1 := by
      obtain ⟨s, hs, e⟩ := c.mbE 0 (by decide)
      simp at hs
      rcases hs with rfl | rfl <;> simp at e <;> simp [e]
    have q1_0 : h 2 1 ≤ f 0 3 := c.mbL 1 (by decide) 0 (by decide)
    have q1_2 : h 2 1 ≤ f 2 3 := c.mbL 1 (by decide) 2 (by decide)
    have N1 : h 2 1 = f 0 3 ∨ h 2 1 = f 2 3 := by
      obtain ⟨s, hs, e⟩ := c.mbE 1 (by decide)
      simp at hs
      rcases hs with rfl | rfl <;> simp at e <;> simp [e]
    refine Int.le_antisymm ?_ ?_
    · clear M0 N0 N1
      rcases ua with e | e | e | e | e | e | e | e | e | e | e | e | e | e | e | e <;> omega
    · rcases ha with e | e | e
      · clear M0 N1; rcases N0 with N0' | N0' <;> omega
      · clear M0 N0; rcases N1 with N1' | N1' <;> omega
      · clear N0; rcases M0 with M0' | M0' <;> rcases N1 with N1' | N1' <;> omega
  rw [E]; exact U
theorem ctr_25 {f h : Nat → Nat → Int} {v : Int} (c : Ctr f h 4 [2, 1, 0] [3]) (H : LF h 2 0 v) : LF f 4 3 v := by
  obtain ⟨u, U⟩ := LF.exF f (n := 4) (r := 3) (by decide) (by decide)
  have E : v = u := by
    obtain ⟨hl, ha⟩ := ex_2_0.1 H
    obtain ⟨ul, ua⟩ := ex_4_3.1 U
    have z0 : f 2 1 = 0 := c.zero 0 (by decide)
    have z1 : f 1 0 = 0 := c.zero 1 (by decide)
    have z2 : f 0 2 = 0 := c.zero 2 (by decide)
    have p20 : 0 ≤ f 2 0 := c.pos 2 0 (by decide) (by decide) (by decide)
    have p21 : 0 ≤ f 2 1 := c.pos 2 1 (by decide) (by decide) (by decide)
    have p23 : 0 ≤ f 2 3 := c.pos 2 3 (by decide) (by decide) (by decide)
    have p10 : 0 ≤ f 1 0 := c.pos 1 0 (by decide) (by decide) (by decide)
    have p12 : 0 ≤ f 1 2 := c.pos 1 2 (by decide) (by decide) (by decide)
    have p13 : 0 ≤ f 1 3 := c.pos 1 3 (by decide) (by decide) (by decide)
    have p01 : 0 ≤ f 0 1 := c.pos 0 1 (by decide) (by decide) (by decide)
    have p02 : 0 ≤ f 0 2 := c.pos 0 2 (by decide) (by decide) (by decide)
    have p03 : 0 ≤ f 0 3 := c.pos 0 3 (by decide) (by decide) (by decide)
    have q0_2 : h 1 0 ≤ f 2 3 := c.mbL 0 (by decide) 2 (by decide)
    have q0_1 : h 1 0 ≤ f 1 3 := c.mbL 0 (by decide) 1 (by decide)
    have q0_0 : h 1 0 ≤ f 0 3 := c.mbL 0 (by decide) 0 (by decide)
    have N0 : h 1 0 = f 2 3 ∨ h 1 0 = f 1 3 ∨ h 1 0 = f 0 3 := by
      obtain ⟨s, hs, e⟩ := c.mbE 0 (by decide)
      simp at hs
      rcases hs with rfl | rfl | rfl <;> simp at e <;> simp [e]
    refine Int.le_antisymm ?_ ?_
    · clear N0
      rcases ua with e | e | e | e | e | e | e | e | e | e | e | e | e | e | e | e <;> omega
    · rcases N0 with N0' | N0' | N0' <;> omega
  rw [E]; exact U
theorem ctr_26 {f h : Nat → Nat → Int} {v : Int} (c : Ctr f h 4 [1, 2] [0, 3]) (H : LF h 3 1 v) : LF f 4 3 v := by
  obtain ⟨u, U⟩ := LF.exF f (n := 4) (r := 3) (by decide) (by decide)
  have E : v = u := by
    obtain ⟨hl, ha⟩ := ex_3_1.1 H
    obtain ⟨ul, ua⟩ := ex_4_3.1 U
    have z0 : f 1 2 = 0 := c.zero 0 (by decide)
    have z1 : f 2 1 = 0 := c.zero 1 (by decide)
    have p10 : 0 ≤ f 1 0 := c.pos 1 0 (by decide) (by decide) (by decide)
    have p12 : 0 ≤ f 1 2 := c.pos 1 2 (by decide) (by decide) (by decide)
    have p13 : 0 ≤ f 1 3 := c.pos 1 3 (by decide) (by decide) (by decide)
    have p20 : 0 ≤ f 2 0 := c.pos 2 0 (by decide) (by decide) (by decide)
    have p21 : 0 ≤ f 2 1 := c.pos 2 1 (by decide) (by decide) (by decide)
    have p23 : 0 ≤ f 2 3 := c.pos 2 3 (by decide) (by decide) (by decide)
    have b01 : h 0 1 = f 0 3 := c.bb 0 1 (by decide) (by decide) (by decide)
    have b10 : h 1 0 = f 3 0 := c.bb 1 0 (by decide) (by decide) (by decide)
    have l0_1 : h 0 2 ≤ f 0 1 := c.bmL 0 (by decide) 1 (by decide)
    have l0_2 : h 0 2 ≤ f 0 2 := c.bmL 0 (by decide) 2 (by decide)
    have M0 : h 0 2 = f 0 1 ∨ h 0 2 = f 0 2 := by
      obtain ⟨s, hs, e⟩ := c.bmE 0 (by decide)
      simp at hs
      rcases hs with rfl | rfl <;> simp at e <;> simp [e]
    have q0_1 : h 2 0 ≤ f 1 0 := c.mbL 0 (by decide) 1 (by decide)
    have q0_2 : h 2 0 ≤ f 2 0 := c.mbL 0 (by decide) 2 (by decide)
    have N0 : h 2 0 = f 1 0 ∨ h 2 0 = f 2 0 := by
      obtain ⟨s, hs, e⟩ := c.mbE 0 (by decide)
      simp at hs
      rcases hs with rfl | rfl <;> simp at e <;> simp [e]
    have q1_1 : h 2 1 ≤ f 1 3 := c.mbL 1 (by decide) 1 (by decide)
    have q1_2 : h 2 1 ≤ f 2 3 := c.mbL 1 (by decide) 2 (by decide)
    have N1 : h 2 1 = f 1 3 ∨ h 2 1 = f 2 3 := by
      obtain ⟨s, hs, e⟩ := c.mbE 1 (by decide)
      simp at hs
      rcases hs with rfl | rfl <;> simp at e <;> simp [e]
    refine Int.le_antisymm ?_ ?_
    · clear M0 N0 N1
      rcases ua with e | e | e | e | e | e | e | e | e | e | e | e | e | e | e | e <;> omega
    · rcases ha with e | e | e
      · clear M0 N1; rcases N0 with N0' | N0' <;> omega
      · clear M0 N0; rcases N1 with N1' | N1' <;> omega
      · clear N0; rcases M0 with M0' | M0' <;> rcases N1 with N1' | N1' <;> omega
  rw [E]; exact U
def shapes : List (Nat × Nat × Nat × List Nat × List Nat) := [(3, 0, 0, [2, 1], [0]), (3, 1, 0, [2, 0], [1]), (3, 2, 0, [1, 0], [2]), (4, 0, 0, [2, 3], [0, 1]), (4, 0, 0, [1, 2], [0, 3]), (4, 0, 0, [2, 3, 1], [0]), (4, 0, 0, [3, 2], [0, 1]), (4, 0, 0, [1, 3], [0, 2]), (4, 0, 0, [3, 2, 1], [0]), (4, 1, 1, [2, 3], [0, 1]), (4, 1, 0, [0, 2], [1, 3]), (4, 1, 0, [2, 3, 0], [1]), (4, 1, 1, [3, 2], [0, 1]), (4, 1, 0, [0, 3], [1, 2]), (4, 1, 0, [3, 2, 0], [1]), (4, 2, 0, [0, 1], [2, 3]), (4, 2, 0, [1, 3, 0], [2]), (4, 2, 1, [3, 1], [0, 2]), (4, 2, 1, [1, 3], [0, 2]), (4, 2, 1, [0, 3], [1, 2]), (4, 2, 0, [3, 1, 0], [2]), (4, 3, 1, [0, 1], [2, 3]), (4, 3, 0, [1, 2, 0], [3]), (4, 3, 1, [2, 1], [0, 3]), (4, 3, 1, [0, 2], [1, 3]), (4, 3, 0, [2, 1, 0], [3]), (4, 3, 1, [1, 2], [0, 3])]
theorem ctr {f h : Nat → Nat → Int} {v : Int} {n r x0 : Nat} {ring oth : List Nat} (hs : (n, r, x0, ring, oth) ∈ shapes) (c : Ctr f h n ring oth) (H : LF h (oth.length + 1) x0 v) : LF f n r v := by
  simp only [shapes, List.mem_cons, List.not_mem_nil, or_false, Prod.mk.injEq] at hs
  rcases hs with ⟨rfl, rfl, rfl, rfl, rfl⟩ | ⟨rfl, rfl, rfl, rfl, rfl⟩ | ⟨rfl, rfl, rfl, rfl, rfl⟩ | ⟨rfl, rfl, rfl, rfl, rfl⟩ | ⟨rfl, rfl, rfl, rfl, rfl⟩ | ⟨rfl, rfl, rfl, rfl, rfl⟩ | ⟨rfl, rfl, rfl, rfl, rfl⟩ | ⟨rfl, rfl, rfl, rfl, rfl⟩ | ⟨rfl, rfl, rfl, rfl, rfl⟩ | ⟨rfl, rfl, rfl, rfl, rfl⟩ | ⟨rfl, rfl, rfl, rfl, rfl⟩ | ⟨rfl, rfl, rfl, rfl, rfl⟩ | ⟨rfl, rfl, rfl, rfl, rfl⟩ | ⟨rfl, rfl, rfl, rfl, rfl⟩ | ⟨rfl, rfl, rfl, rfl, rfl⟩ | ⟨rfl, rfl, rfl, rfl, rfl⟩ | ⟨rfl, rfl, rfl, rfl, rfl⟩ | ⟨rfl, rfl, rfl, rfl, rfl⟩ | ⟨rfl, rfl, rfl, rfl, rfl⟩ | ⟨rfl, rfl, rfl, rfl, rfl⟩ | ⟨rfl, rfl, rfl, rfl, rfl⟩ | ⟨rfl, rfl, rfl, rfl, rfl⟩ | ⟨rfl, rfl, rfl, rfl, rfl⟩ | ⟨rfl, rfl, rfl, rfl, rfl⟩ | ⟨rfl, rfl, rfl, rfl, rfl⟩ | ⟨rfl, rfl, rfl, rfl, rfl⟩ | ⟨rfl, rfl, rfl, rfl, rfl⟩
  · exact ctr_0 c H
  · exact ctr_1 c H
  · exact ctr_2 c H
  · exact ctr_3 c H
  · exact ctr_4 c H
  · exact ctr_5 c H
  · exact ctr_6 c H
  · exact ctr_7 c H
  · exact ctr_8 c H
  · exact ctr_9 c H
  · exact ctr_10 c H
  · exact ctr_11 c H
  · exact ctr_12 c H
  · exact ctr_13 c H
  · exact ctr_14 c H
  · exact ctr_15 c H
  · exact ctr_16 c H
  · exact ctr_17 c H
  · exact ctr_18 c H
  · exact ctr_19 c H
  · exact ctr_20 c H
  · exact ctr_21 c H
  · exact ctr_22 c H
  · exact ctr_23 c H
  · exact ctr_24 c H
  · exact ctr_25 c H
  · exact ctr_26 c H
/-- The states that are not in a round. -/
def othL (ring : List Int) (n : Nat) : List Nat := (List.range n).filter fun s => !(ring.contains (s : Int))
def natL (l : List Int) : List Nat := l.map Int.toNat
theorem shapes_dec : ((List.range 5).all fun n => (allW n n).all fun t => (List.range n).all fun r => gi t r != (r : Int) || (List.range n).any (fun i => i != r && gi t i == (i : Int)) || ldB t r ||
    (shapes.contains (n, r, (othL (raL t r n) n).idxOf r, natL (raL t r n), othL (raL t r n) n))) = true := by decide +kernel
theorem shape_of {n r : Nat} {t : List Int} (h4 : n ≤ 4) (hl : t.length = n) (h : InB t) (hr : r < n) (e : gi t r = r) (hne : ∀ i, i < n → i ≠ r → gi t i ≠ i) (hld : ¬ Ld t r) :
    (n, r, (othL (raL t r n) n).idxOf r, natL (raL t r n), othL (raL t r n) n) ∈ shapes := by
  have h1 := shapes_dec
  rw [List.all_eq_true] at h1
  have h2 := h1 n (List.mem_range.2 (by omega))
  rw [List.all_eq_true] at h2
  have h3 := h2 t (by have := h.all; rw [hl] at this; exact this)
  rw [List.all_eq_true] at h3
  have h5 := h3 r (List.mem_range.2 hr)
  have h6 : ldB t r = false := by rw [ldB_pb]; exact pb_false hld
  have h7 : (List.range n).any (fun i => i != r && gi t i == (i : Int)) = false := by
    rw [List.any_eq_false]
    intro i hi
    have := hne i (List.mem_range.1 hi)
    by_cases e2 : i = r
    · simp [e2]
    · simp [e2, this e2]
  rw [h6, h7, e] at h5
  simpa using h5
end Go.Proofs.Ytidoahicgiaodaa

/- What is left over, by the model: numbers up to n, beaten rows, rows that are kept. -/
namespace Go.Proofs.Ytidoahicgiaodaa
open Go.RowKit

/-- Row r is more than row i in all of the first l columns told. -/
def BeatC (a : List (List Int)) (cols : List Int) (r i l : Nat) : Prop := ∀ y, y < l → g2 a i (gi cols y).toNat < g2 a r (gi cols y).toNat
theorem BeatC.zero (a : List (List Int)) (cols : List Int) (r i : Nat) : BeatC a cols r i 0 := fun _ h => absurd h (by omega)
theorem BeatC.succ {a : List (List Int)} {cols : List Int} {r i l : Nat} : BeatC a cols r i (l + 1) ↔ BeatC a cols r i l ∧ g2 a i (gi cols l).toNat < g2 a r (gi cols l).toNat := by
  constructor
  · exact fun h => ⟨fun j hj => h j (by omega), h l (by omega)⟩
  · rintro ⟨h1, h2⟩ j hj
    by_cases e : j = l
    · subst e; exact h2
    · exact h1 j (by omega)
def Beaten (a : List (List Int)) (rows cols : List Int) (i : Nat) : Prop := ∃ x, x < rows.length ∧ BeatC a cols (gi rows x).toNat i cols.length
/-- The rows before place k that are not beaten. -/
noncomputable def keepL (a : List (List Int)) (rows cols : List Int) : Nat → List Int
  | 0 => []
  | k + 1 => keepL a rows cols k ++ (if pb (Beaten a rows cols (gi rows k).toNat) = true then [] else [gi rows k])
theorem keepL_no {a : List (List Int)} {rows cols : List Int} {k : Nat} (h : Beaten a rows cols (gi rows k).toNat) : keepL a rows cols (k + 1) = keepL a rows cols k := by rw [keepL, if_pos (pb_true h), List.append_nil]
theorem keepL_yes {a : List (List Int)} {rows cols : List Int} {k : Nat} (h : ¬ Beaten a rows cols (gi rows k).toNat) : keepL a rows cols (k + 1) = keepL a rows cols k ++ [gi rows k] := by rw [keepL, if_neg (by rw [pb_false h]; decide)]
theorem keepL_len (a : List (List Int)) (rows cols : List Int) : ∀ k, (keepL a rows cols k).length ≤ k
  | 0 => by simp [keepL]
  | k + 1 => by
    have := keepL_len a rows cols k
    rw [keepL, List.length_append]
    split <;> simp <;> omega
theorem keepL_mem (a : List (List Int)) (rows cols : List Int) : ∀ k, ∀ y ∈ keepL a rows cols k, ∃ j, j < k ∧ y = gi rows j
  | 0, y, h => by simp [keepL] at h
  | k + 1, y, h => by
    rw [keepL, List.mem_append] at h
    rcases h with h | h
    · obtain ⟨j, hj, e⟩ := keepL_mem a rows cols k y h; exact ⟨j, by omega, e⟩
    · split at h
      · simp at h
      · simp only [List.mem_singleton] at h; exact ⟨k, by omega, h⟩
/-- The numbers before n. -/
def upL (n : Nat) : List Int := (List.range n).map fun (k : Nat) => (k : Int)
theorem upL_succ (n : Nat) : upL (n + 1) = upL n ++ [(n : Int)] := by simp [upL, List.range_succ]
theorem upL_len (n : Nat) : (upL n).length = n := by simp [upL]
theorem upL_bd (n : Nat) : ∀ y ∈ upL n, 0 ≤ y ∧ y < (n : Int) := fun y h => by
  simp only [upL, List.mem_map, List.mem_range] at h
  obtain ⟨k, hk, rfl⟩ := h
  omega

end Go.Proofs.Ytidoahicgiaodaa

/- What is left over, as sets: f tells which of the first n numbers are left. Plain. -/
namespace Go.Proofs.Ytidoahicgiaodaa

theorem keepL_filter (a : List (List Int)) (rows cols : List Int) : ∀ k, k ≤ rows.length → keepL a rows cols k = (rows.take k).filter fun y => !pb (Beaten a rows cols y.toNat)
  | 0, _ => by simp [keepL]
  | k + 1, h => by
    have hk : k < rows.length := by omega
    rw [keepL, keepL_filter a rows cols k (by omega), List.take_succ_eq_append_getElem hk, List.filter_append, gi_get hk]
    congr 1
    cases e : pb (Beaten a rows cols (rows[k].toNat)) <;> simp [e]
theorem keepL_all (a : List (List Int)) (rows cols : List Int) : keepL a rows cols rows.length = rows.filter fun y => !pb (Beaten a rows cols y.toNat) := by
  rw [keepL_filter a rows cols _ (Nat.le_refl _), List.take_length]
/-- The numbers before n that f tells, ascending. -/
def selL (f : Nat → Bool) (n : Nat) : List Int := ((List.range n).filter f).map fun (k : Nat) => (k : Int)
theorem selL_up (n : Nat) : selL (fun _ => true) n = upL n := by unfold selL upL; rw [List.filter_eq_self.2 (fun _ _ => rfl)]
theorem selL_mem {f : Nat → Bool} {n : Nat} {y : Int} : y ∈ selL f n ↔ ∃ k : Nat, k < n ∧ f k = true ∧ y = k := by
  simp only [selL, List.mem_map, List.mem_filter, List.mem_range]
  constructor
  · rintro ⟨k, ⟨h1, h2⟩, rfl⟩; exact ⟨k, h1, h2, rfl⟩
  · rintro ⟨k, h1, h2, rfl⟩; exact ⟨k, ⟨h1, h2⟩, rfl⟩
theorem selL_len (f : Nat → Bool) (n : Nat) : (selL f n).length ≤ n := by
  have := List.length_filter_le f (List.range n)
  simp [selL] at this ⊢; exact this
theorem selL_bd {f : Nat → Bool} {n x : Nat} (h : x < (selL f n).length) : 0 ≤ gi (selL f n) x ∧ gi (selL f n) x < n := by
  rw [gi_get h]
  obtain ⟨k, hk, _, e⟩ := selL_mem.1 (List.getElem_mem h)
  omega
/-- Row i is beaten among those that f tells, against the columns that h tells. -/
def BT (a : List (List Int)) (f h : Nat → Bool) (n m i : Nat) : Prop := ∃ r, r < n ∧ f r = true ∧ ∀ y, y < m → h y = true → g2 a i y < g2 a r y
theorem beaten_sel {a : List (List Int)} {f h : Nat → Bool} {n m i : Nat} : Beaten a (selL f n) (selL h m) i ↔ BT a f h n m i := by
  constructor
  · rintro ⟨x, hx, hb⟩
    obtain ⟨r, hr, hf, e⟩ := selL_mem.1 (List.getElem_mem hx)
    refine ⟨r, hr, hf, fun y hy hh => ?_⟩
    obtain ⟨l, hl, e2⟩ := List.mem_iff_getElem.1 (selL_mem.2 ⟨y, hy, hh, rfl⟩ : (y : Int) ∈ selL h m)
    have := hb l hl
    rw [gi_get hl, e2, gi_get hx, e] at this
    simpa using this
  · rintro ⟨r, hr, hf, hb⟩
    obtain ⟨x, hx, e⟩ := List.mem_iff_getElem.1 (selL_mem.2 ⟨r, hr, hf, rfl⟩ : (r : Int) ∈ selL f n)
    refine ⟨x, hx, fun l hl => ?_⟩
    obtain ⟨y, hy, hh, e2⟩ := selL_mem.1 (List.getElem_mem hl)
    rw [gi_get hl, e2, gi_get hx, e]
    simpa using hb y hy hh
/-- Those that stay. -/
noncomputable def stayF (a : List (List Int)) (f h : Nat → Bool) (n m : Nat) : Nat → Bool := fun i => f i && !pb (BT a f h n m i)
theorem keepL_sel (a : List (List Int)) (f h : Nat → Bool) (n m : Nat) : keepL a (selL f n) (selL h m) (selL f n).length = selL (stayF a f h n m) n := by
  rw [keepL_all]
  unfold selL stayF
  rw [List.filter_map, List.filter_filter]
  congr 1
  apply List.filter_congr
  intro k _
  have e : pb (Beaten a (selL f n) (selL h m) k) = pb (BT a f h n m k) := pb_congr beaten_sel
  unfold selL at e
  simp only [Function.comp, Int.toNat_natCast]
  rw [e, Bool.and_comm]
/-- One round: first the rows, then the columns against the rows that stay. -/
noncomputable def loStep (a b : List (List Int)) (n m : Nat) (s : (Nat → Bool) × (Nat → Bool)) : (Nat → Bool) × (Nat → Bool) :=
  (stayF a s.1 s.2 n m, stayF b s.2 (stayF a s.1 s.2 n m) m n)
noncomputable def loIt (a b : List (List Int)) (n m : Nat) : Nat → (Nat → Bool) × (Nat → Bool)
  | 0 => (fun _ => true, fun _ => true)
  | k + 1 => loStep a b n m (loIt a b n m k)
/-- The same numbers before n and before m. -/
def SameS (n m : Nat) (s t : (Nat → Bool) × (Nat → Bool)) : Prop := (∀ i, i < n → s.1 i = t.1 i) ∧ ∀ j, j < m → s.2 j = t.2 j
theorem BT_congr {a : List (List Int)} {f f' h h' : Nat → Bool} {n m : Nat} (hf : ∀ i, i < n → f i = f' i) (hh : ∀ j, j < m → h j = h' j) (i : Nat) : BT a f h n m i ↔ BT a f' h' n m i := by
  constructor
  · rintro ⟨r, h1, h2, h3⟩; exact ⟨r, h1, by rw [← hf r h1]; exact h2, fun y hy e => h3 y hy (by rw [hh y hy]; exact e)⟩
  · rintro ⟨r, h1, h2, h3⟩; exact ⟨r, h1, by rw [hf r h1]; exact h2, fun y hy e => h3 y hy (by rw [← hh y hy]; exact e)⟩
theorem stayF_congr {a : List (List Int)} {f f' h h' : Nat → Bool} {n m : Nat} (hf : ∀ i, i < n → f i = f' i) (hh : ∀ j, j < m → h j = h' j) (i : Nat) (hi : i < n) : stayF a f h n m i = stayF a f' h' n m i := by
  unfold stayF; rw [hf i hi, pb_congr (BT_congr hf hh i)]
theorem loStep_congr {a b : List (List Int)} {n m : Nat} {s t : (Nat → Bool) × (Nat → Bool)} (h : SameS n m s t) : SameS n m (loStep a b n m s) (loStep a b n m t) := by
  have h1 : ∀ i, i < n → stayF a s.1 s.2 n m i = stayF a t.1 t.2 n m i := fun i hi => stayF_congr h.1 h.2 i hi
  exact ⟨h1, fun j hj => stayF_congr h.2 h1 j hj⟩
theorem SameS.trans {n m s t u} (h : SameS n m s t) (k : SameS n m t u) : SameS n m s u := ⟨fun i hi => (h.1 i hi).trans (k.1 i hi), fun j hj => (h.2 j hj).trans (k.2 j hj)⟩
theorem SameS.symm {n m s t} (h : SameS n m s t) : SameS n m t s := ⟨fun i hi => (h.1 i hi).symm, fun j hj => (h.2 j hj).symm⟩
theorem SameS.refl (n m : Nat) (s : (Nat → Bool) × (Nat → Bool)) : SameS n m s s := ⟨fun _ _ => rfl, fun _ _ => rfl⟩
/-- Where a round changes nothing, none behind it does. -/
theorem loIt_fix {a b : List (List Int)} {n m k : Nat} (h : SameS n m (loIt a b n m (k + 1)) (loIt a b n m k)) : ∀ l, SameS n m (loIt a b n m (k + l)) (loIt a b n m k)
  | 0 => SameS.refl _ _ _
  | l + 1 => (show SameS n m (loStep a b n m (loIt a b n m (k + l))) (loIt a b n m k) from (loStep_congr (loIt_fix h l)).trans h)
/-- Two rounds that change nothing agree. -/
theorem loIt_one {a b : List (List Int)} {n m k l : Nat} (h : SameS n m (loIt a b n m (k + 1)) (loIt a b n m k)) (h' : SameS n m (loIt a b n m (l + 1)) (loIt a b n m l)) : SameS n m (loIt a b n m k) (loIt a b n m l) := by
  by_cases e : k ≤ l
  · obtain ⟨d, rfl⟩ := Nat.le.dest e; exact (loIt_fix h d).symm
  · obtain ⟨d, rfl⟩ := Nat.le.dest (show l ≤ k by omega); exact loIt_fix h' d
theorem selL_congr {f g : Nat → Bool} {n : Nat} (h : ∀ i, i < n → f i = g i) : selL f n = selL g n := by
  unfold selL; congr 1; exact List.filter_congr fun k hk => h k (List.mem_range.1 hk)
/-- What stays is all, if it is as many. -/
theorem sel_same {f g : Nat → Bool} {n : Nat} (hs : ∀ i, g i = true → f i = true) (h : (selL g n).length = (selL f n).length) : ∀ i, i < n → g i = f i := by
  have hl : (selL f n).filter (fun y => g y.toNat) = selL g n := by
    unfold selL
    rw [List.filter_map, List.filter_filter]
    congr 1
    apply List.filter_congr
    intro k _
    simp only [Function.comp, Int.toNat_natCast]
    cases e : g k
    · simp
    · rw [hs k e]; rfl
  have hall : ∀ y ∈ selL f n, g y.toNat = true := List.length_filter_eq_length_iff.1 (by rw [hl]; exact h)
  intro i hi
  cases e : f i
  · cases e2 : g i
    · rfl
    · rw [hs i e2] at e; cases e
  · simpa using hall i (selL_mem.2 ⟨i, hi, e, rfl⟩)
theorem stay_sub {a : List (List Int)} {f h : Nat → Bool} {n m i : Nat} (e : stayF a f h n m i = true) : f i = true := by
  unfold stayF at e; simp at e; exact e.1
theorem stay_le (a : List (List Int)) (f h : Nat → Bool) (n m : Nat) : (selL (stayF a f h n m) n).length ≤ (selL f n).length := by
  rw [← keepL_sel]; exact keepL_len a (selL f n) (selL h m) _
/-- As many as before: nothing was left out. -/
theorem lo_same {a b : List (List Int)} {n m : Nat} {s : (Nat → Bool) × (Nat → Bool)}
    (h : (selL (loStep a b n m s).1 n).length + (selL (loStep a b n m s).2 m).length = (selL s.1 n).length + (selL s.2 m).length) : SameS n m (loStep a b n m s) s := by
  have h1 := stay_le a s.1 s.2 n m
  have h2 := stay_le b s.2 (stayF a s.1 s.2 n m) m n
  simp only [loStep] at h
  exact ⟨sel_same (fun i => stay_sub) (by show (selL (stayF a s.1 s.2 n m) n).length = _; omega), sel_same (fun i => stay_sub) (by show (selL (stayF b s.2 (stayF a s.1 s.2 n m) m n) m).length = _; omega)⟩
theorem lo_less {a b : List (List Int)} {n m : Nat} {s : (Nat → Bool) × (Nat → Bool)}
    (h : (selL (loStep a b n m s).1 n).length + (selL (loStep a b n m s).2 m).length ≠ (selL s.1 n).length + (selL s.2 m).length) : (selL (loStep a b n m s).1 n).length + (selL (loStep a b n m s).2 m).length < (selL s.1 n).length + (selL s.2 m).length := by
  have h1 := stay_le a s.1 s.2 n m
  have h2 := stay_le b s.2 (stayF a s.1 s.2 n m) m n
  simp only [loStep] at h ⊢
  omega
end Go.Proofs.Ytidoahicgiaodaa

/- Tables as arrays of nine numbers. -/
namespace Go.Proofs.Ytidoahicgiaodaa
open Go.RowKit

/-- Nine cells, three rows one behind the other. -/
def cs9 (f : Nat → Nat → Int) : Array Value := #[.int .i64 (f 0 0), .int .i64 (f 0 1), .int .i64 (f 0 2), .int .i64 (f 1 0), .int .i64 (f 1 1), .int .i64 (f 1 2), .int .i64 (f 2 0), .int .i64 (f 2 1), .int .i64 (f 2 2)]
def upd9 (f : Nat → Nat → Int) (i j : Nat) (v : Int) : Nat → Nat → Int := fun r c => if r = i ∧ c = j then v else f r c
theorem lt3 {i : Nat} (h : i < 3) : i = 0 ∨ i = 1 ∨ i = 2 := by omega
theorem cs9_get (f : Nat → Nat → Int) {i j : Nat} (hi : i < 3) (hj : j < 3) : (cs9 f)[i * 3 + j]? = some (.int .i64 (f i j)) := by
  rcases lt3 hi with rfl | rfl | rfl <;> rcases lt3 hj with rfl | rfl | rfl <;> rfl
theorem cs9_congr {f g : Nat → Nat → Int} (h : ∀ r c, r < 3 → c < 3 → f r c = g r c) : cs9 f = cs9 g := by
  unfold cs9
  rw [h 0 0 (by omega) (by omega), h 0 1 (by omega) (by omega), h 0 2 (by omega) (by omega), h 1 0 (by omega) (by omega), h 1 1 (by omega) (by omega), h 1 2 (by omega) (by omega), h 2 0 (by omega) (by omega), h 2 1 (by omega) (by omega), h 2 2 (by omega) (by omega)]
theorem cs9_set (f : Nat → Nat → Int) {i j : Nat} (hi : i < 3) (hj : j < 3) (v : Int) : (cs9 f).setIfInBounds (i * 3 + j) (.int .i64 v) = cs9 (upd9 f i j v) := by
  rcases lt3 hi with rfl | rfl | rfl <;> rcases lt3 hj with rfl | rfl | rfl <;> rfl
/-- A table filled up to row i, column j. -/
def part9 (a : List (List Int)) (m i j : Nat) : Nat → Nat → Int := fun r c => if (r < i ∨ r = i ∧ c < j) ∧ c < m then g2 a r c else 0
def full9 (a : List (List Int)) (n m : Nat) : Nat → Nat → Int := fun r c => if r < n ∧ c < m then g2 a r c else 0
theorem part9_zero (a : List (List Int)) (m : Nat) : cs9 (part9 a m 0 0) = cs9 (fun _ _ => 0) := cs9_congr fun r c _ _ => by unfold part9; rw [if_neg (by omega)]
theorem part9_next (a : List (List Int)) (m i j : Nat) (hj : j < m) : cs9 (upd9 (part9 a m i j) i j (g2 a i j)) = cs9 (part9 a m i (j + 1)) := cs9_congr fun r c _ _ => by
  unfold upd9 part9
  by_cases e : r = i ∧ c = j
  · obtain ⟨rfl, rfl⟩ := e; rw [if_pos ⟨rfl, rfl⟩, if_pos (by omega)]
  · rw [if_neg e]
    by_cases h : (r < i ∨ r = i ∧ c < j) ∧ c < m
    · rw [if_pos h, if_pos (by omega)]
    · rw [if_neg h, if_neg (by omega)]
theorem part9_row (a : List (List Int)) (m i : Nat) : cs9 (part9 a m i m) = cs9 (part9 a m (i + 1) 0) := cs9_congr fun r c _ _ => by
  unfold part9
  by_cases h : (r < i ∨ r = i ∧ c < m) ∧ c < m
  · rw [if_pos h, if_pos (by omega)]
  · rw [if_neg h, if_neg (by omega)]
theorem part9_all (a : List (List Int)) (n m : Nat) : cs9 (part9 a m n 0) = cs9 (full9 a n m) := cs9_congr fun r c _ _ => by
  unfold part9 full9
  by_cases h : r < n ∧ c < m
  · rw [if_pos h, if_pos (by omega)]
  · rw [if_neg h, if_neg (by omega)]
abbrev agg9 (f : Nat → Nat → Int) : Value := .agg (cs9 f)
end Go.Proofs.Ytidoahicgiaodaa

/- Arrays compared: three numbers, three bools, nine numbers. -/
namespace Go.Proofs.Ytidoahicgiaodaa
open Go.RowKit

theorem info_i1 : (Try.prog.info? 3).map (·.size) = some 1 := by kernel_rfl
theorem run_sizeOf' {t : TypeId} {n : Nat} (h : (Try.prog.info? t).map (·.size) = some n) (w : World) : (sizeOf t).run Try.prog w = .ok n w := by
  cases hq : Try.prog.info? t with
  | none => simp [hq] at h
  | some i => simp [hq] at h; simp [sizeOf, typeInfo, hq, h]
theorem und_int : Try.prog.underlying 3 = some (.int .i64) := by kernel_rfl
theorem run_isAgg_no (w : World) : (isAgg 3).run Try.prog w = .ok false w := by
  unfold isAgg; rw [Sem.run_bind, run_underlying und_int w]; rfl
theorem run_part_int {cs : Array Value} {k : Nat} {v : Value} (h : cs[k]? = some v) (w : World) : (part 3 cs k).run Try.prog w = .ok v w := by
  unfold part; rw [Sem.run_bind, run_isAgg_no]; simp [h]
end Go.Proofs.Ytidoahicgiaodaa

