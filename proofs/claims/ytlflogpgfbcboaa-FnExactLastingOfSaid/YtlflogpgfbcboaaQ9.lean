/- Texts merged: C99 C9T. -/
import Derived.Test.YtlflogpgfbcboaaQ8
import Derived.Deep.AppendSrc
/- Trees that are tried, by the program. -/
namespace Go.Proofs.Ytlflogpgfbcboaa
open Go.RowKit

/-- A number behind a row that has no room: a new row. -/
theorem row_snoc (w : World) (x : Int) (R : Option Addr) (m c : Nat) (r : List Int) (hr : Ints w R m c r) (hm : m ≤ 20) (hx : -9223372036854775808 ≤ x ∧ x ≤ 9223372036854775807) :
    ∃ A cc w5 g, (Builtin.append_ #[27, 27] 27 #[.slice R m m, .slice (some ⟨w.heap.size, 0, none⟩) 1 1]).run Try.prog (w.alloc (.cells #[.int .i64 x] 3)) = .ok (.slice A (r ++ [x]).length cc) w5 ∧
      Below w.heap.size w w5 ∧ OwnI w.heap.size w5.heap.size w5 g A (r ++ [x]).length cc (r ++ [x]) := by
  obtain ⟨i0, hi0, hz0, hz1, hz2⟩ := info_parts Try.info_int
  have hb := below_alloc w (.cells #[.int .i64 x] 3)
  have hl := hr.len
  have hk := hr.keep (Keep.below hb)
  have hwf : ∀ y ∈ r ++ [x], -9223372036854775808 ≤ y ∧ y ≤ 9223372036854775807 := by
    intro y hy
    rcases List.mem_append.1 hy with hy | hy
    · exact hr.wf y hy
    · simp at hy; subst hy; exact hx
  have hold1 : ∀ w', (∀ p, w'.cell? p = (w.alloc (.cells #[.int .i64 x] 3)).cell? p) → (Builtin.firstCells 1 m (.slice R m m)).run Try.prog w' = .ok (r.map iv).toArray w' := by
    intro w' hw'
    by_cases h0 : m = 0
    · subst h0
      obtain rfl : r = [] := List.eq_nil_of_length_eq_zero hl
      cases R <;> simp [Builtin.firstCells, loadCells, loadCellsFrom]
    · obtain ⟨b, o, rfl, hc⟩ := hk.at_ (by omega)
      refine run_firstCells_some w' 1 m ⟨b, o, none⟩ m m (r.map iv) (by rw [List.length_map, hl, Nat.mul_one]) (fun j v hv => ?_)
      rw [List.getElem?_map] at hv
      by_cases hj : j < r.length
      · rw [List.getElem?_eq_getElem hj] at hv
        simp at hv
        subst hv
        rw [hw', Addr.add_lit, hc j (by omega), gi_get hj]
        rfl
      · rw [List.getElem?_eq_none (by omega)] at hv; simp at hv
  have hsrc1 : Src Try.prog 1 27 (.slice (some ⟨w.heap.size, 0, none⟩) 1 1) 1 [iv x] (w.alloc (.cells #[.int .i64 x] 3)) :=
    Src.ofSlice _ Try.underlying27 ⟨w.heap.size, 0, none⟩ 1 1 [iv x] rfl (fun j u hu => by
      match j with
      | 0 => simp at hu; subst hu; exact blk_cell (blk_new w 3 #[.int .i64 x]) rfl
      | j + 1 => simp at hu) (by intro u hu; simp at hu; subst hu; rfl)
  have hold : ∀ w', (∀ p, w'.cell? p = (w.alloc (.cells #[.int .i64 x] 3)).cell? p) → (Builtin.firstCells i0.size m (.slice R m m)).run Try.prog w' = .ok (r.map iv).toArray w' := by rw [hz1]; exact hold1
  have hsrc : Src Try.prog i0.size 27 (.slice (some ⟨w.heap.size, 0, none⟩) 1 1) 1 [iv x] (w.alloc (.cells #[.int .i64 x] 3)) := by rw [hz1]; exact hsrc1
  have hm256 : m < 256 := by omega
  have hrun := run_append_grow_src (P := Try.prog) (w.alloc (.cells #[.int .i64 x] 3)) 27 27 27 3 i0 (.int .i64 0) Try.underlying27 hi0 hz0 R m m (r.map iv) (hold _ (fun _ => rfl)) (.slice (some ⟨w.heap.size, 0, none⟩) 1 1) 1 [iv x] hsrc (by omega) (by omega) (by rw [hz2]; simp [Builtin.nextslicecap, hm256]; first | omega | (split <;> omega))
  have hge := grownCap_ge (w.alloc (.cells #[.int .i64 x] 3)) (m + 1) m 3
  have hlr : (r ++ [x]).length = m + 1 := by rw [List.length_append, hl]; rfl
  refine ⟨_, _, _, (w.alloc (.cells #[.int .i64 x] 3)).heap.size, by rw [hlr]; exact hrun, below_up hb ?_, ?_⟩
  · exact ⟨rfl, rfl, rfl, by simp, fun k hk => Below.heap_alloc (w.alloc (.cells #[.int .i64 x] 3)).drew _ k (by simpa using hk)⟩
  · have hbk := blk_new (w.alloc (.cells #[.int .i64 x] 3)).drew 3 ((r.map iv ++ [iv x]).toArray ++ Builtin.zeroCells (Value.int .i64 0).cells (grownCap (w.alloc (.cells #[.int .i64 x] 3)) (m + 1) m 3 - (m + 1)))
    refine ⟨⟨rfl, by rw [hlr]; exact hge, by omega, hwf, fun _ => ⟨_, 0, rfl, fun k hk => ?_⟩⟩, fun _ => ⟨0, rfl, by simp, by simp, fun k _ => by rw [Nat.zero_add]; exact blk_frozen hbk k⟩⟩
    rw [Nat.zero_add]
    refine blk_cell hbk ?_
    rw [hlr] at hk
    rw [Array.getElem?_append_left (by simp; omega)]
    rw [show (r.map iv ++ [iv x]) = (r ++ [x]).map iv by simp]
    rw [List.getElem?_toArray]
    exact getElem_iv (by rw [hlr]; exact hk)

theorem Clip_any (R : Option Addr) (m c : Nat) (w : World) (hc : m ≤ c) : Calls Try.prog 49 #[.slice R m c] w fun e w' => e = .returned (.slice R m m) ∧ w = w' := by
  go_enter Try.func49, Try.ntmps49
  go_wp2
  go_ret
  exact ⟨rfl, rfl⟩

/-- The rows that are made of a row. -/
def selB (k r : Nat) : Nat → Bool := fun x => (x == k) == (k == r)
def extL (k r : Nat) (t : List Int) (m : Nat) : List (List Int) := ((List.range m).filter (selB k r)).map fun (x : Nat) => t ++ [(x : Int)]
theorem beqN (a b : Nat) : ((a : Int) == (b : Int)) = (a == b) := by
  by_cases h : a = b
  · subst h; simp
  · have : (a : Int) ≠ (b : Int) := by omega
    rw [beq_eq_false_iff_ne.2 this, beq_eq_false_iff_ne.2 h]
theorem selB_int (k r m : Nat) : (((m : Int) == (k : Int)) == ((k : Int) == (r : Int))) = selB k r m := by rw [beqN, beqN]; rfl
theorem extL_yes {k r : Nat} {t : List Int} {m : Nat} (h : selB k r m = true) : extL k r t (m + 1) = extL k r t m ++ [t ++ [(m : Int)]] := by simp [extL, List.range_succ, List.filter_append, h]
theorem extL_no {k r : Nat} {t : List Int} {m : Nat} (h : selB k r m = false) : extL k r t (m + 1) = extL k r t m := by simp [extL, List.range_succ, List.filter_append, h]
theorem extL_len (k r : Nat) (t : List Int) (m : Nat) : (extL k r t m).length ≤ m := by
  rw [extL, List.length_map]
  have := List.length_filter_le (selB k r) (List.range m)
  rw [List.length_range] at this; exact this
theorem preI_succ (n r k : Nat) : preI n r (k + 1) = (preI n r k).flatMap fun t => extL k r t n := rfl
theorem flat_take {l : List (List Int)} {f : List Int → List (List Int)} {i : Nat} (h : i < l.length) : (l.take (i + 1)).flatMap f = (l.take i).flatMap f ++ f (gr l i) := by
  rw [List.take_add_one, List.flatMap_append, List.getElem?_eq_getElem h, gr_get h]; simp
theorem flat_len {f : List Int → List (List Int)} (h : ∀ t, (f t).length ≤ 4) : ∀ l : List (List Int), (l.flatMap f).length ≤ 4 * l.length
  | [] => by simp
  | t :: l => by rw [List.flatMap_cons, List.length_append, List.length_cons]; have := flat_len h l; have := h t; omega
theorem preI_in {n r : Nat} (hn : n ≤ 4) : ∀ {k : Nat}, ∀ t ∈ preI n r k, t.length = k ∧ ∀ y ∈ t, 0 ≤ y ∧ y < n
  | 0, t, h => by simp [preI] at h; subst h; exact ⟨rfl, fun y hy => by simp at hy⟩
  | k + 1, t, h => by
    rw [preI_succ, List.mem_flatMap] at h
    obtain ⟨s, hs, h⟩ := h
    obtain ⟨h1, h2⟩ := preI_in hn s hs
    rw [extL, List.mem_map] at h
    obtain ⟨x, hx, rfl⟩ := h
    have hxn := List.mem_range.1 (List.mem_filter.1 hx).1
    refine ⟨by rw [List.length_append, h1]; rfl, fun y hy => ?_⟩
    rcases List.mem_append.1 hy with hy | hy
    · exact h2 y hy
    · rw [List.mem_singleton] at hy; omega
/-- Rows under way, and a list that is read beside them. -/
structure QI (w : World) (lo hi : Nat) (v : Value) (vs : List Value) (acc : List (List Int)) (gg : Nat) (A : Option Addr) (n c : Nat) (list : List (List Int)) (wr : World) : Prop where
  tm : TM w v vs acc wr
  li : OwnR lo hi wr gg A n c list
  hi_ : hi ≤ wr.heap.size
  far : ∀ k, v.ownBlock = some k → k < lo ∨ hi ≤ k
theorem QI.blocks {w wr w5 w6 : World} {lo hi : Nat} {v : Value} {vs : List Value} {acc list : List (List Int)} {gg n c : Nat} {A : Option Addr} {o : Obj} (h : QI w lo hi v vs acc gg A n c list wr)
    (hk : Below wr.heap.size wr w5) (hgrow : (w5.alloc o).grownBy w6 v.ownBlock) : ∀ g, lo ≤ g → g < hi → w6.heap[g]? = wr.heap[g]? := fun g h4 h5 => by
  have h1 := h.hi_
  have h2 := hk.size
  refine (hgrow.block g (by simp; omega) (fun e => ?_)).trans ((Below.heap_alloc _ _ _ (by omega)).trans (hk.block g (by omega)))
  have := h.far g e.symm
  omega
theorem QI.push {w wr w5 w6 : World} {lo hi : Nat} {v v' : Value} {vs : List Value} {acc list : List (List Int)} {gg n c cr g : Nat} {A Ar : Option Addr} {r : List Int} (h : QI w lo hi v vs acc gg A n c list wr)
    (hk : Below wr.heap.size wr w5) (hr : OwnI wr.heap.size w5.heap.size w5 g Ar r.length cr r)
    (hown : w6.ownsRow w.heap.size 27 1 v' (acc.length + 1) (vs ++ [.slice Ar r.length cr])) (hgrow : (w5.alloc (.cells #[.slice Ar r.length cr] 27)).grownBy w6 v.ownBlock)
    (hat : v'.ownBlock = v.ownBlock ∨ v'.ownBlock = some (w5.heap.size + 1)) : QI w lo hi v' (vs ++ [.slice Ar r.length cr]) (acc ++ [r]) gg A n c list w6 := by
  have h1 := h.hi_
  have h2 := hk.size
  have h3 := hgrow.size
  simp only [World.size_alloc] at h3
  refine ⟨h.tm.push hk hr hown hgrow hat, h.li.of_blocks fun g h4 h5 h6 => ?_, by omega, fun k hk => ?_⟩
  · refine (hgrow.block g (by simp; omega) (fun e => ?_)).trans ((Below.heap_alloc _ _ _ (by omega)).trans (hk.block g h6))
    have := h.far g e.symm
    omega
  · rcases hat with hat | hat
    · exact h.far k (by rw [← hat]; exact hk)
    · rw [hat] at hk; injection hk with hk; omega
/-- The list's start: one empty row. -/
theorem TM.empty1 {wb w : World} (hb : Below wb.heap.size wb w) : TM wb (.slice (some ⟨w.heap.size, 0, none⟩) 1 1) [.slice none 0 0] [[]] (w.alloc (.cells #[.slice none 0 0] 27)) :=
  ⟨⟨World.ownsRow_lit w #[.slice none 0 0] 1 hb.size (by unfold maxLen; omega) rfl, fun k hk => by simp [Value.ownBlock] at hk; simp; omega, fun _ => w.heap.size, fun _ => none, fun _ => 0, fun k hk => by
      obtain rfl : k = 0 := by simpa using hk
      exact ⟨rfl, ⟨⟨rfl, Nat.le_refl _, by show (0 : Nat) ≤ _; omega, fun x hx => by simp [gr] at hx, fun h => by simp [gr] at h⟩, fun h => by simp [gr] at h⟩, fun h => by simp [gr] at h⟩, fun j k hjk hk => by simp at hk; omega⟩, below_up hb (below_alloc _ _)⟩
theorem TM.dfd {wb W : World} {A : Option Addr} {N c n r px : Nat} {vs : List Value} {xss : List (List Int)} (h : TM wb (.slice A N c) vs xss W) (hN : xss.length = N) (h0 : 0 < N) (h64 : N ≤ 64) (hn1 : 0 < n) (h4 : n ≤ 4)
    (hok : ∀ t ∈ xss, t.length = n ∧ gi t r = r ∧ InB t) (hbox : W.cell? ⟨px, 0, none⟩ = some (.int .i64 r)) (hpx : px < wb.heap.size) (f : Nat → Bool) :
    ∃ b, A = some ⟨b, 0, none⟩ ∧ N ≤ c ∧ DFd wb b N r px n (fun k => vs.getD k (.bool false)) xss f 0 W := by
  obtain ⟨hown, hhi, G, R, C, hrow, _⟩ := h.bo
  rcases hown.2 with ⟨e, h0'⟩ | ⟨g, cap, cur, e, hbg, hg, hnc, hcm, hcs, htake⟩
  · omega
  · injection e with e1 e2 e3
    subst e1
    subst e3
    have hvl : vs.length = N := by have := hown.1; omega
    rw [Nat.mul_one] at htake hcs
    refine ⟨g, rfl, by omega, ⟨⟨hN, h64, h4, fun k hk => ?_, fun k hk => ?_, hbox, by omega⟩, h.up, hbg, fun k hk => ?_, fun k hk => ?_⟩⟩
    · obtain ⟨a1, a2, a3⟩ := hrow k (by omega)
      have hl := (hok _ (gr_mem (show k < xss.length by omega))).1
      rw [hl] at a1 a2 a3
      refine ⟨R k, C k, by rw [List.getD_eq_getElem?_getD, a1]; rfl, ⟨a2.ints, fun p e hp => ?_⟩⟩
      obtain ⟨o, e2, _⟩ := a2.own hn1
      rw [e] at e2
      injection e2 with e2
      subst e2
      intro e3
      exact a3 hn1 (by simp [Value.ownBlock]; exact e3.symm)
    · obtain ⟨b1, b2, b3⟩ := hok _ (gr_mem (show k < xss.length by omega))
      exact ⟨b3, by unfold nx; simpa using b2⟩
    · rw [curD_at (Nat.zero_le _)]
      simp only [World.cell?, hg]
      have : vs[k]? = cur[k]? := by
        rw [← htake, List.getElem?_take_of_lt (by omega)]; simp
      rw [← this, List.getD_eq_getElem?_getD, List.getElem?_eq_getElem (by omega)]; rfl
    · simp [World.frozen?, hg]

set_option maxRecDepth 100000 in
set_option maxHeartbeats 6400000 in
theorem treesTo_any (r n : Nat) (w : World) (h4 : n ≤ 4) (hr : r < n) :
    Calls Try.prog 36 #[.int .i64 r, .int .i64 n] w (KeptR w (treeI n r)) := by
  have hb0 := below_alloc w (.cells #[.int .i64 r] 3)
  have HB0 := Lib.hid hb0
  have HBX := Lib.hid (blk_new w 3 #[.int .i64 (r : Int)])
  have HPX : Hid (w.heap.size < (w.alloc (.cells #[.int .i64 r] 3)).heap.size) := Lib.hid (by simp)
  have HT0 := Lib.hid (TM.empty1 (Below.refl (w.alloc (.cells #[.int .i64 r] 3)).heap.size (w.alloc (.cells #[.int .i64 r] 3))))
  clear hb0
  go_enter Try.func36, Try.ntmps36
  go_wp2
  have hwz : (w.alloc (.cells #[.int .i64 r] 3)).heap.size = w.heap.size + 1 := by simp
  rw [hwz] at HT0
  simp only [World.size_alloc] at HPX
  obtain ⟨w1, hw1⟩ : ∃ w1, w1 = w.alloc (.cells #[.int .i64 r] 3) := ⟨_, rfl⟩
  rw [← hw1] at HB0 HBX HT0 hwz ⊢
  have HWZ := Lib.hid hwz
  clear hw1 hwz
  go_loopw [5, 13] (fun v s wr => ∃ (k : Nat) (vs : List Value), k ≤ n ∧ s = .int .i64 k ∧ Hid (TM w1 v vs (preI n r k) wr)) (fun _ s _ => n - (intOf s).toNat)
  case atStart => exact ⟨0, _, Nat.zero_le _, rfl, HT0⟩
  case round =>
    clear HT0
    obtain ⟨k, vs0, hk, rfl, HT⟩ := hrel
    obtain ⟨Av, cv, hform⟩ := HT.out.bo.form
    have HLN := Lib.hid (preI_len (k := k) h4 hr hk)
    have hl64 := HLN.out
    by_cases hkn : k < n
    · obtain ⟨A', n', c', gg, e1, e2, ho⟩ := HT.out.bo.owns (by omega)
      rw [hform] at e1 ⊢
      injection e1 with e1 e3 e4
      subst e1
      subst e3
      subst e4
      obtain ⟨wA, hwA⟩ : ∃ wA, wA = wr := ⟨_, rfl⟩
      subst hwA
      have HQ := Lib.hid (QI.mk (w := w1) (v := .slice none 0 0) (vs := []) (acc := []) ⟨Bld.nil _ _ _, HT.out.up⟩ ho (Nat.le_refl _) (fun k h => by simp [Value.ownBlock] at h))
      have HIN := Lib.hid (preI_in (r := r) h4 (k := k))
      have HPS : Hid ((preI n r k).flatMap (fun t => extL k r t n) = preI n r (k + 1)) := Lib.hid (preI_succ n r k).symm
      clear HT ho hform e2
      generalize hlist : preI n r k = list at *
      clear hlist
      go_wp2
      generalize hhi : wA.heap.size = hi at *
      clear hhi
      go_loopw [7, 18] (fun v s wr => ∃ (i : Nat) (vs : List Value), i ≤ list.length ∧ s = .int .i64 i ∧ Hid (QI w1 w1.heap.size hi v vs ((list.take i).flatMap fun t => extL k r t n) gg Av list.length cv list wr)) (fun _ s _ => list.length - (intOf s).toNat)
      case atStart => exact ⟨0, [], Nat.zero_le _, rfl, Lib.hid (by simpa using HQ.out)⟩
      case round =>
        clear HQ
        obtain ⟨i, vs1, hi1, rfl, HQ⟩ := hrel
        obtain ⟨Au, cu, hform⟩ := HQ.out.tm.bo.form
        by_cases hil : i < list.length
        · obtain ⟨ol, G, RR, CC, hAv, _, _, hcell, _⟩ := HQ.out.li.at_ (by omega)
          obtain ⟨_, c1, hri, _⟩ := hcell i hil
          obtain ⟨hlr, hbr⟩ := HIN.out _ (gr_mem hil)
          rw [hlr] at c1 hri
          have HF := Lib.hid (flat_take (f := fun t => extL k r t n) hil)
          have HFL := Lib.hid (flat_len (f := fun t => extL k r t n) (fun t => by have := extL_len k r t n; omega) (list.take i))
          have HTL : Hid ((list.take i).length ≤ 64) := Lib.hid (by rw [List.length_take]; omega)
          have HLR := Lib.hid hlr
          have HBR := Lib.hid hbr
          rw [hform]
          subst hAv
          have HRI := Lib.hid hri
          clear hcell hri hlr hbr
          generalize ((list.take i).flatMap fun t => extL k r t n) = acc at *
          generalize hrow : gr list i = row at *
          have HROW := Lib.hid hrow
          clear hrow
          go_wp2
          clear c1
          obtain ⟨wB, hwB⟩ : ∃ wB, wB = wr := ⟨_, rfl⟩
          subst hwB
          go_loopw [7, 23] (fun v s wr => ∃ (m : Nat) (vs : List Value), m ≤ n ∧ s = .int .i64 m ∧ Hid (QI w1 w1.heap.size hi v vs (acc ++ extL k r row m) gg (some ⟨gg, ol, none⟩) list.length cv list wr ∧ OwnI w1.heap.size hi wr (G i) (RR i) k (CC i) row)) (fun _ s _ => n - (intOf s).toNat)
          case atStart => exact ⟨0, vs1, Nat.zero_le _, rfl, Lib.hid ⟨by rw [← hform]; simpa [extL] using HQ.out, HRI.out⟩⟩
          case round =>
            clear HQ hform vs1
            obtain ⟨m, vs, hm, rfl, HQ⟩ := hrel
            obtain ⟨Aw, cw, rfl⟩ := HQ.out.1.tm.bo.form
            by_cases hmn : m < n
            · have HLA := Lib.hid (show (acc ++ extL k r row m).length ≤ 300 by rw [List.length_append]; have := extL_len k r row m; have := HFL.out; have := HTL.out; omega)
              have cpx := HQ.out.1.tm.up.cell (p := ⟨w.heap.size, 0, none⟩) (by show w.heap.size < w1.heap.size; have := HWZ.out; omega)
              rw [blk_cell HBX.out (i := 0) rfl] at cpx
              cases hsel : selB k r m
              · have HS := Lib.hid (extL_no (t := row) hsel)
                have hs2 : (((m : Int) == (k : Int)) == ((k : Int) == (r : Int))) = false := by rw [selB_int]; exact hsel
                clear hsel
                obtain ⟨b1, hb1⟩ : ∃ b1, ((m : Int) == (k : Int)) = b1 := ⟨_, rfl⟩
                obtain ⟨b2, hb2⟩ : ∃ b2, ((k : Int) == (r : Int)) = b2 := ⟨_, rfl⟩
                rw [hb1, hb2] at hs2
                go_wp2
                go_roundw
                case rel => exact ⟨m + 1, vs, by omega, by go_num, Lib.hid (by rw [HS.out]; exact HQ.out)⟩
                case measure => simp [intOf]; omega
              · have HS := Lib.hid (extL_yes (t := row) hsel)
                have hs2 : (((m : Int) == (k : Int)) == ((k : Int) == (r : Int))) = true := by rw [selB_int]; exact hsel
                clear hsel
                obtain ⟨b1, hb1⟩ : ∃ b1, ((m : Int) == (k : Int)) = b1 := ⟨_, rfl⟩
                obtain ⟨b2, hb2⟩ : ∃ b2, ((k : Int) == (r : Int)) = b2 := ⟨_, rfl⟩
                rw [hb1, hb2] at hs2
                have HC := Lib.hid (Clip_any (RR i) k (CC i) wr HQ.out.2.ints.cap)
                obtain ⟨Ar, cr, w5, gr5, hrun, hb5, hI5⟩ := row_snoc wr (m : Int) (RR i) _ (CC i) row HQ.out.2.ints (by omega) (by omega)
                have HRUN := Lib.hid hrun
                have HB5 := Lib.hid hb5
                have HI5 := Lib.hid hI5
                clear hrun hb5 hI5
                generalize row ++ [(m : Int)] = row2 at *
                generalize hpart : extL k r row m = part at *
                have HPART := Lib.hid hpart
                clear hpart
                generalize hac2 : acc ++ part = ac2 at *
                have HAC := Lib.hid hac2
                clear hac2
                have HPN := Lib.hid ((HQ.out.1.tm.next HB5.out).bo.below (below_alloc w5 (.cells #[.slice Ar row2.length cr] 27))).own
                have HN := Lib.hid (cell_one_new w5 (.slice Ar row2.length cr) 27)
                have hlh : w1.heap.size ≤ w5.heap.size := Nat.le_trans HQ.out.1.tm.up.size HB5.out.size
                obtain ⟨i1, hi1', hy0, hy1, hy2⟩ := info_parts Try.info_row
                go_wp2_with fail
                refine HC.out.mono ?_
                rintro e w3 ⟨rfl, rfl⟩
                go_wp2_with (first
                  | (at_builtin; refine Lib.wpList_append_run _ rfl _ _ _ _ rfl _ _ rfl rfl _ _ HRUN.out ?_)
                  | (at_builtin; refine wpList_append_own_at _ rfl _ _ 22 rfl w1.heap.size 27 i1 (.slice none 0 0) 1 24 Try.underlying22 hi1' hy0 hy1 hy2 rfl (by decide) _ ac2.length vs rfl HPN.out ⟨w5.heap.size, 0, none⟩ 1 1 [.slice Ar row2.length cr] rfl rfl (by exact HN.out) ?d2 ?d3 ?d4 ?d5 ?_))
                case d2 => first | (intro u hu; simp at hu; subst hu; rfl) | rfl | simp [Value.oneCell']
                case d3 => have := HLA.out; unfold maxLen; omega
                case d4 => have := HLA.out; omega
                case d5 => first | omega | (simp; omega)
                intro v' w6 hown' hgrow _ hat
                have HQ6 := Lib.hid (show QI _ _ _ _ _ _ _ _ _ _ _ w6 ∧ OwnI w1.heap.size hi w6 (G i) (RR i) k (CC i) row from ⟨HQ.out.1.push HB5.out HI5.out hown' hgrow (by simpa using hat), HQ.out.2.of_block fun hn => HQ.out.1.blocks HB5.out hgrow _ (by obtain ⟨_, _, a, _, _⟩ := HQ.out.2.own hn; exact a) (by obtain ⟨_, _, _, a, _⟩ := HQ.out.2.own hn; exact a)⟩)
                clear HPN HN hown' hgrow hat HQ HRUN HB5 HI5 cpx hb1 hb2 hs2
                go_wp2
                go_roundw
                case rel => exact ⟨m + 1, _, by omega, by go_num, Lib.hid (by rw [HS.out, ← List.append_assoc, HAC.out]; exact HQ6.out)⟩
                case measure => simp [intOf]; omega
            · obtain rfl : m = n := by omega
              have HE := Lib.hid HF.out
              have HQ2 := Lib.hid HQ.out.1
              rw [← HE.out] at HQ2
              have HLE := Lib.hid (congrArg List.length HE.out)
              rw [← HLE.out]
              clear HQ HE HLE HF
              go_wp2
              go_roundw
              case rel => exact ⟨i + 1, vs, by omega, by go_num, HQ2⟩
              case measure => simp [intOf]; omega
        · obtain rfl : i = list.length := by omega
          have HTM := Lib.hid HQ.out.tm
          rw [List.take_length, HPS.out] at HTM
          clear HQ
          go_wp2
          go_roundw
          case rel => exact ⟨k + 1, vs1, by omega, by go_num, HTM⟩
          case measure => simp [intOf]; omega
    · obtain rfl : k = n := by omega
      rw [hform] at HT
      have cpx := HT.out.up.cell (p := ⟨w.heap.size, 0, none⟩) (by show w.heap.size < w1.heap.size; have := HWZ.out; omega)
      rw [blk_cell HBX.out (i := 0) rfl] at cpx
      have hpos : 0 < (preI k r k).length := Nat.pos_of_ne_zero fun e => by
        have h1 := (treeI_mem h4 hr).2 (star_tree k r hr)
        rw [treeI, List.mem_filter, List.eq_nil_of_length_eq_zero e] at h1
        exact absurd h1.1 (by simp)
      obtain ⟨b, hAb, hcap, hD⟩ := HT.out.dfd (f := fun j => ldB (gr (preI k r k) j) r) (n := k) rfl hpos hl64 (by omega) h4 (fun t ht => preI_ok h4 hr ht) cpx (by have := HWZ.out; omega)
      have HDC := Lib.hid (DeleteFunc_any w1 b _ r w.heap.size k cv _ (preI k r k) _ wr hD (fun _ _ => rfl) hcap hpos)
      have HTI : Hid ((preI k r k).filter (fun t => ldB t r) = treeI k r) := Lib.hid rfl
      rw [HTI.out] at HDC
      subst hAb
      rw [hform]
      clear hD cpx HT hform
      go_wp2_with fail
      refine HDC.out.mono ?_
      rintro e w6 ⟨A6, c6, rfl, hrows, hb6⟩
      have HR6 := Lib.hid hrows
      have HB6 := Lib.hid (below_up HB0.out hb6)
      clear HDC hrows hb6
      go_wp2
      go_ret
      exact ⟨A6, c6, rfl, HR6.out, HB6.out⟩
end Go.Proofs.Ytlflogpgfbcboaa

/- Trees that are tried, by the program: the least sum. -/
namespace Go.Proofs.Ytlflogpgfbcboaa
open Go.RowKit

/-- What all trees cost. -/
def sumL (a : List (List Int)) (l : List (List Int)) (n : Nat) : List Int := l.map fun t => tot (csL a t n)
theorem sumL_len (a : List (List Int)) (l : List (List Int)) (n : Nat) : (sumL a l n).length = l.length := by simp [sumL]
theorem sumL_snoc {a : List (List Int)} {l : List (List Int)} {n k : Nat} (h : k < l.length) : sumL a (l.take (k + 1)) n = sumL a (l.take k) n ++ [tot (csL a (gr l k) n)] := by
  rw [sumL, sumL, List.take_add_one, List.map_append, List.getElem?_eq_getElem h, gr_get h]; rfl
theorem sm_cs {a : List (List Int)} {n r : Nat} {t : List Int} (ht : Tr n r t) : ∀ k, k ≤ n → sm (csL a t n) k = cs a r t k
  | 0, _ => rfl
  | k + 1, hk => by
    rw [sm, cs, sm_cs ht k (by omega), gi_csL (by omega)]
    by_cases e : k = r
    · subst e; rw [if_pos ht.2.2.1, if_pos rfl]; omega
    · rw [if_neg e, if_neg]
      intro e2
      have h1 := ht.2.2.2 k (by rw [ht.1]; omega)
      have h2 : ∀ d, orS t r k d = (k : Int) := by
        intro d
        induction d with
        | zero => rfl
        | succ d ih =>
          rw [orS, if_neg (by rw [ih]; omega), ih]
          unfold nx; simpa using e2
      rw [h2] at h1; omega
theorem tot_cs {a : List (List Int)} {n r : Nat} {t : List Int} (ht : Tr n r t) : tot (csL a t n) = cs a r t n := by rw [tot, csL_len]; exact sm_cs ht n (Nat.le_refl _)
theorem mn_le' (xs : List Int) : ∀ {k j : Nat}, j ≤ k → mn xs k ≤ gi xs j
  | 0, j, h => by obtain rfl : j = 0 := by omega
                  exact Int.le_refl _
  | k + 1, j, h => by
    simp only [mn]
    by_cases e : j = k + 1
    · subst e; omega
    · have := mn_le' xs (k := k) (j := j) (by omega); omega
theorem mn_at' (xs : List Int) : ∀ k, ∃ j, j ≤ k ∧ gi xs j = mn xs k
  | 0 => ⟨0, Nat.le_refl _, rfl⟩
  | k + 1 => by
    obtain ⟨j, hj, e⟩ := mn_at' xs k
    simp only [mn]
    by_cases h : mn xs k ≤ gi xs (k + 1)
    · exact ⟨j, by omega, by omega⟩
    · exact ⟨k + 1, Nat.le_refl _, by omega⟩
theorem gi_sumL {a : List (List Int)} {l : List (List Int)} {n k : Nat} (h : k < l.length) : gi (sumL a l n) k = tot (csL a (gr l k) n) := by
  rw [gi_get (by rw [sumL_len]; exact h), gr_get h]; simp [sumL]
/-- The least of the sums is the least tree. -/
theorem sumL_least {a : List (List Int)} {n r : Nat} (h4 : n ≤ 4) (hr : r < n) : LeastT a n r (lst (sumL a (treeI n r) n)) := by
  have hne : 0 < (treeI n r).length := List.length_pos_of_mem ((treeI_mem h4 hr).2 (star_tree n r hr))
  refine ⟨fun t ht => ?_, ?_⟩
  · obtain ⟨k, hk, e⟩ := List.mem_iff_getElem.1 ((treeI_mem h4 hr).2 ht)
    rw [← gr_get hk] at e
    have h1 := mn_le' (sumL a (treeI n r) n) (k := (sumL a (treeI n r) n).length - 1) (j := k) (by rw [sumL_len]; omega)
    rw [gi_sumL hk, e, tot_cs ht] at h1
    exact h1
  · obtain ⟨j, hj, e⟩ := mn_at' (sumL a (treeI n r) n) ((sumL a (treeI n r) n).length - 1)
    rw [sumL_len] at hj
    have hjl : j < (treeI n r).length := by omega
    have ht := (treeI_mem h4 hr).1 (gr_mem hjl)
    refine ⟨_, ht, ?_⟩
    rw [gi_sumL hjl, tot_cs ht] at e
    exact e.symm
theorem treeI_len {n r : Nat} (h4 : n ≤ 4) (hr : r < n) : (treeI n r).length ≤ 64 ∧ 0 < (treeI n r).length :=
  ⟨Nat.le_trans (List.length_filter_le _ _) (preI_len h4 hr (Nat.le_refl _)), List.length_pos_of_mem ((treeI_mem h4 hr).2 (star_tree n r hr))⟩

set_option maxRecDepth 100000 in
set_option maxHeartbeats 3200000 in
theorem TreeTried_impl (A : Option Addr) (n c : Nat) (a : List (List Int)) (root : Int) (w : World) (hx : IntRows w A n c a) (hf : Fit root) :
    Calls Try.prog 14 #[.slice A n c, .int .i64 root] w (Ret (.int .i64 (TF a root)) w) := by
  have HX := Lib.hid hx
  have HL := Lib.hid hx.len
  have HC := Lib.hid (isRooted_any A n c a root w hx)
  have hmx := hx.max
  clear hx
  by_cases hv : VC a ∧ Blw a.length root
  · have h1 := hv.1.n1
    have h4 := hv.1.n4
    rw [HL.out] at h1 h4
    have HV := Lib.hid hv.1
    have HC2 := Lib.hid HC.out
    rw [pb_true hv.1, pb_true hv.2] at HC2
    have hr := hv.2
    unfold Blw at hr
    rw [HL.out] at hr
    have HP := Lib.hid (show TF a root = bw a n root.toNat (n ^ n) by rw [TF, pb_true hv.1, pb_true hv.2, HL.out]; rfl)
    obtain ⟨r, rfl⟩ : ∃ r : Nat, root = r := ⟨root.toNat, by omega⟩
    have hrn : r < n := by omega
    simp only [Int.toNat_natCast] at HP
    have HE := Lib.hid (show lst (sumL a (treeI n r) n) = TF a (r : Int) by rw [HP.out]; exact (sumL_least h4 hrn).one (bw_least HV.out HL.out hrn))
    have HSQ := Lib.hid ((HV.out.sq).mono (show (20 : Int) ≤ 100000 by omega))
    have HSQ2 := Lib.hid HV.out.sq
    rw [HL.out] at HSQ HSQ2
    have HTC := Lib.hid (fun W => treesTo_any r n W h4 hrn)
    obtain ⟨hlt64, hlt0⟩ := treeI_len h4 hrn
    have HTM : Hid (∀ t ∈ treeI n r, t.length = n ∧ InB t) := Lib.hid (fun t ht => ⟨((treeI_mem h4 hrn).1 ht).1, ((treeI_mem h4 hrn).1 ht).2.1⟩)
    clear hv hr HC HP hf
    go_enter Try.func14, Try.ntmps14
    go_wp2_with fail
    refine HC2.out.mono ?_
    rintro e w1 ⟨rfl, hq⟩
    have HB := Lib.hid (Quiet.below (B := w.heap.size) hq)
    clear HC2 hq
    go_wp2_with fail
    refine (HTC.out _).mono ?_
    rintro e w2 ⟨A2, c2, rfl, hrows, hb⟩
    have HR := Lib.hid hrows
    have HB2 := Lib.hid (below_up HB.out hb)
    have HX2 := Lib.hid (HX.out.keep (Keep.below HB2.out))
    clear hrows hb HB HTC HX
    generalize treeI n r = list at *
    have HU0 := Lib.hid (IU.nil w2)
    go_wp2
    go_loopw [5, 17] (fun v s wr => ∃ k : Nat, k ≤ list.length ∧ s = .int .i64 k ∧ Hid (IU w2 v (sumL a (list.take k) n) wr)) (fun _ s _ => list.length - (intOf s).toNat)
    case atStart => exact ⟨0, Nat.zero_le _, rfl, HU0⟩
    case round =>
      clear HU0
      obtain ⟨k, hk, rfl, HU⟩ := hrel
      obtain ⟨Av, cv, rfl⟩ := HU.out.bi.form
      by_cases hkl : k < list.length
      · obtain ⟨b, o, rfl, hcell⟩ := (HR.out.keep (Keep.below HU.out.up)).at_ (by omega)
        obtain ⟨R, cc, c1, hI⟩ := hcell k hkl
        obtain ⟨hlk, hbk⟩ := HTM.out _ (gr_mem hkl)
        rw [hlk] at c1 hI
        have HCO := Lib.hid (costsOf_any A R n c cc a (gr list k) wr (HX2.out.keep (Keep.below HU.out.up)) hI HSQ.out hbk h4)
        have HSS := Lib.hid (sumL_snoc (a := a) (n := n) hkl)
        have HBD := Lib.hid (csL_bd HSQ2.out (by omega) hlk hbk)
        have HCL := Lib.hid (csL_len a (gr list k) n)
        have HLA := Lib.hid (show (sumL a (list.take k) n).length ≤ 64 by rw [sumL_len, List.length_take]; omega)
        clear hcell hI hlk hbk
        generalize csL a (gr list k) n = ys at *
        generalize sumL a (list.take k) n = acc at *
        have hty : -(80 : Int) ≤ tot ys ∧ tot ys ≤ 80 := by
          have h := sm_bd (xs := ys) (lo := -20) (hi := 20) (k := ys.length) (fun j hj => HBD.out j (by rw [HCL.out] at hj; exact hj))
          rw [HCL.out] at h
          rw [tot, HCL.out]
          omega
        have HSO := Lib.hid (show SumOk ys from ⟨by rw [HCL.out]; omega, fun j hj => by have := HBD.out j (by rw [HCL.out] at hj; exact hj); omega⟩)
        go_wp2_with fail
        refine HCO.out.mono ?_
        rintro e w3 ⟨rfl, ho, hb, -⟩
        have HU3 := Lib.hid (HU.out.next hb)
        have HY := Lib.hid ho.ints
        clear HCO ho hb HU c1
        generalize hgz : wr.heap.size = gz at *
        clear hgz
        have HSC := Lib.hid (sumOf_any _ _ _ ys _ HY.out HSO.out)
        go_wp2_with fail
        refine HSC.out.mono ?_
        rintro e w4 ⟨rfl, hq⟩
        have HU4 := Lib.hid (HU3.out.next (Quiet.below hq))
        clear HSC HU3 HY hq HSO HBD
        generalize tot ys = T at *
        have hb := below_alloc w4 (.cells #[iv T] 3)
        have HB4 := Lib.hid (HU4.out.bi.below hb).own
        have HN := Lib.hid (cell_one_new w4 (iv T) 3)
        have hwz := HU4.out.up.size
        clear hb
        obtain ⟨i0, hi0, hz0, hz1, hz2⟩ := info_parts Try.info_int
        go_wp2_with (at_builtin; refine wpList_append_own_at _ rfl _ _ 27 rfl w2.heap.size 3 i0 (.int .i64 0) 1 8 Try.underlying27 hi0 hz0 hz1 hz2 rfl (by decide) _ (acc).length ((acc).map iv) rfl HB4.out ⟨w4.heap.size, 0, none⟩ 1 1 [iv T] rfl rfl ?c1 ?c2 ?c3 ?c4 ?c5 ?_)
        case c1 => exact HN.out
        case c2 => intro u hu; simp at hu; subst hu; rfl
        case c3 => have := HLA.out; unfold maxLen; omega
        case c4 => have := HLA.out; omega
        case c5 => simp; omega
        intro v' w5 hown' hgrow _ hat
        have HU5 := Lib.hid (HU4.out.push hown' hgrow (by simpa using hat))
        clear HB4 HN hown' hgrow hat
        clear HU4
        go_wp2
        go_roundw
        case rel => exact ⟨k + 1, by omega, by go_num, Lib.hid (by rw [HSS.out]; exact HU5.out)⟩
        case measure => simp [intOf]; omega
      · obtain rfl : k = list.length := by omega
        have HIN := Lib.hid (show Ints wr Av (sumL a (list.take list.length) n).length cv (sumL a (list.take list.length) n) from HU.out.ints (by rw [sumL_len, List.length_take]; omega) (fun y hy => by
          obtain ⟨t, ht, rfl⟩ := List.mem_map.1 hy
          rw [List.take_length] at ht
          obtain ⟨h1, h2⟩ := HTM.out t ht
          have hbd := csL_bd HSQ2.out (by omega) h1 h2
          have h := sm_bd (xs := csL a t n) (lo := -20) (hi := 20) (k := n) hbd
          rw [tot, csL_len]
          omega))
        have HMC := Lib.hid (Min_any _ _ _ _ _ HIN.out (by rw [sumL_len, List.length_take]; omega))
        rw [List.take_length, HE.out] at HMC
        have HB3 := Lib.hid (below_up HB2.out HU.out.up)
        rw [List.take_length]
        clear HU HIN
        go_wp2_with fail
        refine HMC.out.mono ?_
        rintro e w3 ⟨rfl, hq⟩
        have HB4 := Lib.hid (below_quiet HB3.out hq)
        clear HMC hq HB3
        go_wp2
        go_ret
        exact ⟨rfl, HB4.out⟩
  · have HP := Lib.hid (show TF a root = -1 by
      rw [TF]
      by_cases h : VC a
      · rw [pb_true h, pb_false (fun h2 => hv ⟨h, h2⟩)]; rfl
      · rw [pb_false h]; rfl)
    have HC2 := Lib.hid HC.out
    rw [show (pb (VC a) && pb (Blw a.length root)) = false by
      by_cases h : VC a
      · rw [pb_true h, pb_false (fun h2 => hv ⟨h, h2⟩)]; rfl
      · rw [pb_false h]; rfl] at HC2
    clear hv HC hf
    go_enter Try.func14, Try.ntmps14
    go_wp2_with fail
    refine HC2.out.mono ?_
    rintro e w1 ⟨rfl, hq⟩
    have HB := Lib.hid (Quiet.below (B := w.heap.size) hq)
    clear HC2 hq
    go_wp2
    go_ret
    exact ⟨ret_int HP.out.symm, HB.out⟩
end Go.Proofs.Ytlflogpgfbcboaa

