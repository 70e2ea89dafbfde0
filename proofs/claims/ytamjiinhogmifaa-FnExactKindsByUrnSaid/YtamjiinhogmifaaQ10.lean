/- Texts merged: J5 J3 J6 C9 E9. -/
import Derived.Test.YtamjiinhogmifaaQ9
import Derived.Laws.OwnMore
/- PartsOf, by both programs. -/
namespace Go.Proofs.Ytamjiinhogmifaa
open Go.RowKit

theorem run_append_empty {P : Program} (w : World) (base : Nat) (t ty e : TypeId) (i : TypeInfo) (size : Nat) (ht : P.underlying t = some (.slice e)) (hi : P.info? e = some i)
    (v : Value) (n : Nat) (xs : List Value) (hown : w.ownsRow base e size v n xs) (R : Option Addr) (c : Nat) :
    (Builtin.append_ #[t, t] ty #[v, .slice R 0 c]).run P w = .ok v w := by
  rcases hown.2 with ⟨rfl, rfl⟩ | ⟨g, cap, cur, rfl, _, _, hnc, _⟩
  · cases R <;> simp [Builtin.append_, run_underlying ht, sizeOf, typeInfo, hi, Builtin.lenOf, Builtin.firstCells, loadCells, loadCellsFrom]
  · cases R <;> simp [Builtin.append_, run_underlying ht, sizeOf, typeInfo, hi, Builtin.lenOf, Builtin.firstCells, loadCells, loadCellsFrom, hnc, storeCells]

/-- A number ahead of a row: a new row. -/
theorem row_new (w : World) (x : Int) (R : Option Addr) (m c : Nat) (r : List Int) (hr : Ints w R m c r) (hm : m ≤ 20) (hx : -9223372036854775808 ≤ x ∧ x ≤ 9223372036854775807) :
    ∃ A cc w5 g, (Builtin.append_ #[28, 28] 28 #[.slice (some ⟨w.heap.size, 0, none⟩) 1 1, .slice R m c]).run Try.prog (w.alloc (.cells #[.int .i64 x] 3)) = .ok (.slice A (x :: r).length cc) w5 ∧
      Below w.heap.size w w5 ∧ OwnI w.heap.size w5.heap.size w5 g A (x :: r).length cc (x :: r) := by
  obtain ⟨i0, hi0, hz0, hz1, hz2⟩ := info_parts Try.info_int
  have hb := below_alloc w (.cells #[.int .i64 x] 3)
  have hown : (w.alloc (.cells #[.int .i64 x] 3)).ownsRow w.heap.size 3 1 (.slice (some ⟨w.heap.size, 0, none⟩) 1 1) 1 [iv x] :=
    World.ownsRow_lit w #[.int .i64 x] 1 (Nat.le_refl _) (by unfold maxLen; omega) rfl
  have hwf : ∀ y ∈ x :: r, -9223372036854775808 ≤ y ∧ y ≤ 9223372036854775807 := by
    intro y hy
    rcases List.mem_cons.1 hy with rfl | hy
    · exact hx
    · exact hr.wf y hy
  have hl := hr.len
  have key : ∀ (v' : Value) (w5 : World), w5.ownsRow w.heap.size 3 1 v' (1 + m) ([iv x] ++ r.map iv) → (w.alloc (.cells #[.int .i64 x] 3)).grownBy w5 (some w.heap.size) →
      (v'.ownBlock = some w.heap.size ∨ v'.ownBlock = some (w.heap.size + 1)) →
      ∃ A cc g, v' = .slice A (x :: r).length cc ∧ Below w.heap.size w w5 ∧ OwnI w.heap.size w5.heap.size w5 g A (x :: r).length cc (x :: r) := by
    intro v' w5 ho hg hat
    have hz := hg.size
    simp only [World.size_alloc] at hz
    have hB : BldI w.heap.size w5.heap.size w5 v' (x :: r) := ⟨by
      have e : (x :: r).length = 1 + m := by rw [List.length_cons, hl]; omega
      rw [e]; exact ho, fun k hk => by
      rcases hat with hat | hat <;> (rw [hat] at hk; injection hk with hk; first | omega | (have := (ho.lt k (by rw [hat, hk])).2; omega))⟩
    obtain ⟨A, n, cc, g, rfl, rfl, hI, _⟩ := hB.owns (by rw [List.length_cons, hl]; omega) hwf
    exact ⟨A, cc, g, rfl, hb.grown hg (by simp) (fun k hk => by injection hk with hk; omega), hI⟩
  by_cases h0 : m = 0
  · subst h0
    have hr0 : r = [] := List.eq_nil_of_length_eq_zero hl
    subst hr0
    obtain ⟨A, cc, g, e, h1, h2⟩ := key (.slice (some ⟨w.heap.size, 0, none⟩) 1 1) (w.alloc (.cells #[.int .i64 x] 3)) (by simpa using hown) ⟨rfl, rfl, rfl, Nat.le_refl _, fun _ _ _ => rfl⟩ (.inl rfl)
    refine ⟨A, cc, _, g, ?_, h1, h2⟩
    rw [← e]
    exact run_append_empty _ w.heap.size _ _ 3 i0 1 Try.underlying28 hi0 _ 1 [iv x] hown R c
  · obtain ⟨b, o, rfl, hc⟩ := hr.at_ (by omega)
    obtain ⟨v', w5, e, ho, hg, _, hat⟩ := run_append_own_at (P := Try.prog) (w.alloc (.cells #[.int .i64 x] 3)) w.heap.size 28 28 3 i0 (.int .i64 0) 1 8 Try.underlying28 hi0 hz0 hz1 hz2 rfl (by decide) (.slice (some ⟨w.heap.size, 0, none⟩) 1 1) 1 [iv x] hown ⟨b, o, none⟩ m c (r.map iv)
      (by rw [List.length_map, hl]; omega) (by
        have h := news_take (w := w.alloc (.cells #[.int .i64 x] 3)) (j := r.length) (xs := r) (b := b) (o := o) rfl (fun k hk => Keep.below hb _ _ (hc k (by omega)))
        rw [List.take_length] at h; exact h) (ones_map _) (by unfold maxLen; omega) (by omega) (by simp)
    obtain ⟨A, cc, g, e', h1, h2⟩ := key v' w5 ho hg (by simpa [Value.ownBlock] using hat)
    exact ⟨A, cc, w5, g, by rw [← e']; exact e, h1, h2⟩

/-- A table of one empty row. -/
theorem NewT.one_empty {w w' : World} {R : Option Addr} {g : Nat} (hb : Below w.heap.size w w') (hg : w.heap.size ≤ g) (hB : Blk w' g 28 #[.slice R 0 0]) : NewT w [[]] (.returned (.slice (some ⟨g, 0, Option.none⟩) 1 1)) w' :=
  ⟨_, _, _, g, rfl, rfl, ⟨rfl, Nat.le_refl _, by omega, fun _ => ⟨0, fun _ => g, fun _ => R, fun _ => 0, rfl, hg, blk_lt hB, fun k hk => by
    obtain rfl : k = 0 := by omega
    exact ⟨blk_frozen hB _, blk_cell hB rfl, ⟨⟨rfl, Nat.le_refl _, by show (0 : Nat) ≤ _; omega, fun x hx => by simp [gr] at hx, fun h => by simp [gr] at h⟩, fun h => by simp [gr] at h⟩, fun h => by simp [gr] at h⟩, fun j k _ hk h => by simp at hk; subst hk; simp [gr] at h; omega⟩⟩, hb⟩

/-- Rows under way, and a list that is read beside them. -/
structure PI (w : World) (lo hi : Nat) (v : Value) (vs : List Value) (acc : List (List Int)) (gg : Nat) (A : Option Addr) (n c : Nat) (list : List (List Int)) (wr : World) : Prop where
  tm : TM w v vs acc wr
  li : OwnR lo hi wr gg A n c list
  hi_ : hi ≤ wr.heap.size
  far : ∀ k, v.ownBlock = some k → k < lo ∨ hi ≤ k
theorem PI.start {w w1 w2 : World} {v : Value} {vs : List Value} {acc : List (List Int)} {gg : Nat} {A : Option Addr} {n c : Nat} {list : List (List Int)} (h : TM w v vs acc w1) (ho : OwnR w1.heap.size w2.heap.size w2 gg A n c list) (hb : Below w1.heap.size w1 w2) :
    PI w w1.heap.size w2.heap.size v vs acc gg A n c list w2 :=
  ⟨h.next hb, ho, Nat.le_refl _, fun k hk => .inl (h.bo.hi_ k hk)⟩
theorem PI.push {w wr w5 w6 : World} {lo hi : Nat} {v v' : Value} {vs : List Value} {acc list : List (List Int)} {gg n c cr g : Nat} {A Ar : Option Addr} {r : List Int} (h : PI w lo hi v vs acc gg A n c list wr)
    (hk : Below wr.heap.size wr w5) (hr : OwnI wr.heap.size w5.heap.size w5 g Ar r.length cr r)
    (hown : w6.ownsRow w.heap.size 28 1 v' (acc.length + 1) (vs ++ [.slice Ar r.length cr])) (hgrow : (w5.alloc (.cells #[.slice Ar r.length cr] 28)).grownBy w6 v.ownBlock)
    (hat : v'.ownBlock = v.ownBlock ∨ v'.ownBlock = some (w5.heap.size + 1)) : PI w lo hi v' (vs ++ [.slice Ar r.length cr]) (acc ++ [r]) gg A n c list w6 := by
  have h1 := h.hi_
  have h2 := hk.size
  have h3 := hgrow.size
  simp only [World.size_alloc] at h3
  refine ⟨h.tm.push hk hr hown hgrow hat, h.li.of_blocks fun g h4 h5 h6 => ?_, by omega, fun k hk => ?_⟩
  · refine (hgrow.block g (by simp; omega) (fun e => ?_)).trans ((Below.heap_alloc _ _ _ (by omega)).trans (hk.block g h6))
    have := h.far g e.symm
    omega
  · rcases hat with hat | hat
    · exact h.far k (by rw [← hat]; exact hk)
    · rw [hat] at hk; injection hk with hk; omega
theorem partsFrom_any_zero (w : World) (most : Nat) : Calls Try.prog 46 #[.int .i64 ((0 : Nat) : Int), .int .i64 most] w (NewT w [[]]) := by
    have hb1 := blk_new (w.alloc (.cells #[] 3)) 28 #[.slice (some ⟨w.heap.size, 0, none⟩) 0 0]
    have HE0 := NewT.one_empty (below_up (below_alloc w (.cells #[] 3)) (below_alloc _ _)) (by simp) hb1
    simp only [World.size_alloc] at HE0
    have HE := Lib.hid HE0
    clear HE0 hb1
    go_enter Try.func46, Try.ntmps46
    go_wp2
    go_ret
    exact HE.out
set_option maxRecDepth 100000 in
set_option maxHeartbeats 1600000 in
theorem partsFrom_any : ∀ F, F ≤ 7 → ∀ n most : Nat, n ≤ F → n ≤ 7 → most ≤ 7 → ∀ w, Calls Try.prog 46 #[.int .i64 n, .int .i64 most] w (NewT w (pts F n most)) := by
  intro F
  induction F with
  | zero =>
    intro _ n most hn _ _ w
    obtain rfl : n = 0 := by omega
    rw [pts_zero]
    exact partsFrom_any_zero w most
  | succ F ih =>
    intro hF n most hn hn7 hm7 w
    by_cases h0 : n = 0
    · subst h0; rw [pts_zero]; exact partsFrom_any_zero w most
    · have IH := Lib.hid (fun n most h1 h2 h3 w => ih (by omega) n most h1 h2 h3 w)
      clear ih
      have hz : ((n : Int) == 0) = false := by simp; omega
      have HS0 := Lib.hid (TM.start w)
      by_cases hc : most < n
      · have hci : (most : Int) < (n : Int) := by omega
        have HPT : Hid (ptsT (pts F) n most most = pts (F + 1) n most) := Lib.hid (by rw [pts_pos (by omega), Nat.min_eq_right (by omega)])
        clear h0
        go_enter Try.func46, Try.ntmps46
        go_wp2
        go_loopw [5, 6] (fun v i wr => ∃ (t x : Nat) (vs : List Value), x + t = most ∧ i = .int .i64 x ∧ Hid (TM w v vs (ptsT (pts F) n most t) wr)) (fun _ i _ => (intOf i).toNat)
        case atStart => exact ⟨0, most, [], rfl, rfl, HS0⟩
        case round =>
          clear HS0
          obtain ⟨t, x, vs, hxt, rfl, HT⟩ := hrel
          obtain ⟨Av, cv, rfl⟩ := HT.out.bo.form
          have HTB := Lib.hid (ptsT_bd0 F (by omega) n (by omega) most (by omega) t (by omega))
          by_cases hx : 1 ≤ x
          · have hx1 : decide ((1 : Int) ≤ (x : Int)) = true := decide_eq_true (by omega)
            have hx2 : (1 : Int) ≤ (x : Int) := by omega
            have hxn : x ≤ n := by omega
            have HC : Hid (∀ W, Calls Try.prog 46 #[.int .i64 ((n : Int) - (x : Int)), .int .i64 x] W (NewT W (pts F (n - x) x))) := Lib.hid (fun W => by
              have h := IH.out (n - x) x (by omega) (by omega) (by omega) W
              rw [show ((n - x : Nat) : Int) = (n : Int) - (x : Int) by omega] at h
              exact h)
            have HST := Lib.hid (show ptsT (pts F) n most (t + 1) = ptsT (pts F) n most t ++ (pts F (n - x) x).map (fun r => (x : Int) :: r) by
              show ptsT (pts F) n most t ++ _ = _
              rw [show most - t = x by omega])
            have HBD := Lib.hid (pts_bd0 F (by omega) (n - x) (by omega) x (by omega))
            generalize pts F (n - x) x = list at *
            generalize hacc : ptsT (pts F) n most t = acc at *
            clear hacc
            go_wp2_with fail
            refine (HC.out _).mono ?_
            rintro e w2 ⟨Al, nl, cl, gl, rfl, hnl, ho, hb⟩
            subst hnl
            have HPI := Lib.hid (PI.start HT.out ho hb)
            have HL40 := Lib.hid HBD.out.1
            have hl40 := HBD.out.1
            clear ho hb HC HT
            generalize wr.heap.size = lo at *
            go_wp2
            generalize w2.heap.size = hi at *
            go_loopw [5, 8] (fun v i wi => ∃ (k : Nat) (vs : List Value), k ≤ list.length ∧ i = .int .i64 k ∧ Hid (PI w lo hi v vs (acc ++ (list.take k).map (fun r => (x : Int) :: r)) gl Al list.length cl list wi)) (fun _ i _ => list.length - (intOf i).toNat)
            case atStart => exact ⟨0, vs, Nat.zero_le _, rfl, Lib.hid (by simpa using HPI.out)⟩
            case round =>
              clear HPI
              obtain ⟨i, vs, hi_, rfl, HPI⟩ := hrel
              obtain ⟨Av, cv, rfl⟩ := HPI.out.tm.bo.form
              by_cases hlt : i < list.length
              · obtain ⟨ol, G, RR, CC, rfl, _, _, hcell, _⟩ := HPI.out.li.at_ (by omega)
                obtain ⟨_, c1, hri, _⟩ := hcell i hlt
                have hgl := World.block_lt_of_cell? _ _ c1
                have hgn : gl ≠ wr.heap.size := Nat.ne_of_lt hgl
                have HRB := Lib.hid (HBD.out.2 _ (gr_mem hlt))
                obtain ⟨Ar, cr, w5, gr5, hrun, hb5, hI5⟩ := row_new wr (x : Int) (RR i) _ (CC i) (gr list i) hri.ints (by have := HRB.out.1; omega) (by omega)
                have HRUN := Lib.hid hrun
                have HB5 := Lib.hid hb5
                have HI5 := Lib.hid hI5
                have HTK := Lib.hid (take_cons_succ list (x : Int) hlt)
                have HAL := Lib.hid (show (acc ++ (list.take i).map (fun r => (x : Int) :: r)).length ≤ 90 by rw [List.length_append, List.length_map, List.length_take]; have := HTB.out; have := HL40.out; omega)
                clear hcell hri hrun hb5 hI5
                generalize (x : Int) :: gr list i = row at *
                generalize (list.take i).map (fun r => (x : Int) :: r) = part at *
                generalize hac2 : acc ++ part = ac2 at *
                have HAC := Lib.hid hac2
                clear hac2
                have HPN := Lib.hid ((HPI.out.tm.next HB5.out).bo.below (below_alloc w5 (.cells #[.slice Ar row.length cr] 28))).own
                have HN := Lib.hid (cell_one_new w5 (.slice Ar row.length cr) 28)
                have hlh : w.heap.size ≤ w5.heap.size := Nat.le_trans HPI.out.tm.up.size HB5.out.size
                obtain ⟨i1, hi1, hy0, hy1, hy2⟩ := info_parts Try.info_row
                go_wp2_with (first
                  | (at_builtin; refine Lib.wpList_append_run _ rfl _ _ _ _ rfl _ _ rfl rfl _ _ HRUN.out ?_)
                  | (at_builtin; refine wpList_append_own_at _ rfl _ _ 24 rfl w.heap.size 28 i1 (.slice none 0 0) 1 24 Try.underlying24 hi1 hy0 hy1 hy2 rfl (by decide) _ ac2.length vs rfl HPN.out ⟨w5.heap.size, 0, none⟩ 1 1 [.slice Ar row.length cr] rfl rfl (by exact HN.out) ?d2 ?d3 ?d4 ?d5 ?_))
                case d2 => first | (intro u hu; simp at hu; subst hu; rfl) | rfl | simp [Value.oneCell']
                case d3 => have := HAL.out; unfold maxLen; omega
                case d4 => have := HAL.out; omega
                case d5 => first | omega | (simp; omega)
                intro v' w6 hown' hgrow _ hat
                have HPI6 := Lib.hid (HPI.out.push HB5.out HI5.out hown' hgrow (by simpa using hat))
                clear HPN HN hown' hgrow hat HPI HRUN HB5 HI5 c1
                go_wp2
                go_roundw
                case rel => exact ⟨i + 1, _, by omega, by go_num, Lib.hid (by rw [HTK.out, ← List.append_assoc, HAC.out]; exact HPI6.out)⟩
                case measure => simp [intOf]; omega
              · obtain rfl : i = list.length := by omega
                have HTM := Lib.hid (show TM w (.slice Av (ptsT (pts F) n most (t + 1)).length cv) vs (ptsT (pts F) n most (t + 1)) wr by have h := HPI.out.tm; rw [List.take_length, ← HST.out] at h; exact h)
                have HLE := Lib.hid (show (acc ++ (list.take list.length).map (fun r => (x : Int) :: r)).length = (ptsT (pts F) n most (t + 1)).length by rw [List.take_length, ← HST.out])
                rw [HLE.out]
                clear HPI HST HLE
                go_wp2
                go_roundw
                case rel => exact ⟨t + 1, x - 1, vs, by omega, by go_num, HTM⟩
                case measure => simp [intOf]; omega
          · have hx1 : decide ((1 : Int) ≤ (x : Int)) = false := decide_eq_false (by omega)
            obtain rfl : x = 0 := by omega
            obtain rfl : t = most := by omega
            have HN := Lib.hid (HT.out.new (by have := HTB.out; omega))
            clear HT
            go_wp2
            go_ret
            exact HPT.out ▸ HN.out
      · have hci : ¬ (most : Int) < (n : Int) := by omega
        have HPT : Hid (ptsT (pts F) n n n = pts (F + 1) n most) := Lib.hid (by rw [pts_pos (by omega), Nat.min_eq_left (by omega)])
        clear h0
        go_enter Try.func46, Try.ntmps46
        go_wp2
        go_loopw [5, 6] (fun v i wr => ∃ (t x : Nat) (vs : List Value), x + t = n ∧ i = .int .i64 x ∧ Hid (TM w v vs (ptsT (pts F) n n t) wr)) (fun _ i _ => (intOf i).toNat)
        case atStart => exact ⟨0, n, [], rfl, rfl, HS0⟩
        case round =>
          clear HS0
          obtain ⟨t, x, vs, hxt, rfl, HT⟩ := hrel
          obtain ⟨Av, cv, rfl⟩ := HT.out.bo.form
          have HTB := Lib.hid (ptsT_bd0 F (by omega) n (by omega) n (by omega) t (by omega))
          by_cases hx : 1 ≤ x
          · have hx1 : decide ((1 : Int) ≤ (x : Int)) = true := decide_eq_true (by omega)
            have hx2 : (1 : Int) ≤ (x : Int) := by omega
            have hxn : x ≤ n := by omega
            have HC : Hid (∀ W, Calls Try.prog 46 #[.int .i64 ((n : Int) - (x : Int)), .int .i64 x] W (NewT W (pts F (n - x) x))) := Lib.hid (fun W => by
              have h := IH.out (n - x) x (by omega) (by omega) (by omega) W
              rw [show ((n - x : Nat) : Int) = (n : Int) - (x : Int) by omega] at h
              exact h)
            have HST := Lib.hid (show ptsT (pts F) n n (t + 1) = ptsT (pts F) n n t ++ (pts F (n - x) x).map (fun r => (x : Int) :: r) by
              show ptsT (pts F) n n t ++ _ = _
              rw [show n - t = x by omega])
            have HBD := Lib.hid (pts_bd0 F (by omega) (n - x) (by omega) x (by omega))
            generalize pts F (n - x) x = list at *
            generalize hacc : ptsT (pts F) n n t = acc at *
            clear hacc
            go_wp2_with fail
            refine (HC.out _).mono ?_
            rintro e w2 ⟨Al, nl, cl, gl, rfl, hnl, ho, hb⟩
            subst hnl
            have HPI := Lib.hid (PI.start HT.out ho hb)
            have HL40 := Lib.hid HBD.out.1
            have hl40 := HBD.out.1
            clear ho hb HC HT
            generalize wr.heap.size = lo at *
            go_wp2
            generalize w2.heap.size = hi at *
            go_loopw [5, 8] (fun v i wi => ∃ (k : Nat) (vs : List Value), k ≤ list.length ∧ i = .int .i64 k ∧ Hid (PI w lo hi v vs (acc ++ (list.take k).map (fun r => (x : Int) :: r)) gl Al list.length cl list wi)) (fun _ i _ => list.length - (intOf i).toNat)
            case atStart => exact ⟨0, vs, Nat.zero_le _, rfl, Lib.hid (by simpa using HPI.out)⟩
            case round =>
              clear HPI
              obtain ⟨i, vs, hi_, rfl, HPI⟩ := hrel
              obtain ⟨Av, cv, rfl⟩ := HPI.out.tm.bo.form
              by_cases hlt : i < list.length
              · obtain ⟨ol, G, RR, CC, rfl, _, _, hcell, _⟩ := HPI.out.li.at_ (by omega)
                obtain ⟨_, c1, hri, _⟩ := hcell i hlt
                have hgl := World.block_lt_of_cell? _ _ c1
                have hgn : gl ≠ wr.heap.size := Nat.ne_of_lt hgl
                have HRB := Lib.hid (HBD.out.2 _ (gr_mem hlt))
                obtain ⟨Ar, cr, w5, gr5, hrun, hb5, hI5⟩ := row_new wr (x : Int) (RR i) _ (CC i) (gr list i) hri.ints (by have := HRB.out.1; omega) (by omega)
                have HRUN := Lib.hid hrun
                have HB5 := Lib.hid hb5
                have HI5 := Lib.hid hI5
                have HTK := Lib.hid (take_cons_succ list (x : Int) hlt)
                have HAL := Lib.hid (show (acc ++ (list.take i).map (fun r => (x : Int) :: r)).length ≤ 90 by rw [List.length_append, List.length_map, List.length_take]; have := HTB.out; have := HL40.out; omega)
                clear hcell hri hrun hb5 hI5
                generalize (x : Int) :: gr list i = row at *
                generalize (list.take i).map (fun r => (x : Int) :: r) = part at *
                generalize hac2 : acc ++ part = ac2 at *
                have HAC := Lib.hid hac2
                clear hac2
                have HPN := Lib.hid ((HPI.out.tm.next HB5.out).bo.below (below_alloc w5 (.cells #[.slice Ar row.length cr] 28))).own
                have HN := Lib.hid (cell_one_new w5 (.slice Ar row.length cr) 28)
                have hlh : w.heap.size ≤ w5.heap.size := Nat.le_trans HPI.out.tm.up.size HB5.out.size
                obtain ⟨i1, hi1, hy0, hy1, hy2⟩ := info_parts Try.info_row
                go_wp2_with (first
                  | (at_builtin; refine Lib.wpList_append_run _ rfl _ _ _ _ rfl _ _ rfl rfl _ _ HRUN.out ?_)
                  | (at_builtin; refine wpList_append_own_at _ rfl _ _ 24 rfl w.heap.size 28 i1 (.slice none 0 0) 1 24 Try.underlying24 hi1 hy0 hy1 hy2 rfl (by decide) _ ac2.length vs rfl HPN.out ⟨w5.heap.size, 0, none⟩ 1 1 [.slice Ar row.length cr] rfl rfl (by exact HN.out) ?e2 ?e3 ?e4 ?e5 ?_))
                case e2 => first | (intro u hu; simp at hu; subst hu; rfl) | rfl | simp [Value.oneCell']
                case e3 => have := HAL.out; unfold maxLen; omega
                case e4 => have := HAL.out; omega
                case e5 => first | omega | (simp; omega)
                intro v' w6 hown' hgrow _ hat
                have HPI6 := Lib.hid (HPI.out.push HB5.out HI5.out hown' hgrow (by simpa using hat))
                clear HPN HN hown' hgrow hat HPI HRUN HB5 HI5 c1
                go_wp2
                go_roundw
                case rel => exact ⟨i + 1, _, by omega, by go_num, Lib.hid (by rw [HTK.out, ← List.append_assoc, HAC.out]; exact HPI6.out)⟩
                case measure => simp [intOf]; omega
              · obtain rfl : i = list.length := by omega
                have HTM := Lib.hid (show TM w (.slice Av (ptsT (pts F) n n (t + 1)).length cv) vs (ptsT (pts F) n n (t + 1)) wr by have h := HPI.out.tm; rw [List.take_length, ← HST.out] at h; exact h)
                have HLE := Lib.hid (show (acc ++ (list.take list.length).map (fun r => (x : Int) :: r)).length = (ptsT (pts F) n n (t + 1)).length by rw [List.take_length, ← HST.out])
                rw [HLE.out]
                clear HPI HST HLE
                go_wp2
                go_roundw
                case rel => exact ⟨t + 1, x - 1, vs, by omega, by go_num, HTM⟩
                case measure => simp [intOf]; omega
          · have hx1 : decide ((1 : Int) ≤ (x : Int)) = false := decide_eq_false (by omega)
            obtain rfl : x = 0 := by omega
            obtain rfl : t = n := by omega
            have HN := Lib.hid (HT.out.new (by have := HTB.out; omega))
            clear HT
            go_wp2
            go_ret
            exact HPT.out ▸ HN.out
theorem partsUpTo_any_zero (w : World) (most : Nat) : Calls Try.prog 43 #[.int .i64 ((0 : Nat) : Int), .int .i64 most] w (NewT w [[]]) := by
    have hb1 := blk_new w 28 #[.slice none 0 0]
    have HE := Lib.hid (NewT.one_empty (below_alloc w _) (Nat.le_refl _) hb1)
    go_enter Try.func43, Try.ntmps43
    go_wp2
    go_ret
    exact HE.out
set_option maxRecDepth 100000 in
set_option maxHeartbeats 1600000 in
theorem partsUpTo_any : ∀ F, F ≤ 7 → ∀ n most : Nat, n ≤ F → n ≤ 7 → most ≤ 7 → ∀ w, Calls Try.prog 43 #[.int .i64 n, .int .i64 most] w (NewT w (pts F n most)) := by
  intro F
  induction F with
  | zero =>
    intro _ n most hn _ _ w
    obtain rfl : n = 0 := by omega
    rw [pts_zero]
    exact partsUpTo_any_zero w most
  | succ F ih =>
    intro hF n most hn hn7 hm7 w
    by_cases h0 : n = 0
    · subst h0; rw [pts_zero]; exact partsUpTo_any_zero w most
    · have IH := Lib.hid (fun n most h1 h2 h3 w => ih (by omega) n most h1 h2 h3 w)
      clear ih
      have hz : ((n : Int) == 0) = false := by simp; omega
      have HS0 := Lib.hid (TM.nil w)
      by_cases hc : most < n
      · have hci : (most : Int) < (n : Int) := by omega
        have HPT : Hid (ptsT (pts F) n most most = pts (F + 1) n most) := Lib.hid (by rw [pts_pos (by omega), Nat.min_eq_right (by omega)])
        clear h0
        go_enter Try.func43, Try.ntmps43
        go_wp2
        go_loopw [5, 6] (fun v i wr => ∃ (t x : Nat) (vs : List Value), x + t = most ∧ i = .int .i64 x ∧ Hid (TM w v vs (ptsT (pts F) n most t) wr)) (fun _ i _ => (intOf i).toNat)
        case atStart => exact ⟨0, most, [], rfl, rfl, HS0⟩
        case round =>
          clear HS0
          obtain ⟨t, x, vs, hxt, rfl, HT⟩ := hrel
          obtain ⟨Av, cv, rfl⟩ := HT.out.bo.form
          have HTB := Lib.hid (ptsT_bd0 F (by omega) n (by omega) most (by omega) t (by omega))
          by_cases hx : 1 ≤ x
          · have hx1 : decide ((1 : Int) ≤ (x : Int)) = true := decide_eq_true (by omega)
            have hx2 : (1 : Int) ≤ (x : Int) := by omega
            have hxn : x ≤ n := by omega
            have HC : Hid (∀ W, Calls Try.prog 43 #[.int .i64 ((n : Int) - (x : Int)), .int .i64 x] W (NewT W (pts F (n - x) x))) := Lib.hid (fun W => by
              have h := IH.out (n - x) x (by omega) (by omega) (by omega) W
              rw [show ((n - x : Nat) : Int) = (n : Int) - (x : Int) by omega] at h
              exact h)
            have HST := Lib.hid (show ptsT (pts F) n most (t + 1) = ptsT (pts F) n most t ++ (pts F (n - x) x).map (fun r => (x : Int) :: r) by
              show ptsT (pts F) n most t ++ _ = _
              rw [show most - t = x by omega])
            have HBD := Lib.hid (pts_bd0 F (by omega) (n - x) (by omega) x (by omega))
            generalize pts F (n - x) x = list at *
            generalize hacc : ptsT (pts F) n most t = acc at *
            clear hacc
            go_wp2_with fail
            refine (HC.out _).mono ?_
            rintro e w2 ⟨Al, nl, cl, gl, rfl, hnl, ho, hb⟩
            subst hnl
            have HPI := Lib.hid (PI.start HT.out ho hb)
            have HL40 := Lib.hid HBD.out.1
            have hl40 := HBD.out.1
            clear ho hb HC HT
            generalize wr.heap.size = lo at *
            go_wp2
            generalize w2.heap.size = hi at *
            go_loopw [5, 8, 25] (fun v _ i wi => ∃ (k : Nat) (vs : List Value), k ≤ list.length ∧ i = .int .i64 k ∧ Hid (PI w lo hi v vs (acc ++ (list.take k).map (fun r => (x : Int) :: r)) gl Al list.length cl list wi)) (fun _ _ i _ => list.length - (intOf i).toNat)
            case atStart => exact ⟨0, vs, Nat.zero_le _, rfl, Lib.hid (by simpa using HPI.out)⟩
            case round =>
              clear HPI
              obtain ⟨i, vs, hi_, rfl, HPI⟩ := hrel
              obtain ⟨Av, cv, rfl⟩ := HPI.out.tm.bo.form
              by_cases hlt : i < list.length
              · obtain ⟨ol, G, RR, CC, rfl, _, _, hcell, _⟩ := HPI.out.li.at_ (by omega)
                obtain ⟨_, c1, hri, _⟩ := hcell i hlt
                have HRB := Lib.hid (HBD.out.2 _ (gr_mem hlt))
                obtain ⟨Ar, cr, w5, gr5, hrun, hb5, hI5⟩ := row_new wr (x : Int) (RR i) _ (CC i) (gr list i) hri.ints (by have := HRB.out.1; omega) (by omega)
                have HRUN := Lib.hid hrun
                have HB5 := Lib.hid hb5
                have HI5 := Lib.hid hI5
                have HTK := Lib.hid (take_cons_succ list (x : Int) hlt)
                have HAL := Lib.hid (show (acc ++ (list.take i).map (fun r => (x : Int) :: r)).length ≤ 90 by rw [List.length_append, List.length_map, List.length_take]; have := HTB.out; have := HL40.out; omega)
                clear hcell hri hrun hb5 hI5
                generalize (x : Int) :: gr list i = row at *
                generalize (list.take i).map (fun r => (x : Int) :: r) = part at *
                generalize hac2 : acc ++ part = ac2 at *
                have HAC := Lib.hid hac2
                clear hac2
                have HPN := Lib.hid ((HPI.out.tm.next HB5.out).bo.below (below_alloc w5 (.cells #[.slice Ar row.length cr] 28))).own
                have HN := Lib.hid (cell_one_new w5 (.slice Ar row.length cr) 28)
                have hlh : w.heap.size ≤ w5.heap.size := Nat.le_trans HPI.out.tm.up.size HB5.out.size
                obtain ⟨i1, hi1, hy0, hy1, hy2⟩ := info_parts Try.info_row
                go_wp2_with (first
                  | (at_builtin; refine Lib.wpList_append_run _ rfl _ _ _ _ rfl _ _ rfl rfl _ _ HRUN.out ?_)
                  | (at_builtin; refine wpList_append_own_at _ rfl _ _ 24 rfl w.heap.size 28 i1 (.slice none 0 0) 1 24 Try.underlying24 hi1 hy0 hy1 hy2 rfl (by decide) _ ac2.length vs rfl HPN.out ⟨w5.heap.size, 0, none⟩ 1 1 [.slice Ar row.length cr] rfl rfl (by exact HN.out) ?d2 ?d3 ?d4 ?d5 ?_))
                case d2 => first | (intro u hu; simp at hu; subst hu; rfl) | rfl | simp [Value.oneCell']
                case d3 => have := HAL.out; unfold maxLen; omega
                case d4 => have := HAL.out; omega
                case d5 => first | omega | (simp; omega)
                intro v' w6 hown' hgrow _ hat
                have HPI6 := Lib.hid (HPI.out.push HB5.out HI5.out hown' hgrow (by simpa using hat))
                clear HPN HN hown' hgrow hat HPI HRUN HB5 HI5 c1
                go_wp2
                go_roundw
                case rel => exact ⟨i + 1, _, by omega, by go_num, Lib.hid (by rw [HTK.out, ← List.append_assoc, HAC.out]; exact HPI6.out)⟩
                case measure => simp [intOf]; omega
              · obtain rfl : i = list.length := by omega
                have HTM := Lib.hid (show TM w (.slice Av (ptsT (pts F) n most (t + 1)).length cv) vs (ptsT (pts F) n most (t + 1)) wr by have h := HPI.out.tm; rw [List.take_length, ← HST.out] at h; exact h)
                have HLE := Lib.hid (show (acc ++ (list.take list.length).map (fun r => (x : Int) :: r)).length = (ptsT (pts F) n most (t + 1)).length by rw [List.take_length, ← HST.out])
                rw [HLE.out]
                clear HPI HST HLE
                go_wp2
                go_roundw
                case rel => exact ⟨t + 1, x - 1, vs, by omega, by go_num, HTM⟩
                case measure => simp [intOf]; omega
          · have hx1 : decide ((1 : Int) ≤ (x : Int)) = false := decide_eq_false (by omega)
            obtain rfl : x = 0 := by omega
            obtain rfl : t = most := by omega
            have HN := Lib.hid (HT.out.new (by have := HTB.out; omega))
            clear HT
            go_wp2
            go_ret
            exact HPT.out ▸ HN.out
      · have hci : ¬ (most : Int) < (n : Int) := by omega
        have HPT : Hid (ptsT (pts F) n n n = pts (F + 1) n most) := Lib.hid (by rw [pts_pos (by omega), Nat.min_eq_left (by omega)])
        clear h0
        go_enter Try.func43, Try.ntmps43
        go_wp2
        go_loopw [5, 6] (fun v i wr => ∃ (t x : Nat) (vs : List Value), x + t = n ∧ i = .int .i64 x ∧ Hid (TM w v vs (ptsT (pts F) n n t) wr)) (fun _ i _ => (intOf i).toNat)
        case atStart => exact ⟨0, n, [], rfl, rfl, HS0⟩
        case round =>
          clear HS0
          obtain ⟨t, x, vs, hxt, rfl, HT⟩ := hrel
          obtain ⟨Av, cv, rfl⟩ := HT.out.bo.form
          have HTB := Lib.hid (ptsT_bd0 F (by omega) n (by omega) n (by omega) t (by omega))
          by_cases hx : 1 ≤ x
          · have hx1 : decide ((1 : Int) ≤ (x : Int)) = true := decide_eq_true (by omega)
            have hx2 : (1 : Int) ≤ (x : Int) := by omega
            have hxn : x ≤ n := by omega
            have HC : Hid (∀ W, Calls Try.prog 43 #[.int .i64 ((n : Int) - (x : Int)), .int .i64 x] W (NewT W (pts F (n - x) x))) := Lib.hid (fun W => by
              have h := IH.out (n - x) x (by omega) (by omega) (by omega) W
              rw [show ((n - x : Nat) : Int) = (n : Int) - (x : Int) by omega] at h
              exact h)
            have HST := Lib.hid (show ptsT (pts F) n n (t + 1) = ptsT (pts F) n n t ++ (pts F (n - x) x).map (fun r => (x : Int) :: r) by
              show ptsT (pts F) n n t ++ _ = _
              rw [show n - t = x by omega])
            have HBD := Lib.hid (pts_bd0 F (by omega) (n - x) (by omega) x (by omega))
            generalize pts F (n - x) x = list at *
            generalize hacc : ptsT (pts F) n n t = acc at *
            clear hacc
            go_wp2_with fail
            refine (HC.out _).mono ?_
            rintro e w2 ⟨Al, nl, cl, gl, rfl, hnl, ho, hb⟩
            subst hnl
            have HPI := Lib.hid (PI.start HT.out ho hb)
            have HL40 := Lib.hid HBD.out.1
            have hl40 := HBD.out.1
            clear ho hb HC HT
            generalize wr.heap.size = lo at *
            go_wp2
            generalize w2.heap.size = hi at *
            go_loopw [5, 8, 25] (fun v _ i wi => ∃ (k : Nat) (vs : List Value), k ≤ list.length ∧ i = .int .i64 k ∧ Hid (PI w lo hi v vs (acc ++ (list.take k).map (fun r => (x : Int) :: r)) gl Al list.length cl list wi)) (fun _ _ i _ => list.length - (intOf i).toNat)
            case atStart => exact ⟨0, vs, Nat.zero_le _, rfl, Lib.hid (by simpa using HPI.out)⟩
            case round =>
              clear HPI
              obtain ⟨i, vs, hi_, rfl, HPI⟩ := hrel
              obtain ⟨Av, cv, rfl⟩ := HPI.out.tm.bo.form
              by_cases hlt : i < list.length
              · obtain ⟨ol, G, RR, CC, rfl, _, _, hcell, _⟩ := HPI.out.li.at_ (by omega)
                obtain ⟨_, c1, hri, _⟩ := hcell i hlt
                have HRB := Lib.hid (HBD.out.2 _ (gr_mem hlt))
                obtain ⟨Ar, cr, w5, gr5, hrun, hb5, hI5⟩ := row_new wr (x : Int) (RR i) _ (CC i) (gr list i) hri.ints (by have := HRB.out.1; omega) (by omega)
                have HRUN := Lib.hid hrun
                have HB5 := Lib.hid hb5
                have HI5 := Lib.hid hI5
                have HTK := Lib.hid (take_cons_succ list (x : Int) hlt)
                have HAL := Lib.hid (show (acc ++ (list.take i).map (fun r => (x : Int) :: r)).length ≤ 90 by rw [List.length_append, List.length_map, List.length_take]; have := HTB.out; have := HL40.out; omega)
                clear hcell hri hrun hb5 hI5
                generalize (x : Int) :: gr list i = row at *
                generalize (list.take i).map (fun r => (x : Int) :: r) = part at *
                generalize hac2 : acc ++ part = ac2 at *
                have HAC := Lib.hid hac2
                clear hac2
                have HPN := Lib.hid ((HPI.out.tm.next HB5.out).bo.below (below_alloc w5 (.cells #[.slice Ar row.length cr] 28))).own
                have HN := Lib.hid (cell_one_new w5 (.slice Ar row.length cr) 28)
                have hlh : w.heap.size ≤ w5.heap.size := Nat.le_trans HPI.out.tm.up.size HB5.out.size
                obtain ⟨i1, hi1, hy0, hy1, hy2⟩ := info_parts Try.info_row
                go_wp2_with (first
                  | (at_builtin; refine Lib.wpList_append_run _ rfl _ _ _ _ rfl _ _ rfl rfl _ _ HRUN.out ?_)
                  | (at_builtin; refine wpList_append_own_at _ rfl _ _ 24 rfl w.heap.size 28 i1 (.slice none 0 0) 1 24 Try.underlying24 hi1 hy0 hy1 hy2 rfl (by decide) _ ac2.length vs rfl HPN.out ⟨w5.heap.size, 0, none⟩ 1 1 [.slice Ar row.length cr] rfl rfl (by exact HN.out) ?e2 ?e3 ?e4 ?e5 ?_))
                case e2 => first | (intro u hu; simp at hu; subst hu; rfl) | rfl | simp [Value.oneCell']
                case e3 => have := HAL.out; unfold maxLen; omega
                case e4 => have := HAL.out; omega
                case e5 => first | omega | (simp; omega)
                intro v' w6 hown' hgrow _ hat
                have HPI6 := Lib.hid (HPI.out.push HB5.out HI5.out hown' hgrow (by simpa using hat))
                clear HPN HN hown' hgrow hat HPI HRUN HB5 HI5 c1
                go_wp2
                go_roundw
                case rel => exact ⟨i + 1, _, by omega, by go_num, Lib.hid (by rw [HTK.out, ← List.append_assoc, HAC.out]; exact HPI6.out)⟩
                case measure => simp [intOf]; omega
              · obtain rfl : i = list.length := by omega
                have HTM := Lib.hid (show TM w (.slice Av (ptsT (pts F) n n (t + 1)).length cv) vs (ptsT (pts F) n n (t + 1)) wr by have h := HPI.out.tm; rw [List.take_length, ← HST.out] at h; exact h)
                have HLE := Lib.hid (show (acc ++ (list.take list.length).map (fun r => (x : Int) :: r)).length = (ptsT (pts F) n n (t + 1)).length by rw [List.take_length, ← HST.out])
                rw [HLE.out]
                clear HPI HST HLE
                go_wp2
                go_roundw
                case rel => exact ⟨t + 1, x - 1, vs, by omega, by go_num, HTM⟩
                case measure => simp [intOf]; omega
          · have hx1 : decide ((1 : Int) ≤ (x : Int)) = false := decide_eq_false (by omega)
            obtain rfl : x = 0 := by omega
            obtain rfl : t = n := by omega
            have HN := Lib.hid (HT.out.new (by have := HTB.out; omega))
            clear HT
            go_wp2
            go_ret
            exact HPT.out ▸ HN.out
/-- What PartsOf answers. -/
noncomputable def ptV (n : Int) : List (List Int) := if pb (InR n 1 7) = true then pts 7 n.toNat n.toNat else []
theorem pt_no {n : Int} (h : ¬ InR n 1 7) : ptV n = [] := by unfold ptV; rw [if_neg (by rw [pb_false h]; decide)]
theorem pt_yes {n : Nat} (h : InR n 1 7) : ptV n = pts 7 n n := by unfold ptV; rw [if_pos (pb_true h), Int.toNat_natCast]
theorem offs_le7 {xss : List (List Int)} (h : ∀ r ∈ xss, r.length ≤ 7) : ∀ k, k ≤ xss.length → offs xss k ≤ 7 * k
  | 0, _ => by simp [offs]
  | k + 1, hk => by
    have h1 := offs_le7 h k (by omega)
    have h2 := h _ (gr_mem (xs := xss) (k := k) (by omega))
    simp only [offs]
    omega
theorem pt_offs (n : Int) : offs (ptV n) (ptV n).length ≤ 1000000 := by
  by_cases h : InR n 1 7
  · obtain ⟨n, rfl⟩ : ∃ k : Nat, n = (k : Int) := ⟨n.toNat, by unfold InR at h; omega⟩
    have h7 : n ≤ 7 := by unfold InR at h; omega
    rw [pt_yes h]
    have hb := pts_bd0 7 (by omega) n (by omega) n (by omega)
    have h2 := offs_le7 (fun r hr => (hb.2 r hr).1) _ (Nat.le_refl (pts 7 n n).length)
    omega
  · rw [pt_no h]; simp [offs]
theorem PartsOf_spec (n : Int) (w : World) (_ : Fit n) : Calls Try.prog 16 #[.int .i64 n] w (NewT w (ptV n)) := by
  by_cases hn : InR n 1 7
  · have HN := Lib.hid (fun W => pb_true hn ▸ inRange_any n 1 7 W)
    obtain ⟨n, rfl⟩ : ∃ k : Nat, n = (k : Int) := ⟨n.toNat, by unfold InR at hn; omega⟩
    have h7 : n ≤ 7 := by unfold InR at hn; omega
    rw [pt_yes hn]
    have HC := Lib.hid (fun W => partsFrom_any 7 (by omega) n n h7 h7 h7 W)
    clear hn
    go_enter Try.func16, Try.ntmps16
    go_wp2_with fail
    refine (HN.out _).mono ?_
    rintro e w1 ⟨rfl, rfl⟩
    go_wp2_with fail
    refine (HC.out _).mono ?_
    rintro e w1 ⟨A, k, c, g, rfl, hk, ho, hb⟩
    have HR := Lib.hid (show NewT w (pts 7 n n) (.returned (.slice A k c)) w1 from ⟨A, k, c, g, rfl, hk, ho, hb⟩)
    clear hk ho hb HC
    go_wp2
    go_ret
    exact HR.out
  · rw [pt_no hn]
    have HN := Lib.hid (fun W => pb_false hn ▸ inRange_any n 1 7 W)
    clear hn
    go_enter Try.func16, Try.ntmps16
    go_wp2_with fail
    refine (HN.out _).mono ?_
    rintro e w1 ⟨rfl, rfl⟩
    go_wp2
    go_ret
    exact NewT.none (Below.refl _ _) rfl
theorem PartsOf_impl (n : Int) (w : World) (_ : Fit n) : Calls Try.prog 14 #[.int .i64 n] w (NewT w (ptV n)) := by
  by_cases hn : InR n 1 7
  · have HN := Lib.hid (fun W => pb_true hn ▸ isUrn_any n W)
    obtain ⟨n, rfl⟩ : ∃ k : Nat, n = (k : Int) := ⟨n.toNat, by unfold InR at hn; omega⟩
    have h7 : n ≤ 7 := by unfold InR at hn; omega
    rw [pt_yes hn]
    have HC := Lib.hid (fun W => partsUpTo_any 7 (by omega) n n h7 h7 h7 W)
    clear hn
    go_enter Try.func14, Try.ntmps14
    go_wp2_with fail
    refine (HN.out _).mono ?_
    rintro e w1 ⟨rfl, rfl⟩
    go_wp2_with fail
    refine (HC.out _).mono ?_
    rintro e w1 ⟨A, k, c, g, rfl, hk, ho, hb⟩
    have HR := Lib.hid (show NewT w (pts 7 n n) (.returned (.slice A k c)) w1 from ⟨A, k, c, g, rfl, hk, ho, hb⟩)
    clear hk ho hb HC
    go_wp2
    go_ret
    exact HR.out
  · rw [pt_no hn]
    have HN := Lib.hid (fun W => pb_false hn ▸ isUrn_any n W)
    clear hn
    go_enter Try.func14, Try.ntmps14
    go_wp2_with fail
    refine (HN.out _).mono ?_
    rintro e w1 ⟨rfl, rfl⟩
    go_wp2
    go_ret
    exact NewT.none (Below.refl _ _) rfl

end Go.Proofs.Ytamjiinhogmifaa

/- Numbers of things drawn from bytes. -/
namespace Go.Proofs.Ytamjiinhogmifaa
open Go.RowKit

/-- A drawn number of things; and a weight. -/
def DrawnN (w : World) (e : Ending) (w' : World) : Prop := ∃ k : Int, e = .returned (.int .i64 k) ∧ (0 ≤ k ∧ k ≤ 8) ∧ Below w.heap.size w w'
def DrawnNN (w : World) (e : Ending) (w' : World) : Prop := ∃ k f : Int, e = .returned (.tuple #[.int .i64 k, .int .i64 f]) ∧ (0 ≤ k ∧ k ≤ 8) ∧ (0 ≤ f ∧ f ≤ 7) ∧ Below w.heap.size w w'
set_option maxRecDepth 100000 in
set_option maxHeartbeats 1000000 in
theorem DrawPartsOf_any (A : Option Addr) (n c : Nat) (w : World) (h : Bytes w A n c) :
    Calls Try.prog 13 #[.slice A n c] w (DrawnN w) := by
  have H0 := Lib.hid (newReader_any A n c w h)
  clear h
  go_enter Try.func13, Try.ntmps13
  go_wp2_with fail
  refine H0.out.mono ?_
  rintro e w1 ⟨A1, l, c1, rfl, hl, hr, hs⟩
  have H1 := Lib.hid (one_lit w w1 _ w.heap.size A1 l c1 0 w1.heap.size 9 [4, 5, 3, 6, 2, 1, 7, 0, 8] hr (by omega) (below_alloc w1 (.cells #[iv 4, iv 5, iv 3, iv 6, iv 2, iv 1, iv 7, iv 0, iv 8] 3)) (Nat.le_refl _) (Ints.lit w1 [4, 5, 3, 6, 2, 1, 7, 0, 8] (by decide) (by decide)) (by omega))
  clear hr hl hs H0
  go_wp2_with fail
  refine H1.out.mono ?_
  rintro e w2 ⟨k, rfl, hx, hr, hgr⟩
  have hk : 0 ≤ k ∧ k ≤ 8 := by simp at hx; omega
  have HB := Lib.hid hr.below
  clear hx hr hgr H1
  go_wp2
  go_ret
  exact ⟨k, rfl, hk, HB.out⟩
set_option maxRecDepth 100000 in
set_option maxHeartbeats 1000000 in
theorem DrawHistoriesOf_any (A : Option Addr) (n c : Nat) (w : World) (h : Bytes w A n c) :
    Calls Try.prog 27 #[.slice A n c] w (DrawnN w) := by
  have H0 := Lib.hid (newReader_any A n c w h)
  clear h
  go_enter Try.func27, Try.ntmps27
  go_wp2_with fail
  refine H0.out.mono ?_
  rintro e w1 ⟨A1, l, c1, rfl, hl, hr, hs⟩
  have H1 := Lib.hid (one_lit w w1 _ w.heap.size A1 l c1 0 w1.heap.size 9 [4, 5, 3, 6, 2, 1, 7, 0, 8] hr (by omega) (below_alloc w1 (.cells #[iv 4, iv 5, iv 3, iv 6, iv 2, iv 1, iv 7, iv 0, iv 8] 3)) (Nat.le_refl _) (Ints.lit w1 [4, 5, 3, 6, 2, 1, 7, 0, 8] (by decide) (by decide)) (by omega))
  clear hr hl hs H0
  go_wp2_with fail
  refine H1.out.mono ?_
  rintro e w2 ⟨k, rfl, hx, hr, hgr⟩
  have hk : 0 ≤ k ∧ k ≤ 8 := by simp at hx; omega
  have HB := Lib.hid hr.below
  clear hx hr hgr H1
  go_wp2
  go_ret
  exact ⟨k, rfl, hk, HB.out⟩
set_option maxRecDepth 100000 in
set_option maxHeartbeats 1000000 in
theorem DrawMeanKinds_any (A : Option Addr) (n c : Nat) (w : World) (h : Bytes w A n c) :
    Calls Try.prog 22 #[.slice A n c] w (DrawnNN w) := by
  have H0 := Lib.hid (newReader_any A n c w h)
  clear h
  go_enter Try.func22, Try.ntmps22
  go_wp2_with fail
  refine H0.out.mono ?_
  rintro e w1 ⟨A1, l, c1, rfl, hl, hr, hs⟩
  have H1 := Lib.hid (one_lit w w1 _ w.heap.size A1 l c1 0 w1.heap.size 9 [4, 5, 3, 6, 2, 1, 7, 0, 8] hr (by omega) (below_alloc w1 (.cells #[iv 4, iv 5, iv 3, iv 6, iv 2, iv 1, iv 7, iv 0, iv 8] 3)) (Nat.le_refl _) (Ints.lit w1 [4, 5, 3, 6, 2, 1, 7, 0, 8] (by decide) (by decide)) (by omega))
  clear hr hl hs H0
  go_wp2_with fail
  refine H1.out.mono ?_
  rintro e w2 ⟨k, rfl, hx, hr, hgr⟩
  have hk : 0 ≤ k ∧ k ≤ 8 := by simp at hx; omega
  have HR2 := Lib.hid hr
  clear hx hr hgr H1
  have H2 := Lib.hid (one_lit w w2 _ w.heap.size A1 l c1 (0 + 1) w2.heap.size 6 [1, 2, 3, 6, 0, 7] HR2.out (by omega) (below_alloc w2 (.cells #[iv 1, iv 2, iv 3, iv 6, iv 0, iv 7] 3)) (Nat.le_refl _) (Ints.lit w2 [1, 2, 3, 6, 0, 7] (by decide) (by decide)) (by omega))
  go_wp2_with fail
  refine H2.out.mono ?_
  rintro e w3 ⟨f, rfl, hx, hr, hgr⟩
  have hf : 0 ≤ f ∧ f ≤ 7 := by simp at hx; omega
  have HB := Lib.hid hr.below
  clear hx hr hgr H2 HR2
  go_wp2
  go_ret2
  exact ⟨k, f, rfl, hk, hf, HB.out⟩

end Go.Proofs.Ytamjiinhogmifaa

/- All sizes: what is known of them; a part of a slice of rows. -/
namespace Go.Proofs.Ytamjiinhogmifaa
open Go.RowKit

def ptB (xs : List Int) : Bool := ((List.range xs.length).all fun i => decide (1 ≤ gi xs i) && decide (gi xs i ≤ 7) && (decide (i = 0) || decide (gi xs i ≤ gi xs (i - 1)))) && decide (xs.length ≤ 7) && decide (1 ≤ tot xs) && decide (tot xs ≤ 7)
theorem ptB_of {xs : List Int} (h : ptB xs = true) : VPt xs := by
  simp only [ptB, List.all_eq_true, List.mem_range, Bool.and_eq_true, Bool.or_eq_true, decide_eq_true_eq] at h
  obtain ⟨⟨⟨h1, h2⟩, h3⟩, h4⟩ := h
  exact ⟨fun i hi => ⟨(h1 i hi).1.1, (h1 i hi).1.2, fun h0 => by rcases (h1 i hi).2 with e | e <;> omega⟩, h2, by unfold InR; omega⟩
/-- Sizes are all: each row is of sizes of kinds, has the sum, and none is there twice. -/
theorem pts_all2 : ((List.range 8).all fun n => decide (n = 0) || (decide (0 < (pts 7 n n).length) && decide (gi (gr (pts 7 n n) 0) 0 = (n : Int)) && decide (0 < (gr (pts 7 n n) 0).length) && decide ((gr (pts 7 n n) ((pts 7 n n).length - 1)).length = n) &&
    (List.range (pts 7 n n).length).all fun k => decide (tot (gr (pts 7 n n) k) = (n : Int)) && ptB (gr (pts 7 n n) k) && !((pts 7 n n).take k).contains (gr (pts 7 n n) k))) = true := by decide +kernel
structure PtF (n : Nat) (l : List (List Int)) : Prop where
  pos : 0 < l.length
  head : gi (gr l 0) 0 = (n : Int)
  head0 : 0 < (gr l 0).length
  last : (gr l (l.length - 1)).length = n
  sum : ∀ k, k < l.length → tot (gr l k) = (n : Int)
  ok : ∀ k, k < l.length → VPt (gr l k)
  once : ∀ k, k < l.length → gr l k ∉ l.take k
  le : l.length ≤ 40
theorem pts_facts {n : Nat} (h1 : 1 ≤ n) (h7 : n ≤ 7) : PtF n (pts 7 n n) := by
  have h := pts_all2
  simp only [List.all_eq_true, List.mem_range, Bool.and_eq_true, Bool.or_eq_true, decide_eq_true_eq, Bool.not_eq_true'] at h
  rcases h n (by omega) with h | h
  · omega
  · obtain ⟨⟨⟨⟨a, b⟩, c⟩, d⟩, e⟩ := h
    exact ⟨a, b, c, d, fun k hk => (e k hk).1.1, fun k hk => ptB_of (e k hk).1.2, fun k hk hm => absurd ((List.contains_iff_mem.2 hm).symm.trans (e k hk).2) (by decide), (pts_bd0 7 (by omega) n (by omega) n (by omega)).1⟩
theorem VPt.so {xs : List Int} (h : VPt xs) : SumOk xs := VPt.sumOk h.1 h.2.1

theorem IntRows.cell {w : World} {b o n c : Nat} {xss : List (List Int)} (h : IntRows w (some ⟨b, o, none⟩) n c xss) {k : Nat} (hk : k < n) :
    ∃ R cc, w.cell? ⟨b, o + k, none⟩ = some (.slice R (gr xss k).length cc) ∧ Ints w R (gr xss k).length cc (gr xss k) := by
  obtain ⟨b', o', e, hc⟩ := h.at_ (by omega)
  injection e with e
  injection e with e1 e2 _
  subst e1
  subst e2
  exact hc k hk
theorem IntRows.take {w : World} {A : Option Addr} {n c : Nat} {xss : List (List Int)} (h : IntRows w A n c xss) {k : Nat} (hk : k ≤ n) : IntRows w A k c (xss.take k) := by
  have hl := h.len
  refine ⟨by rw [List.length_take]; omega, Nat.le_trans hk h.cap, by have := h.max; omega, fun h0 => ?_⟩
  obtain ⟨b, o, e, hc⟩ := h.at_ (by omega)
  refine ⟨b, o, e, fun j hj => ?_⟩
  have e2 : gr (xss.take k) j = gr xss j := by
    rw [gr_get (by rw [List.length_take]; omega), gr_get (by omega), List.getElem_take]
  rw [e2]
  exact hc j (by omega)

end Go.Proofs.Ytamjiinhogmifaa

/- Tables as arrays of nine numbers. -/
namespace Go.Proofs.Ytamjiinhogmifaa
open Go.RowKit

/-- Nine cells, three rows one behind the other. -/
def cs9 (f : Nat → Nat → Int) : Array Value := #[.int .i64 (f 0 0), .int .i64 (f 0 1), .int .i64 (f 0 2), .int .i64 (f 1 0), .int .i64 (f 1 1), .int .i64 (f 1 2), .int .i64 (f 2 0), .int .i64 (f 2 1), .int .i64 (f 2 2)]
def upd9 (f : Nat → Nat → Int) (i j : Nat) (v : Int) : Nat → Nat → Int := fun r c => if r = i ∧ c = j then v else f r c
theorem lt3 {i : Nat} (h : i < 3) : i = 0 ∨ i = 1 ∨ i = 2 := by omega
theorem cs9_get (f : Nat → Nat → Int) {i j : Nat} (hi : i < 3) (hj : j < 3) : (cs9 f)[i * 3 + j]? = some (.int .i64 (f i j)) := by
  rcases lt3 hi with rfl | rfl | rfl <;> rcases lt3 hj with rfl | rfl | rfl <;> rfl
theorem cs9_congr {f g : Nat → Nat → Int} (h : ∀ r c, r < 3 → c < 3 → f r c = g r c) : cs9 f = cs9 g := by
  unfold cs9
  rw [h 0 0 (by omega) (by omega), h 0 1 (by omega) (by omega), h 0 2 (by omega) (by omega), h 1 0 (by omega) (by omega), h 1 1 (by omega) (by omega), h 1 2 (by omega) (by omega), h 2 0 (by omega) (by omega), h 2 1 (by omega) (by omega), h 2 2 (by omega) (by omega)]
theorem cs9_set (f : Nat → Nat → Int) {i j : Nat} (hi : i < 3) (hj : j < 3) (v : Int) : (cs9 f).setIfInBounds (i * 3 + j) (.int .i64 v) = cs9 (upd9 f i j v) := by
  rcases lt3 hi with rfl | rfl | rfl <;> rcases lt3 hj with rfl | rfl | rfl <;> rfl
/-- A table filled up to row i, column j. -/
def part9 (a : List (List Int)) (m i j : Nat) : Nat → Nat → Int := fun r c => if (r < i ∨ r = i ∧ c < j) ∧ c < m then g2 a r c else 0
def full9 (a : List (List Int)) (n m : Nat) : Nat → Nat → Int := fun r c => if r < n ∧ c < m then g2 a r c else 0
theorem part9_zero (a : List (List Int)) (m : Nat) : cs9 (part9 a m 0 0) = cs9 (fun _ _ => 0) := cs9_congr fun r c _ _ => by unfold part9; rw [if_neg (by omega)]
theorem part9_next (a : List (List Int)) (m i j : Nat) (hj : j < m) : cs9 (upd9 (part9 a m i j) i j (g2 a i j)) = cs9 (part9 a m i (j + 1)) := cs9_congr fun r c _ _ => by
  unfold upd9 part9
  by_cases e : r = i ∧ c = j
  · obtain ⟨rfl, rfl⟩ := e; rw [if_pos ⟨rfl, rfl⟩, if_pos (by omega)]
  · rw [if_neg e]
    by_cases h : (r < i ∨ r = i ∧ c < j) ∧ c < m
    · rw [if_pos h, if_pos (by omega)]
    · rw [if_neg h, if_neg (by omega)]
theorem part9_row (a : List (List Int)) (m i : Nat) : cs9 (part9 a m i m) = cs9 (part9 a m (i + 1) 0) := cs9_congr fun r c _ _ => by
  unfold part9
  by_cases h : (r < i ∨ r = i ∧ c < m) ∧ c < m
  · rw [if_pos h, if_pos (by omega)]
  · rw [if_neg h, if_neg (by omega)]
theorem part9_all (a : List (List Int)) (n m : Nat) : cs9 (part9 a m n 0) = cs9 (full9 a n m) := cs9_congr fun r c _ _ => by
  unfold part9 full9
  by_cases h : r < n ∧ c < m
  · rw [if_pos h, if_pos (by omega)]
  · rw [if_neg h, if_neg (by omega)]
abbrev agg9 (f : Nat → Nat → Int) : Value := .agg (cs9 f)
end Go.Proofs.Ytamjiinhogmifaa

/- Arrays compared: three numbers, three bools, nine numbers. -/
namespace Go.Proofs.Ytamjiinhogmifaa
open Go.RowKit

theorem info_i1 : (Try.prog.info? 3).map (·.size) = some 1 := by kernel_rfl
theorem run_sizeOf' {t : TypeId} {n : Nat} (h : (Try.prog.info? t).map (·.size) = some n) (w : World) : (sizeOf t).run Try.prog w = .ok n w := by
  cases hq : Try.prog.info? t with
  | none => simp [hq] at h
  | some i => simp [hq] at h; simp [sizeOf, typeInfo, hq, h]
theorem und_int : Try.prog.underlying 3 = some (.int .i64) := by kernel_rfl
theorem run_isAgg_no (w : World) : (isAgg 3).run Try.prog w = .ok false w := by
  unfold isAgg; rw [Sem.run_bind, run_underlying und_int w]; rfl
theorem run_part_int {cs : Array Value} {k : Nat} {v : Value} (h : cs[k]? = some v) (w : World) : (part 3 cs k).run Try.prog w = .ok v w := by
  unfold part; rw [Sem.run_bind, run_isAgg_no]; simp [h]
end Go.Proofs.Ytamjiinhogmifaa

