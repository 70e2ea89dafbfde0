/- Texts merged: J5 J4 J6 Math42 J2 J8. -/
import Derived.Test.YtpchnoalamdhkaaQ10
import Derived.Laws.OwnMore
/- PartsOf, by both programs. -/
namespace Go.Proofs.Ytpchnoalamdhkaa
open Go.RowKit

theorem run_append_empty {P : Program} (w : World) (base : Nat) (t ty e : TypeId) (i : TypeInfo) (size : Nat) (ht : P.underlying t = some (.slice e)) (hi : P.info? e = some i)
    (v : Value) (n : Nat) (xs : List Value) (hown : w.ownsRow base e size v n xs) (R : Option Addr) (c : Nat) :
    (Builtin.append_ #[t, t] ty #[v, .slice R 0 c]).run P w = .ok v w := by
  rcases hown.2 with ⟨rfl, rfl⟩ | ⟨g, cap, cur, rfl, _, _, hnc, _⟩
  · cases R <;> simp [Builtin.append_, run_underlying ht, sizeOf, typeInfo, hi, Builtin.lenOf, Builtin.firstCells, loadCells, loadCellsFrom]
  · cases R <;> simp [Builtin.append_, run_underlying ht, sizeOf, typeInfo, hi, Builtin.lenOf, Builtin.firstCells, loadCells, loadCellsFrom, hnc, storeCells]

/-- A number ahead of a row: a new row. -/
theorem row_new (w : World) (x : Int) (R : Option Addr) (m c : Nat) (r : List Int) (hr : Ints w R m c r) (hm : m ≤ 20) (hx : -9223372036854775808 ≤ x ∧ x ≤ 9223372036854775807) :
    ∃ A cc w5 g, (Builtin.append_ #[27, 27] 27 #[.slice (some ⟨w.heap.size, 0, none⟩) 1 1, .slice R m c]).run Try.prog (w.alloc (.cells #[.int .i64 x] 3)) = .ok (.slice A (x :: r).length cc) w5 ∧
      Below w.heap.size w w5 ∧ OwnI w.heap.size w5.heap.size w5 g A (x :: r).length cc (x :: r) := by
  obtain ⟨i0, hi0, hz0, hz1, hz2⟩ := info_parts Try.info_int
  have hb := below_alloc w (.cells #[.int .i64 x] 3)
  have hown : (w.alloc (.cells #[.int .i64 x] 3)).ownsRow w.heap.size 3 1 (.slice (some ⟨w.heap.size, 0, none⟩) 1 1) 1 [iv x] :=
    World.ownsRow_lit w #[.int .i64 x] 1 (Nat.le_refl _) (by unfold maxLen; omega) rfl
  have hwf : ∀ y ∈ x :: r, -9223372036854775808 ≤ y ∧ y ≤ 9223372036854775807 := by
    intro y hy
    rcases List.mem_cons.1 hy with rfl | hy
    · exact hx
    · exact hr.wf y hy
  have hl := hr.len
  have key : ∀ (v' : Value) (w5 : World), w5.ownsRow w.heap.size 3 1 v' (1 + m) ([iv x] ++ r.map iv) → (w.alloc (.cells #[.int .i64 x] 3)).grownBy w5 (some w.heap.size) →
      (v'.ownBlock = some w.heap.size ∨ v'.ownBlock = some (w.heap.size + 1)) →
      ∃ A cc g, v' = .slice A (x :: r).length cc ∧ Below w.heap.size w w5 ∧ OwnI w.heap.size w5.heap.size w5 g A (x :: r).length cc (x :: r) := by
    intro v' w5 ho hg hat
    have hz := hg.size
    simp only [World.size_alloc] at hz
    have hB : BldI w.heap.size w5.heap.size w5 v' (x :: r) := ⟨by
      have e : (x :: r).length = 1 + m := by rw [List.length_cons, hl]; omega
      rw [e]; exact ho, fun k hk => by
      rcases hat with hat | hat <;> (rw [hat] at hk; injection hk with hk; first | omega | (have := (ho.lt k (by rw [hat, hk])).2; omega))⟩
    obtain ⟨A, n, cc, g, rfl, rfl, hI, _⟩ := hB.owns (by rw [List.length_cons, hl]; omega) hwf
    exact ⟨A, cc, g, rfl, hb.grown hg (by simp) (fun k hk => by injection hk with hk; omega), hI⟩
  by_cases h0 : m = 0
  · subst h0
    have hr0 : r = [] := List.eq_nil_of_length_eq_zero hl
    subst hr0
    obtain ⟨A, cc, g, e, h1, h2⟩ := key (.slice (some ⟨w.heap.size, 0, none⟩) 1 1) (w.alloc (.cells #[.int .i64 x] 3)) (by simpa using hown) ⟨rfl, rfl, rfl, Nat.le_refl _, fun _ _ _ => rfl⟩ (.inl rfl)
    refine ⟨A, cc, _, g, ?_, h1, h2⟩
    rw [← e]
    exact run_append_empty _ w.heap.size _ _ 3 i0 1 Try.underlying27 hi0 _ 1 [iv x] hown R c
  · obtain ⟨b, o, rfl, hc⟩ := hr.at_ (by omega)
    obtain ⟨v', w5, e, ho, hg, _, hat⟩ := run_append_own_at (P := Try.prog) (w.alloc (.cells #[.int .i64 x] 3)) w.heap.size 27 27 3 i0 (.int .i64 0) 1 8 Try.underlying27 hi0 hz0 hz1 hz2 rfl (by decide) (.slice (some ⟨w.heap.size, 0, none⟩) 1 1) 1 [iv x] hown ⟨b, o, none⟩ m c (r.map iv)
      (by rw [List.length_map, hl]; omega) (by
        have h := news_take (w := w.alloc (.cells #[.int .i64 x] 3)) (j := r.length) (xs := r) (b := b) (o := o) rfl (fun k hk => Keep.below hb _ _ (hc k (by omega)))
        rw [List.take_length] at h; exact h) (ones_map _) (by unfold maxLen; omega) (by omega) (by simp)
    obtain ⟨A, cc, g, e', h1, h2⟩ := key v' w5 ho hg (by simpa [Value.ownBlock] using hat)
    exact ⟨A, cc, w5, g, by rw [← e']; exact e, h1, h2⟩

/-- A table of one empty row. -/
theorem NewT.one_empty {w w' : World} {R : Option Addr} {g : Nat} (hb : Below w.heap.size w w') (hg : w.heap.size ≤ g) (hB : Blk w' g 27 #[.slice R 0 0]) : NewT w [[]] (.returned (.slice (some ⟨g, 0, Option.none⟩) 1 1)) w' :=
  ⟨_, _, _, g, rfl, rfl, ⟨rfl, Nat.le_refl _, by omega, fun _ => ⟨0, fun _ => g, fun _ => R, fun _ => 0, rfl, hg, blk_lt hB, fun k hk => by
    obtain rfl : k = 0 := by omega
    exact ⟨blk_frozen hB _, blk_cell hB rfl, ⟨⟨rfl, Nat.le_refl _, by show (0 : Nat) ≤ _; omega, fun x hx => by simp [gr] at hx, fun h => by simp [gr] at h⟩, fun h => by simp [gr] at h⟩, fun h => by simp [gr] at h⟩, fun j k _ hk h => by simp at hk; subst hk; simp [gr] at h; omega⟩⟩, hb⟩

/-- Rows under way, and a list that is read beside them. -/
structure PI (w : World) (lo hi : Nat) (v : Value) (vs : List Value) (acc : List (List Int)) (gg : Nat) (A : Option Addr) (n c : Nat) (list : List (List Int)) (wr : World) : Prop where
  tm : TM w v vs acc wr
  li : OwnR lo hi wr gg A n c list
  hi_ : hi ≤ wr.heap.size
  far : ∀ k, v.ownBlock = some k → k < lo ∨ hi ≤ k
theorem PI.start {w w1 w2 : World} {v : Value} {vs : List Value} {acc : List (List Int)} {gg : Nat} {A : Option Addr} {n c : Nat} {list : List (List Int)} (h : TM w v vs acc w1) (ho : OwnR w1.heap.size w2.heap.size w2 gg A n c list) (hb : Below w1.heap.size w1 w2) :
    PI w w1.heap.size w2.heap.size v vs acc gg A n c list w2 :=
  ⟨h.next hb, ho, Nat.le_refl _, fun k hk => .inl (h.bo.hi_ k hk)⟩
theorem PI.push {w wr w5 w6 : World} {lo hi : Nat} {v v' : Value} {vs : List Value} {acc list : List (List Int)} {gg n c cr g : Nat} {A Ar : Option Addr} {r : List Int} (h : PI w lo hi v vs acc gg A n c list wr)
    (hk : Below wr.heap.size wr w5) (hr : OwnI wr.heap.size w5.heap.size w5 g Ar r.length cr r)
    (hown : w6.ownsRow w.heap.size 27 1 v' (acc.length + 1) (vs ++ [.slice Ar r.length cr])) (hgrow : (w5.alloc (.cells #[.slice Ar r.length cr] 27)).grownBy w6 v.ownBlock)
    (hat : v'.ownBlock = v.ownBlock ∨ v'.ownBlock = some (w5.heap.size + 1)) : PI w lo hi v' (vs ++ [.slice Ar r.length cr]) (acc ++ [r]) gg A n c list w6 := by
  have h1 := h.hi_
  have h2 := hk.size
  have h3 := hgrow.size
  simp only [World.size_alloc] at h3
  refine ⟨h.tm.push hk hr hown hgrow hat, h.li.of_blocks fun g h4 h5 h6 => ?_, by omega, fun k hk => ?_⟩
  · refine (hgrow.block g (by simp; omega) (fun e => ?_)).trans ((Below.heap_alloc _ _ _ (by omega)).trans (hk.block g h6))
    have := h.far g e.symm
    omega
  · rcases hat with hat | hat
    · exact h.far k (by rw [← hat]; exact hk)
    · rw [hat] at hk; injection hk with hk; omega
theorem partsFrom_any_zero (w : World) (most : Nat) : Calls Try.prog 135 #[.int .i64 ((0 : Nat) : Int), .int .i64 most] w (NewT w [[]]) := by
    have hb1 := blk_new (w.alloc (.cells #[] 3)) 27 #[.slice (some ⟨w.heap.size, 0, none⟩) 0 0]
    have HE0 := NewT.one_empty (below_up (below_alloc w (.cells #[] 3)) (below_alloc _ _)) (by simp) hb1
    simp only [World.size_alloc] at HE0
    have HE := Lib.hid HE0
    clear HE0 hb1
    go_enter Try.func135, Try.ntmps135
    go_wp2
    go_ret
    exact HE.out
set_option maxRecDepth 100000 in
set_option maxHeartbeats 1600000 in
theorem partsFrom_any : ∀ F, F ≤ 7 → ∀ n most : Nat, n ≤ F → n ≤ 7 → most ≤ 7 → ∀ w, Calls Try.prog 135 #[.int .i64 n, .int .i64 most] w (NewT w (pts F n most)) := by
  intro F
  induction F with
  | zero =>
    intro _ n most hn _ _ w
    obtain rfl : n = 0 := by omega
    rw [pts_zero]
    exact partsFrom_any_zero w most
  | succ F ih =>
    intro hF n most hn hn7 hm7 w
    by_cases h0 : n = 0
    · subst h0; rw [pts_zero]; exact partsFrom_any_zero w most
    · have IH := Lib.hid (fun n most h1 h2 h3 w => ih (by omega) n most h1 h2 h3 w)
      clear ih
      have hz : ((n : Int) == 0) = false := by simp; omega
      have HS0 := Lib.hid (TM.start w)
      by_cases hc : most < n
      · have hci : (most : Int) < (n : Int) := by omega
        have HPT : Hid (ptsT (pts F) n most most = pts (F + 1) n most) := Lib.hid (by rw [pts_pos (by omega), Nat.min_eq_right (by omega)])
        clear h0
        go_enter Try.func135, Try.ntmps135
        go_wp2
        go_loopw [5, 6] (fun v i wr => ∃ (t x : Nat) (vs : List Value), x + t = most ∧ i = .int .i64 x ∧ Hid (TM w v vs (ptsT (pts F) n most t) wr)) (fun _ i _ => (intOf i).toNat)
        case atStart => exact ⟨0, most, [], rfl, rfl, HS0⟩
        case round =>
          clear HS0
          obtain ⟨t, x, vs, hxt, rfl, HT⟩ := hrel
          obtain ⟨Av, cv, rfl⟩ := HT.out.bo.form
          have HTB := Lib.hid (ptsT_bd0 F (by omega) n (by omega) most (by omega) t (by omega))
          by_cases hx : 1 ≤ x
          · have hx1 : decide ((1 : Int) ≤ (x : Int)) = true := decide_eq_true (by omega)
            have hx2 : (1 : Int) ≤ (x : Int) := by omega
            have hxn : x ≤ n := by omega
            have HC : Hid (∀ W, Calls Try.prog 135 #[.int .i64 ((n : Int) - (x : Int)), .int .i64 x] W (NewT W (pts F (n - x) x))) := Lib.hid (fun W => by
              have h := IH.out (n - x) x (by omega) (by omega) (by omega) W
              rw [show ((n - x : Nat) : Int) = (n : Int) - (x : Int) by omega] at h
              exact h)
            have HST := Lib.hid (show ptsT (pts F) n most (t + 1) = ptsT (pts F) n most t ++ (pts F (n - x) x).map (fun r => (x : Int) :: r) by
              show ptsT (pts F) n most t ++ _ = _
              rw [show most - t = x by omega])
            have HBD := Lib.hid (pts_bd0 F (by omega) (n - x) (by omega) x (by omega))
            generalize pts F (n - x) x = list at *
            generalize hacc : ptsT (pts F) n most t = acc at *
            clear hacc
            go_wp2_with fail
            refine (HC.out _).mono ?_
            rintro e w2 ⟨Al, nl, cl, gl, rfl, hnl, ho, hb⟩
            subst hnl
            have HPI := Lib.hid (PI.start HT.out ho hb)
            have HL40 := Lib.hid HBD.out.1
            have hl40 := HBD.out.1
            clear ho hb HC HT
            generalize wr.heap.size = lo at *
            go_wp2
            generalize w2.heap.size = hi at *
            go_loopw [5, 8] (fun v i wi => ∃ (k : Nat) (vs : List Value), k ≤ list.length ∧ i = .int .i64 k ∧ Hid (PI w lo hi v vs (acc ++ (list.take k).map (fun r => (x : Int) :: r)) gl Al list.length cl list wi)) (fun _ i _ => list.length - (intOf i).toNat)
            case atStart => exact ⟨0, vs, Nat.zero_le _, rfl, Lib.hid (by simpa using HPI.out)⟩
            case round =>
              clear HPI
              obtain ⟨i, vs, hi_, rfl, HPI⟩ := hrel
              obtain ⟨Av, cv, rfl⟩ := HPI.out.tm.bo.form
              by_cases hlt : i < list.length
              · obtain ⟨ol, G, RR, CC, rfl, _, _, hcell, _⟩ := HPI.out.li.at_ (by omega)
                obtain ⟨_, c1, hri, _⟩ := hcell i hlt
                have hgl := World.block_lt_of_cell? _ _ c1
                have hgn : gl ≠ wr.heap.size := Nat.ne_of_lt hgl
                have HRB := Lib.hid (HBD.out.2 _ (gr_mem hlt))
                obtain ⟨Ar, cr, w5, gr5, hrun, hb5, hI5⟩ := row_new wr (x : Int) (RR i) _ (CC i) (gr list i) hri.ints (by have := HRB.out.1; omega) (by omega)
                have HRUN := Lib.hid hrun
                have HB5 := Lib.hid hb5
                have HI5 := Lib.hid hI5
                have HTK := Lib.hid (take_cons_succ list (x : Int) hlt)
                have HAL := Lib.hid (show (acc ++ (list.take i).map (fun r => (x : Int) :: r)).length ≤ 90 by rw [List.length_append, List.length_map, List.length_take]; have := HTB.out; have := HL40.out; omega)
                clear hcell hri hrun hb5 hI5
                generalize (x : Int) :: gr list i = row at *
                generalize (list.take i).map (fun r => (x : Int) :: r) = part at *
                generalize hac2 : acc ++ part = ac2 at *
                have HAC := Lib.hid hac2
                clear hac2
                have HPN := Lib.hid ((HPI.out.tm.next HB5.out).bo.below (below_alloc w5 (.cells #[.slice Ar row.length cr] 27))).own
                have HN := Lib.hid (cell_one_new w5 (.slice Ar row.length cr) 27)
                have hlh : w.heap.size ≤ w5.heap.size := Nat.le_trans HPI.out.tm.up.size HB5.out.size
                obtain ⟨i1, hi1, hy0, hy1, hy2⟩ := info_parts Try.info_row
                go_wp2_with (first
                  | (at_builtin; refine Lib.wpList_append_run _ rfl _ _ _ _ rfl _ _ rfl rfl _ _ HRUN.out ?_)
                  | (at_builtin; refine wpList_append_own_at _ rfl _ _ 23 rfl w.heap.size 27 i1 (.slice none 0 0) 1 24 Try.underlying23 hi1 hy0 hy1 hy2 rfl (by decide) _ ac2.length vs rfl HPN.out ⟨w5.heap.size, 0, none⟩ 1 1 [.slice Ar row.length cr] rfl rfl (by exact HN.out) ?d2 ?d3 ?d4 ?d5 ?_))
                case d2 => first | (intro u hu; simp at hu; subst hu; rfl) | rfl | simp [Value.oneCell']
                case d3 => have := HAL.out; unfold maxLen; omega
                case d4 => have := HAL.out; omega
                case d5 => first | omega | (simp; omega)
                intro v' w6 hown' hgrow _ hat
                have HPI6 := Lib.hid (HPI.out.push HB5.out HI5.out hown' hgrow (by simpa using hat))
                clear HPN HN hown' hgrow hat HPI HRUN HB5 HI5 c1
                go_wp2
                go_roundw
                case rel => exact ⟨i + 1, _, by omega, by go_num, Lib.hid (by rw [HTK.out, ← List.append_assoc, HAC.out]; exact HPI6.out)⟩
                case measure => simp [intOf]; omega
              · obtain rfl : i = list.length := by omega
                have HTM := Lib.hid (show TM w (.slice Av (ptsT (pts F) n most (t + 1)).length cv) vs (ptsT (pts F) n most (t + 1)) wr by have h := HPI.out.tm; rw [List.take_length, ← HST.out] at h; exact h)
                have HLE := Lib.hid (show (acc ++ (list.take list.length).map (fun r => (x : Int) :: r)).length = (ptsT (pts F) n most (t + 1)).length by rw [List.take_length, ← HST.out])
                rw [HLE.out]
                clear HPI HST HLE
                go_wp2
                go_roundw
                case rel => exact ⟨t + 1, x - 1, vs, by omega, by go_num, HTM⟩
                case measure => simp [intOf]; omega
          · have hx1 : decide ((1 : Int) ≤ (x : Int)) = false := decide_eq_false (by omega)
            obtain rfl : x = 0 := by omega
            obtain rfl : t = most := by omega
            have HN := Lib.hid (HT.out.new (by have := HTB.out; omega))
            clear HT
            go_wp2
            go_ret
            exact HPT.out ▸ HN.out
      · have hci : ¬ (most : Int) < (n : Int) := by omega
        have HPT : Hid (ptsT (pts F) n n n = pts (F + 1) n most) := Lib.hid (by rw [pts_pos (by omega), Nat.min_eq_left (by omega)])
        clear h0
        go_enter Try.func135, Try.ntmps135
        go_wp2
        go_loopw [5, 6] (fun v i wr => ∃ (t x : Nat) (vs : List Value), x + t = n ∧ i = .int .i64 x ∧ Hid (TM w v vs (ptsT (pts F) n n t) wr)) (fun _ i _ => (intOf i).toNat)
        case atStart => exact ⟨0, n, [], rfl, rfl, HS0⟩
        case round =>
          clear HS0
          obtain ⟨t, x, vs, hxt, rfl, HT⟩ := hrel
          obtain ⟨Av, cv, rfl⟩ := HT.out.bo.form
          have HTB := Lib.hid (ptsT_bd0 F (by omega) n (by omega) n (by omega) t (by omega))
          by_cases hx : 1 ≤ x
          · have hx1 : decide ((1 : Int) ≤ (x : Int)) = true := decide_eq_true (by omega)
            have hx2 : (1 : Int) ≤ (x : Int) := by omega
            have hxn : x ≤ n := by omega
            have HC : Hid (∀ W, Calls Try.prog 135 #[.int .i64 ((n : Int) - (x : Int)), .int .i64 x] W (NewT W (pts F (n - x) x))) := Lib.hid (fun W => by
              have h := IH.out (n - x) x (by omega) (by omega) (by omega) W
              rw [show ((n - x : Nat) : Int) = (n : Int) - (x : Int) by omega] at h
              exact h)
            have HST := Lib.hid (show ptsT (pts F) n n (t + 1) = ptsT (pts F) n n t ++ (pts F (n - x) x).map (fun r => (x : Int) :: r) by
              show ptsT (pts F) n n t ++ _ = _
              rw [show n - t = x by omega])
            have HBD := Lib.hid (pts_bd0 F (by omega) (n - x) (by omega) x (by omega))
            generalize pts F (n - x) x = list at *
            generalize hacc : ptsT (pts F) n n t = acc at *
            clear hacc
            go_wp2_with fail
            refine (HC.out _).mono ?_
            rintro e w2 ⟨Al, nl, cl, gl, rfl, hnl, ho, hb⟩
            subst hnl
            have HPI := Lib.hid (PI.start HT.out ho hb)
            have HL40 := Lib.hid HBD.out.1
            have hl40 := HBD.out.1
            clear ho hb HC HT
            generalize wr.heap.size = lo at *
            go_wp2
            generalize w2.heap.size = hi at *
            go_loopw [5, 8] (fun v i wi => ∃ (k : Nat) (vs : List Value), k ≤ list.length ∧ i = .int .i64 k ∧ Hid (PI w lo hi v vs (acc ++ (list.take k).map (fun r => (x : Int) :: r)) gl Al list.length cl list wi)) (fun _ i _ => list.length - (intOf i).toNat)
            case atStart => exact ⟨0, vs, Nat.zero_le _, rfl, Lib.hid (by simpa using HPI.out)⟩
            case round =>
              clear HPI
              obtain ⟨i, vs, hi_, rfl, HPI⟩ := hrel
              obtain ⟨Av, cv, rfl⟩ := HPI.out.tm.bo.form
              by_cases hlt : i < list.length
              · obtain ⟨ol, G, RR, CC, rfl, _, _, hcell, _⟩ := HPI.out.li.at_ (by omega)
                obtain ⟨_, c1, hri, _⟩ := hcell i hlt
                have hgl := World.block_lt_of_cell? _ _ c1
                have hgn : gl ≠ wr.heap.size := Nat.ne_of_lt hgl
                have HRB := Lib.hid (HBD.out.2 _ (gr_mem hlt))
                obtain ⟨Ar, cr, w5, gr5, hrun, hb5, hI5⟩ := row_new wr (x : Int) (RR i) _ (CC i) (gr list i) hri.ints (by have := HRB.out.1; omega) (by omega)
                have HRUN := Lib.hid hrun
                have HB5 := Lib.hid hb5
                have HI5 := Lib.hid hI5
                have HTK := Lib.hid (take_cons_succ list (x : Int) hlt)
                have HAL := Lib.hid (show (acc ++ (list.take i).map (fun r => (x : Int) :: r)).length ≤ 90 by rw [List.length_append, List.length_map, List.length_take]; have := HTB.out; have := HL40.out; omega)
                clear hcell hri hrun hb5 hI5
                generalize (x : Int) :: gr list i = row at *
                generalize (list.take i).map (fun r => (x : Int) :: r) = part at *
                generalize hac2 : acc ++ part = ac2 at *
                have HAC := Lib.hid hac2
                clear hac2
                have HPN := Lib.hid ((HPI.out.tm.next HB5.out).bo.below (below_alloc w5 (.cells #[.slice Ar row.length cr] 27))).own
                have HN := Lib.hid (cell_one_new w5 (.slice Ar row.length cr) 27)
                have hlh : w.heap.size ≤ w5.heap.size := Nat.le_trans HPI.out.tm.up.size HB5.out.size
                obtain ⟨i1, hi1, hy0, hy1, hy2⟩ := info_parts Try.info_row
                go_wp2_with (first
                  | (at_builtin; refine Lib.wpList_append_run _ rfl _ _ _ _ rfl _ _ rfl rfl _ _ HRUN.out ?_)
                  | (at_builtin; refine wpList_append_own_at _ rfl _ _ 23 rfl w.heap.size 27 i1 (.slice none 0 0) 1 24 Try.underlying23 hi1 hy0 hy1 hy2 rfl (by decide) _ ac2.length vs rfl HPN.out ⟨w5.heap.size, 0, none⟩ 1 1 [.slice Ar row.length cr] rfl rfl (by exact HN.out) ?e2 ?e3 ?e4 ?e5 ?_))
                case e2 => first | (intro u hu; simp at hu; subst hu; rfl) | rfl | simp [Value.oneCell']
                case e3 => have := HAL.out; unfold maxLen; omega
                case e4 => have := HAL.out; omega
                case e5 => first | omega | (simp; omega)
                intro v' w6 hown' hgrow _ hat
                have HPI6 := Lib.hid (HPI.out.push HB5.out HI5.out hown' hgrow (by simpa using hat))
                clear HPN HN hown' hgrow hat HPI HRUN HB5 HI5 c1
                go_wp2
                go_roundw
                case rel => exact ⟨i + 1, _, by omega, by go_num, Lib.hid (by rw [HTK.out, ← List.append_assoc, HAC.out]; exact HPI6.out)⟩
                case measure => simp [intOf]; omega
              · obtain rfl : i = list.length := by omega
                have HTM := Lib.hid (show TM w (.slice Av (ptsT (pts F) n n (t + 1)).length cv) vs (ptsT (pts F) n n (t + 1)) wr by have h := HPI.out.tm; rw [List.take_length, ← HST.out] at h; exact h)
                have HLE := Lib.hid (show (acc ++ (list.take list.length).map (fun r => (x : Int) :: r)).length = (ptsT (pts F) n n (t + 1)).length by rw [List.take_length, ← HST.out])
                rw [HLE.out]
                clear HPI HST HLE
                go_wp2
                go_roundw
                case rel => exact ⟨t + 1, x - 1, vs, by omega, by go_num, HTM⟩
                case measure => simp [intOf]; omega
          · have hx1 : decide ((1 : Int) ≤ (x : Int)) = false := decide_eq_false (by omega)
            obtain rfl : x = 0 := by omega
            obtain rfl : t = n := by omega
            have HN := Lib.hid (HT.out.new (by have := HTB.out; omega))
            clear HT
            go_wp2
            go_ret
            exact HPT.out ▸ HN.out
theorem partsUpTo_any_zero (w : World) (most : Nat) : Calls Try.prog 96 #[.int .i64 ((0 : Nat) : Int), .int .i64 most] w (NewT w [[]]) := by
    have hb1 := blk_new w 27 #[.slice none 0 0]
    have HE := Lib.hid (NewT.one_empty (below_alloc w _) (Nat.le_refl _) hb1)
    go_enter Try.func96, Try.ntmps96
    go_wp2
    go_ret
    exact HE.out
set_option maxRecDepth 100000 in
set_option maxHeartbeats 1600000 in
theorem partsUpTo_any : ∀ F, F ≤ 7 → ∀ n most : Nat, n ≤ F → n ≤ 7 → most ≤ 7 → ∀ w, Calls Try.prog 96 #[.int .i64 n, .int .i64 most] w (NewT w (pts F n most)) := by
  intro F
  induction F with
  | zero =>
    intro _ n most hn _ _ w
    obtain rfl : n = 0 := by omega
    rw [pts_zero]
    exact partsUpTo_any_zero w most
  | succ F ih =>
    intro hF n most hn hn7 hm7 w
    by_cases h0 : n = 0
    · subst h0; rw [pts_zero]; exact partsUpTo_any_zero w most
    · have IH := Lib.hid (fun n most h1 h2 h3 w => ih (by omega) n most h1 h2 h3 w)
      clear ih
      have hz : ((n : Int) == 0) = false := by simp; omega
      have HS0 := Lib.hid (TM.nil w)
      by_cases hc : most < n
      · have hci : (most : Int) < (n : Int) := by omega
        have HPT : Hid (ptsT (pts F) n most most = pts (F + 1) n most) := Lib.hid (by rw [pts_pos (by omega), Nat.min_eq_right (by omega)])
        clear h0
        go_enter Try.func96, Try.ntmps96
        go_wp2
        go_loopw [5, 6] (fun v i wr => ∃ (t x : Nat) (vs : List Value), x + t = most ∧ i = .int .i64 x ∧ Hid (TM w v vs (ptsT (pts F) n most t) wr)) (fun _ i _ => (intOf i).toNat)
        case atStart => exact ⟨0, most, [], rfl, rfl, HS0⟩
        case round =>
          clear HS0
          obtain ⟨t, x, vs, hxt, rfl, HT⟩ := hrel
          obtain ⟨Av, cv, rfl⟩ := HT.out.bo.form
          have HTB := Lib.hid (ptsT_bd0 F (by omega) n (by omega) most (by omega) t (by omega))
          by_cases hx : 1 ≤ x
          · have hx1 : decide ((1 : Int) ≤ (x : Int)) = true := decide_eq_true (by omega)
            have hx2 : (1 : Int) ≤ (x : Int) := by omega
            have hxn : x ≤ n := by omega
            have HC : Hid (∀ W, Calls Try.prog 96 #[.int .i64 ((n : Int) - (x : Int)), .int .i64 x] W (NewT W (pts F (n - x) x))) := Lib.hid (fun W => by
              have h := IH.out (n - x) x (by omega) (by omega) (by omega) W
              rw [show ((n - x : Nat) : Int) = (n : Int) - (x : Int) by omega] at h
              exact h)
            have HST := Lib.hid (show ptsT (pts F) n most (t + 1) = ptsT (pts F) n most t ++ (pts F (n - x) x).map (fun r => (x : Int) :: r) by
              show ptsT (pts F) n most t ++ _ = _
              rw [show most - t = x by omega])
            have HBD := Lib.hid (pts_bd0 F (by omega) (n - x) (by omega) x (by omega))
            generalize pts F (n - x) x = list at *
            generalize hacc : ptsT (pts F) n most t = acc at *
            clear hacc
            go_wp2_with fail
            refine (HC.out _).mono ?_
            rintro e w2 ⟨Al, nl, cl, gl, rfl, hnl, ho, hb⟩
            subst hnl
            have HPI := Lib.hid (PI.start HT.out ho hb)
            have HL40 := Lib.hid HBD.out.1
            have hl40 := HBD.out.1
            clear ho hb HC HT
            generalize wr.heap.size = lo at *
            go_wp2
            generalize w2.heap.size = hi at *
            go_loopw [5, 8, 25] (fun v _ i wi => ∃ (k : Nat) (vs : List Value), k ≤ list.length ∧ i = .int .i64 k ∧ Hid (PI w lo hi v vs (acc ++ (list.take k).map (fun r => (x : Int) :: r)) gl Al list.length cl list wi)) (fun _ _ i _ => list.length - (intOf i).toNat)
            case atStart => exact ⟨0, vs, Nat.zero_le _, rfl, Lib.hid (by simpa using HPI.out)⟩
            case round =>
              clear HPI
              obtain ⟨i, vs, hi_, rfl, HPI⟩ := hrel
              obtain ⟨Av, cv, rfl⟩ := HPI.out.tm.bo.form
              by_cases hlt : i < list.length
              · obtain ⟨ol, G, RR, CC, rfl, _, _, hcell, _⟩ := HPI.out.li.at_ (by omega)
                obtain ⟨_, c1, hri, _⟩ := hcell i hlt
                have HRB := Lib.hid (HBD.out.2 _ (gr_mem hlt))
                obtain ⟨Ar, cr, w5, gr5, hrun, hb5, hI5⟩ := row_new wr (x : Int) (RR i) _ (CC i) (gr list i) hri.ints (by have := HRB.out.1; omega) (by omega)
                have HRUN := Lib.hid hrun
                have HB5 := Lib.hid hb5
                have HI5 := Lib.hid hI5
                have HTK := Lib.hid (take_cons_succ list (x : Int) hlt)
                have HAL := Lib.hid (show (acc ++ (list.take i).map (fun r => (x : Int) :: r)).length ≤ 90 by rw [List.length_append, List.length_map, List.length_take]; have := HTB.out; have := HL40.out; omega)
                clear hcell hri hrun hb5 hI5
                generalize (x : Int) :: gr list i = row at *
                generalize (list.take i).map (fun r => (x : Int) :: r) = part at *
                generalize hac2 : acc ++ part = ac2 at *
                have HAC := Lib.hid hac2
                clear hac2
                have HPN := Lib.hid ((HPI.out.tm.next HB5.out).bo.below (below_alloc w5 (.cells #[.slice Ar row.length cr] 27))).own
                have HN := Lib.hid (cell_one_new w5 (.slice Ar row.length cr) 27)
                have hlh : w.heap.size ≤ w5.heap.size := Nat.le_trans HPI.out.tm.up.size HB5.out.size
                obtain ⟨i1, hi1, hy0, hy1, hy2⟩ := info_parts Try.info_row
                go_wp2_with (first
                  | (at_builtin; refine Lib.wpList_append_run _ rfl _ _ _ _ rfl _ _ rfl rfl _ _ HRUN.out ?_)
                  | (at_builtin; refine wpList_append_own_at _ rfl _ _ 23 rfl w.heap.size 27 i1 (.slice none 0 0) 1 24 Try.underlying23 hi1 hy0 hy1 hy2 rfl (by decide) _ ac2.length vs rfl HPN.out ⟨w5.heap.size, 0, none⟩ 1 1 [.slice Ar row.length cr] rfl rfl (by exact HN.out) ?d2 ?d3 ?d4 ?d5 ?_))
                case d2 => first | (intro u hu; simp at hu; subst hu; rfl) | rfl | simp [Value.oneCell']
                case d3 => have := HAL.out; unfold maxLen; omega
                case d4 => have := HAL.out; omega
                case d5 => first | omega | (simp; omega)
                intro v' w6 hown' hgrow _ hat
                have HPI6 := Lib.hid (HPI.out.push HB5.out HI5.out hown' hgrow (by simpa using hat))
                clear HPN HN hown' hgrow hat HPI HRUN HB5 HI5 c1
                go_wp2
                go_roundw
                case rel => exact ⟨i + 1, _, by omega, by go_num, Lib.hid (by rw [HTK.out, ← List.append_assoc, HAC.out]; exact HPI6.out)⟩
                case measure => simp [intOf]; omega
              · obtain rfl : i = list.length := by omega
                have HTM := Lib.hid (show TM w (.slice Av (ptsT (pts F) n most (t + 1)).length cv) vs (ptsT (pts F) n most (t + 1)) wr by have h := HPI.out.tm; rw [List.take_length, ← HST.out] at h; exact h)
                have HLE := Lib.hid (show (acc ++ (list.take list.length).map (fun r => (x : Int) :: r)).length = (ptsT (pts F) n most (t + 1)).length by rw [List.take_length, ← HST.out])
                rw [HLE.out]
                clear HPI HST HLE
                go_wp2
                go_roundw
                case rel => exact ⟨t + 1, x - 1, vs, by omega, by go_num, HTM⟩
                case measure => simp [intOf]; omega
          · have hx1 : decide ((1 : Int) ≤ (x : Int)) = false := decide_eq_false (by omega)
            obtain rfl : x = 0 := by omega
            obtain rfl : t = most := by omega
            have HN := Lib.hid (HT.out.new (by have := HTB.out; omega))
            clear HT
            go_wp2
            go_ret
            exact HPT.out ▸ HN.out
      · have hci : ¬ (most : Int) < (n : Int) := by omega
        have HPT : Hid (ptsT (pts F) n n n = pts (F + 1) n most) := Lib.hid (by rw [pts_pos (by omega), Nat.min_eq_left (by omega)])
        clear h0
        go_enter Try.func96, Try.ntmps96
        go_wp2
        go_loopw [5, 6] (fun v i wr => ∃ (t x : Nat) (vs : List Value), x + t = n ∧ i = .int .i64 x ∧ Hid (TM w v vs (ptsT (pts F) n n t) wr)) (fun _ i _ => (intOf i).toNat)
        case atStart => exact ⟨0, n, [], rfl, rfl, HS0⟩
        case round =>
          clear HS0
          obtain ⟨t, x, vs, hxt, rfl, HT⟩ := hrel
          obtain ⟨Av, cv, rfl⟩ := HT.out.bo.form
          have HTB := Lib.hid (ptsT_bd0 F (by omega) n (by omega) n (by omega) t (by omega))
          by_cases hx : 1 ≤ x
          · have hx1 : decide ((1 : Int) ≤ (x : Int)) = true := decide_eq_true (by omega)
            have hx2 : (1 : Int) ≤ (x : Int) := by omega
            have hxn : x ≤ n := by omega
            have HC : Hid (∀ W, Calls Try.prog 96 #[.int .i64 ((n : Int) - (x : Int)), .int .i64 x] W (NewT W (pts F (n - x) x))) := Lib.hid (fun W => by
              have h := IH.out (n - x) x (by omega) (by omega) (by omega) W
              rw [show ((n - x : Nat) : Int) = (n : Int) - (x : Int) by omega] at h
              exact h)
            have HST := Lib.hid (show ptsT (pts F) n n (t + 1) = ptsT (pts F) n n t ++ (pts F (n - x) x).map (fun r => (x : Int) :: r) by
              show ptsT (pts F) n n t ++ _ = _
              rw [show n - t = x by omega])
            have HBD := Lib.hid (pts_bd0 F (by omega) (n - x) (by omega) x (by omega))
            generalize pts F (n - x) x = list at *
            generalize hacc : ptsT (pts F) n n t = acc at *
            clear hacc
            go_wp2_with fail
            refine (HC.out _).mono ?_
            rintro e w2 ⟨Al, nl, cl, gl, rfl, hnl, ho, hb⟩
            subst hnl
            have HPI := Lib.hid (PI.start HT.out ho hb)
            have HL40 := Lib.hid HBD.out.1
            have hl40 := HBD.out.1
            clear ho hb HC HT
            generalize wr.heap.size = lo at *
            go_wp2
            generalize w2.heap.size = hi at *
            go_loopw [5, 8, 25] (fun v _ i wi => ∃ (k : Nat) (vs : List Value), k ≤ list.length ∧ i = .int .i64 k ∧ Hid (PI w lo hi v vs (acc ++ (list.take k).map (fun r => (x : Int) :: r)) gl Al list.length cl list wi)) (fun _ _ i _ => list.length - (intOf i).toNat)
            case atStart => exact ⟨0, vs, Nat.zero_le _, rfl, Lib.hid (by simpa using HPI.out)⟩
            case round =>
              clear HPI
              obtain ⟨i, vs, hi_, rfl, HPI⟩ := hrel
              obtain ⟨Av, cv, rfl⟩ := HPI.out.tm.bo.form
              by_cases hlt : i < list.length
              · obtain ⟨ol, G, RR, CC, rfl, _, _, hcell, _⟩ := HPI.out.li.at_ (by omega)
                obtain ⟨_, c1, hri, _⟩ := hcell i hlt
                have HRB := Lib.hid (HBD.out.2 _ (gr_mem hlt))
                obtain ⟨Ar, cr, w5, gr5, hrun, hb5, hI5⟩ := row_new wr (x : Int) (RR i) _ (CC i) (gr list i) hri.ints (by have := HRB.out.1; omega) (by omega)
                have HRUN := Lib.hid hrun
                have HB5 := Lib.hid hb5
                have HI5 := Lib.hid hI5
                have HTK := Lib.hid (take_cons_succ list (x : Int) hlt)
                have HAL := Lib.hid (show (acc ++ (list.take i).map (fun r => (x : Int) :: r)).length ≤ 90 by rw [List.length_append, List.length_map, List.length_take]; have := HTB.out; have := HL40.out; omega)
                clear hcell hri hrun hb5 hI5
                generalize (x : Int) :: gr list i = row at *
                generalize (list.take i).map (fun r => (x : Int) :: r) = part at *
                generalize hac2 : acc ++ part = ac2 at *
                have HAC := Lib.hid hac2
                clear hac2
                have HPN := Lib.hid ((HPI.out.tm.next HB5.out).bo.below (below_alloc w5 (.cells #[.slice Ar row.length cr] 27))).own
                have HN := Lib.hid (cell_one_new w5 (.slice Ar row.length cr) 27)
                have hlh : w.heap.size ≤ w5.heap.size := Nat.le_trans HPI.out.tm.up.size HB5.out.size
                obtain ⟨i1, hi1, hy0, hy1, hy2⟩ := info_parts Try.info_row
                go_wp2_with (first
                  | (at_builtin; refine Lib.wpList_append_run _ rfl _ _ _ _ rfl _ _ rfl rfl _ _ HRUN.out ?_)
                  | (at_builtin; refine wpList_append_own_at _ rfl _ _ 23 rfl w.heap.size 27 i1 (.slice none 0 0) 1 24 Try.underlying23 hi1 hy0 hy1 hy2 rfl (by decide) _ ac2.length vs rfl HPN.out ⟨w5.heap.size, 0, none⟩ 1 1 [.slice Ar row.length cr] rfl rfl (by exact HN.out) ?e2 ?e3 ?e4 ?e5 ?_))
                case e2 => first | (intro u hu; simp at hu; subst hu; rfl) | rfl | simp [Value.oneCell']
                case e3 => have := HAL.out; unfold maxLen; omega
                case e4 => have := HAL.out; omega
                case e5 => first | omega | (simp; omega)
                intro v' w6 hown' hgrow _ hat
                have HPI6 := Lib.hid (HPI.out.push HB5.out HI5.out hown' hgrow (by simpa using hat))
                clear HPN HN hown' hgrow hat HPI HRUN HB5 HI5 c1
                go_wp2
                go_roundw
                case rel => exact ⟨i + 1, _, by omega, by go_num, Lib.hid (by rw [HTK.out, ← List.append_assoc, HAC.out]; exact HPI6.out)⟩
                case measure => simp [intOf]; omega
              · obtain rfl : i = list.length := by omega
                have HTM := Lib.hid (show TM w (.slice Av (ptsT (pts F) n n (t + 1)).length cv) vs (ptsT (pts F) n n (t + 1)) wr by have h := HPI.out.tm; rw [List.take_length, ← HST.out] at h; exact h)
                have HLE := Lib.hid (show (acc ++ (list.take list.length).map (fun r => (x : Int) :: r)).length = (ptsT (pts F) n n (t + 1)).length by rw [List.take_length, ← HST.out])
                rw [HLE.out]
                clear HPI HST HLE
                go_wp2
                go_roundw
                case rel => exact ⟨t + 1, x - 1, vs, by omega, by go_num, HTM⟩
                case measure => simp [intOf]; omega
          · have hx1 : decide ((1 : Int) ≤ (x : Int)) = false := decide_eq_false (by omega)
            obtain rfl : x = 0 := by omega
            obtain rfl : t = n := by omega
            have HN := Lib.hid (HT.out.new (by have := HTB.out; omega))
            clear HT
            go_wp2
            go_ret
            exact HPT.out ▸ HN.out
/-- What PartsOf answers. -/
noncomputable def ptV (n : Int) : List (List Int) := if pb (InR n 1 7) = true then pts 7 n.toNat n.toNat else []
theorem pt_no {n : Int} (h : ¬ InR n 1 7) : ptV n = [] := by unfold ptV; rw [if_neg (by rw [pb_false h]; decide)]
theorem pt_yes {n : Nat} (h : InR n 1 7) : ptV n = pts 7 n n := by unfold ptV; rw [if_pos (pb_true h), Int.toNat_natCast]
theorem offs_le7 {xss : List (List Int)} (h : ∀ r ∈ xss, r.length ≤ 7) : ∀ k, k ≤ xss.length → offs xss k ≤ 7 * k
  | 0, _ => by simp [offs]
  | k + 1, hk => by
    have h1 := offs_le7 h k (by omega)
    have h2 := h _ (gr_mem (xs := xss) (k := k) (by omega))
    simp only [offs]
    omega
theorem pt_offs (n : Int) : offs (ptV n) (ptV n).length ≤ 1000000 := by
  by_cases h : InR n 1 7
  · obtain ⟨n, rfl⟩ : ∃ k : Nat, n = (k : Int) := ⟨n.toNat, by unfold InR at h; omega⟩
    have h7 : n ≤ 7 := by unfold InR at h; omega
    rw [pt_yes h]
    have hb := pts_bd0 7 (by omega) n (by omega) n (by omega)
    have h2 := offs_le7 (fun r hr => (hb.2 r hr).1) _ (Nat.le_refl (pts 7 n n).length)
    omega
  · rw [pt_no h]; simp [offs]
theorem PartsOf_spec (n : Int) (w : World) (_ : Fit n) : Calls Try.prog 122 #[.int .i64 n] w (NewT w (ptV n)) := by
  by_cases hn : InR n 1 7
  · have HN := Lib.hid (fun W => pb_true hn ▸ inRange_any n 1 7 W)
    obtain ⟨n, rfl⟩ : ∃ k : Nat, n = (k : Int) := ⟨n.toNat, by unfold InR at hn; omega⟩
    have h7 : n ≤ 7 := by unfold InR at hn; omega
    rw [pt_yes hn]
    have HC := Lib.hid (fun W => partsFrom_any 7 (by omega) n n h7 h7 h7 W)
    clear hn
    go_enter Try.func122, Try.ntmps122
    go_wp2_with fail
    refine (HN.out _).mono ?_
    rintro e w1 ⟨rfl, rfl⟩
    go_wp2_with fail
    refine (HC.out _).mono ?_
    rintro e w1 ⟨A, k, c, g, rfl, hk, ho, hb⟩
    have HR := Lib.hid (show NewT w (pts 7 n n) (.returned (.slice A k c)) w1 from ⟨A, k, c, g, rfl, hk, ho, hb⟩)
    clear hk ho hb HC
    go_wp2
    go_ret
    exact HR.out
  · rw [pt_no hn]
    have HN := Lib.hid (fun W => pb_false hn ▸ inRange_any n 1 7 W)
    clear hn
    go_enter Try.func122, Try.ntmps122
    go_wp2_with fail
    refine (HN.out _).mono ?_
    rintro e w1 ⟨rfl, rfl⟩
    go_wp2
    go_ret
    exact NewT.none (Below.refl _ _) rfl
theorem PartsOf_impl (n : Int) (w : World) (_ : Fit n) : Calls Try.prog 37 #[.int .i64 n] w (NewT w (ptV n)) := by
  by_cases hn : InR n 1 7
  · have HN := Lib.hid (fun W => pb_true hn ▸ isUrn_any n W)
    obtain ⟨n, rfl⟩ : ∃ k : Nat, n = (k : Int) := ⟨n.toNat, by unfold InR at hn; omega⟩
    have h7 : n ≤ 7 := by unfold InR at hn; omega
    rw [pt_yes hn]
    have HC := Lib.hid (fun W => partsUpTo_any 7 (by omega) n n h7 h7 h7 W)
    clear hn
    go_enter Try.func37, Try.ntmps37
    go_wp2_with fail
    refine (HN.out _).mono ?_
    rintro e w1 ⟨rfl, rfl⟩
    go_wp2_with fail
    refine (HC.out _).mono ?_
    rintro e w1 ⟨A, k, c, g, rfl, hk, ho, hb⟩
    have HR := Lib.hid (show NewT w (pts 7 n n) (.returned (.slice A k c)) w1 from ⟨A, k, c, g, rfl, hk, ho, hb⟩)
    clear hk ho hb HC
    go_wp2
    go_ret
    exact HR.out
  · rw [pt_no hn]
    have HN := Lib.hid (fun W => pb_false hn ▸ isUrn_any n W)
    clear hn
    go_enter Try.func37, Try.ntmps37
    go_wp2_with fail
    refine (HN.out _).mono ?_
    rintro e w1 ⟨rfl, rfl⟩
    go_wp2
    go_ret
    exact NewT.none (Below.refl _ _) rfl

end Go.Proofs.Ytpchnoalamdhkaa

/- ValidParts, by both programs. -/
namespace Go.Proofs.Ytpchnoalamdhkaa
open Go.RowKit

/-- A size at a place. -/
def PtOk (xs : List Int) (i : Nat) : Prop := 1 ≤ gi xs i ∧ gi xs i ≤ 7 ∧ (0 < i → gi xs i ≤ gi xs (i - 1))
/-- Sizes of kinds. -/
def VPt (xs : List Int) : Prop := (∀ i, i < xs.length → PtOk xs i) ∧ xs.length ≤ 7 ∧ InR (tot xs) 1 7
theorem sm_up {xs : List Int} {n : Nat} (h : ∀ i, i < n → 1 ≤ gi xs i) : ∀ {k}, k ≤ n → sm xs k + ((n : Int) - k) ≤ sm xs n := by
  induction n with
  | zero =>
    intro k hk
    obtain rfl : k = 0 := by omega
    rw [Int.sub_self, Int.add_zero]; exact Int.le_refl _
  | succ m ih =>
    intro k hk
    have h1 := h m (by omega)
    by_cases e : k = m + 1
    · subst e; omega
    · have := ih (fun i hi => h i (by omega)) (k := k) (by omega)
      rw [sm]; omega
theorem VPt_no {xs : List Int} {k : Nat} (hk : k < xs.length) (h : ¬ PtOk xs k) : pb (VPt xs) = false := pb_false fun v => h (v.1 k hk)
theorem VPt_room {xs : List Int} {k : Nat} (hk : k < xs.length) (h : 7 < sm xs k + gi xs k) : pb (VPt xs) = false := pb_false fun v => by
  have h1 := sm_up (xs := xs) (n := xs.length) (fun i hi => (v.1 i hi).1) (k := k + 1) (by omega)
  have h2 := v.2.2
  unfold InR tot at h2
  rw [sm] at h1
  omega
theorem VPt.of {xs : List Int} (h : ∀ i, i < xs.length → PtOk xs i) (h7 : sm xs xs.length ≤ 7) (h0 : 0 < xs.length) : VPt xs := by
  have h1 := sm_up (xs := xs) (n := xs.length) (fun i hi => (h i hi).1) (k := 0) (by omega)
  simp only [sm] at h1
  exact ⟨h, by omega, by unfold InR tot; omega⟩
theorem VPt.sumOk {xs : List Int} (h : ∀ i, i < xs.length → PtOk xs i) (hl : xs.length ≤ 7) : SumOk xs := ⟨by omega, fun j hj => by have := h j hj; unfold PtOk at this; omega⟩

set_option maxRecDepth 100000 in
set_option maxHeartbeats 800000 in
theorem validParts_any (A : Option Addr) (n c : Nat) (xs : List Int) (w : World) (hx : Ints w A n c xs) :
    Calls Try.prog 91 #[.slice A n c] w fun e w' => e = .returned (.bool (pb (VPt xs))) ∧ Quiet w w' := by
  have hm := hx.max
  have HX := Lib.hid hx
  have HL := Lib.hid hx.len
  clear hx
  go_enter Try.func91, Try.ntmps91
  go_wp2
  go_loopw [3] (fun i wr => ∃ k : Nat, k ≤ n ∧ i = .int .i64 k ∧ Hid (∀ j, j < k → PtOk xs j) ∧ Hid (Quiet w wr)) (fun i _ => n - (intOf i).toNat)
  case atStart => exact ⟨0, Nat.zero_le _, rfl, Lib.hid (fun _ h => absurd h (by omega)), Lib.hid (Quiet.refl _)⟩
  case round =>
    obtain ⟨k, hk, rfl, HP, HQ⟩ := hrel
    by_cases hlt : k < n
    · obtain ⟨b, o, rfl, hc⟩ := (HX.out.keep (Keep.quiet HQ.out)).at_ (by omega)
      have c1 := hc k hlt
      have HKL := Lib.hid (show k < xs.length by rw [HL.out]; exact hlt)
      by_cases x1 : gi xs k < 1
      · have HV := Lib.hid (VPt_no HKL.out (fun h => by have := h.1; omega))
        clear hc
        generalize gi xs k = x at *
        have g1 : decide (x < 1) = true := decide_eq_true (by omega)
        go_wp2
        go_quiet (fail)
        go_wp2
        go_ret
        exact ⟨ret_bool (by rw [HV.out]), HQ.out.trans ⟨_, rfl⟩⟩
      · by_cases x7 : 7 < gi xs k
        · have HV := Lib.hid (VPt_no HKL.out (fun h => by have := h.2.1; omega))
          clear hc
          generalize gi xs k = x at *
          have g1 : decide (x < 1) = false := decide_eq_false (by omega)
          have g2 : decide (7 < x) = true := decide_eq_true (by omega)
          go_wp2
          go_quiet (fail)
          go_wp2
          go_ret
          exact ⟨ret_bool (by rw [HV.out]), HQ.out.trans ⟨_, rfl⟩⟩
        · by_cases h0 : k = 0
          · have HOK := Lib.hid (show PtOk xs k from ⟨by omega, by omega, fun h => absurd h (by omega)⟩)
            clear hc
            generalize gi xs k = x at *
            have g1 : decide (x < 1) = false := decide_eq_false (by omega)
            have g2 : decide (7 < x) = false := decide_eq_false (by omega)
            have g3 : decide ((0 : Int) < (k : Int)) = false := decide_eq_false (by omega)
            have g5 : decide (0 < k) = false := decide_eq_false (by omega)
            clear h0
            go_wp2
            go_quiet (fail)
            go_wp2
            go_roundw
            case rel => exact ⟨k + 1, by omega, by go_num, Lib.hid (fun j hj => by
              by_cases hjk : j < k
              · exact HP.out j hjk
              · obtain rfl : j = k := by omega
                exact HOK.out), Lib.hid (HQ.out.trans ⟨_, rfl⟩)⟩
            case measure => simp [intOf]; omega
          · obtain ⟨l, rfl⟩ : ∃ l, k = l + 1 := ⟨k - 1, by omega⟩
            have c2 := hc l (by omega)
            have hcs : ((l + 1 : Nat) : Int) - 1 = (l : Int) := by omega
            have hl1 : l < n := by omega
            have hln : (l : Int) < (n : Int) := by omega
            clear hc
            by_cases h : gi xs l < gi xs (l + 1)
            · have HV := Lib.hid (VPt_no HKL.out (fun hh => by have := hh.2.2 (by omega); rw [Nat.add_sub_cancel] at this; omega))
              generalize gi xs (l + 1) = x at *
              generalize gi xs l = y at *
              have g1 : decide (x < 1) = false := decide_eq_false (by omega)
              have g2 : decide (7 < x) = false := decide_eq_false (by omega)
              have g3 : decide ((0 : Int) < ((l + 1 : Nat) : Int)) = true := decide_eq_true (by omega)
              have g4 : decide (y < x) = true := decide_eq_true (by omega)
              go_wp2
              go_quiet (fail)
              go_wp2
              go_ret
              exact ⟨ret_bool (by rw [HV.out]), HQ.out.trans ⟨_, rfl⟩⟩
            · have HOK := Lib.hid (show PtOk xs (l + 1) from ⟨by omega, by omega, fun _ => by rw [Nat.add_sub_cancel]; omega⟩)
              generalize gi xs (l + 1) = x at *
              generalize gi xs l = y at *
              have g1 : decide (x < 1) = false := decide_eq_false (by omega)
              have g2 : decide (7 < x) = false := decide_eq_false (by omega)
              have g3 : decide ((0 : Int) < ((l + 1 : Nat) : Int)) = true := decide_eq_true (by omega)
              have g4 : decide (y < x) = false := decide_eq_false (by omega)
              go_wp2
              go_quiet (fail)
              go_wp2
              go_roundw
              case rel => exact ⟨l + 1 + 1, by omega, by go_num, Lib.hid (fun j hj => by
                by_cases hjk : j < l + 1
                · exact HP.out j hjk
                · obtain rfl : j = l + 1 := by omega
                  exact HOK.out), Lib.hid (HQ.out.trans ⟨_, rfl⟩)⟩
              case measure => simp [intOf]; omega
    · obtain rfl : k = n := by omega
      by_cases h7 : k ≤ 7
      · have h7' : decide ((k : Int) ≤ 7) = true := decide_eq_true (by omega)
        have h7i : (k : Int) ≤ 7 := by omega
        have HPA := Lib.hid (fun j (hj : j < xs.length) => HP.out j (by rw [← HL.out]; exact hj))
        have HS := Lib.hid (sum_any A k c xs _ (HX.out.keep (Keep.quiet HQ.out)) (VPt.sumOk HPA.out (by rw [HL.out]; exact h7)))
        have HV : Hid (pb (VPt xs) = pb (InR (tot xs) 1 7)) := Lib.hid (pb_congr ⟨fun h => h.2.2, fun h => ⟨HPA.out, by rw [HL.out]; exact h7, h⟩⟩)
        have HI := Lib.hid (fun W => inRange_any (tot xs) 1 7 W)
        generalize tot xs = s at *
        go_wp2_with fail
        refine HS.out.mono ?_
        rintro e w1 ⟨rfl, hq⟩
        have HQ1 := Lib.hid (HQ.out.trans hq)
        clear hq HS
        go_wp2_with fail
        refine (HI.out _).mono ?_
        rintro e w2 ⟨rfl, rfl⟩
        go_wp2
        go_ret
        exact ⟨ret_bool (by rw [HV.out]), HQ1.out⟩
      · have h7' : decide ((k : Int) ≤ 7) = false := decide_eq_false (by omega)
        have h7i : ¬ (k : Int) ≤ 7 := by omega
        have HV := Lib.hid (pb_false (p := VPt xs) (fun h => by have := h.2.1; rw [HL.out] at this; omega))
        go_wp2
        go_ret
        exact ⟨ret_bool (by rw [HV.out]), HQ.out⟩
set_option maxRecDepth 100000 in
set_option maxHeartbeats 800000 in
theorem ValidParts_impl (A : Option Addr) (n c : Nat) (xs : List Int) (w : World) (hx : Ints w A n c xs) :
    Calls Try.prog 86 #[.slice A n c] w (Ret (.bool (pb (VPt xs))) w) := by
  have hm := hx.max
  have HX := Lib.hid hx
  have HL := Lib.hid hx.len
  clear hx
  go_enter Try.func86, Try.ntmps86
  go_wp2
  go_loopw [3, 4, 6, 9] (fun m r _ i wr => ∃ (k : Nat) (mo : Int), k ≤ n ∧ i = .int .i64 k ∧ m = .int .i64 mo ∧ r = .int .i64 (7 - sm xs k) ∧ Hid (mo = if k = 0 then 7 else gi xs (k - 1)) ∧ Hid (∀ j, j < k → PtOk xs j) ∧ Hid (1 ≤ mo ∧ mo ≤ 7 ∧ 0 ≤ sm xs k ∧ sm xs k ≤ 7) ∧ Hid (Below w.heap.size w wr)) (fun _ _ _ i _ => n - (intOf i).toNat)
  case atStart => exact ⟨0, 7, Nat.zero_le _, rfl, rfl, rfl, Lib.hid rfl, Lib.hid (fun _ h => absurd h (by omega)), Lib.hid (by simp [sm]), Lib.hid (Below.refl _ _)⟩
  case round =>
    obtain ⟨k, mo, hk, rfl, rfl, rfl, HM, HP, HS, HB⟩ := hrel
    by_cases hlt : k < n
    · obtain ⟨b, o, rfl, hc⟩ := (HX.out.keep (Keep.below HB.out)).at_ (by omega)
      have c1 := hc k hlt
      have HKL := Lib.hid (show k < xs.length by rw [HL.out]; exact hlt)
      have HW := HX.out.wf _ (gi_mem HKL.out)
      obtain ⟨hw1, hw2⟩ := HW
      obtain ⟨m1, m7, s0, s7⟩ := HS.out
      have HSS : Hid (sm xs (k + 1) = sm xs k + gi xs k) := Lib.hid rfl
      clear hc
      by_cases x1 : gi xs k < 1
      · have HV := Lib.hid (VPt_no HKL.out (fun h => by have := h.1; omega))
        clear HSS
        generalize gi xs k = x at *
        generalize sm xs k = s at *
        go_wp2
        go_ret
        exact ⟨ret_bool (by rw [HV.out]), HB.out⟩
      · by_cases hmo : mo < gi xs k
        · have HV := Lib.hid (VPt_no HKL.out (fun h => by
            have hM := HM.out
            split at hM
            · have := h.2.1; omega
            · have := h.2.2 (by omega); omega))
          clear HSS
          generalize gi xs k = x at *
          generalize sm xs k = s at *
          go_wp2
          all_goals go_ret
          all_goals exact ⟨ret_bool (by rw [HV.out]), HB.out⟩
        · by_cases hr : 7 - sm xs k < gi xs k
          · have HV := Lib.hid (VPt_room HKL.out (by omega))
            clear HSS
            generalize gi xs k = x at *
            generalize sm xs k = s at *
            go_wp2
            all_goals go_ret
            all_goals exact ⟨ret_bool (by rw [HV.out]), HB.out⟩
          · have HOK := Lib.hid (show PtOk xs k from by
              have hM := HM.out
              refine ⟨by omega, by omega, fun h0 => ?_⟩
              rw [if_neg (by omega)] at hM
              omega)
            have HN : Hid (gi xs k = if k + 1 = 0 then 7 else gi xs (k + 1 - 1)) := Lib.hid (by rw [if_neg (by omega), Nat.add_sub_cancel])
            generalize gi xs k = x at *
            generalize sm xs k = s at *
            go_wp2
            all_goals
              go_roundw
              case rel => exact ⟨k + 1, x, by omega, by go_num, rfl, by rw [HSS.out]; go_num, HN, Lib.hid (fun j hj => by
                by_cases hjk : j < k
                · exact HP.out j hjk
                · obtain rfl : j = k := by omega
                  exact HOK.out), Lib.hid (by rw [HSS.out]; omega), HB⟩
              case measure => simp [intOf]; omega
    · obtain rfl : k = n := by omega
      by_cases h0 : k = 0
      · subst h0
        have HV := Lib.hid (pb_false (p := VPt xs) (fun h => by have h2 := h.2.2; have := HL.out; rw [tot, this] at h2; unfold InR at h2; simp [sm] at h2))
        clear HM HS HP
        generalize sm xs 0 = s at *
        go_wp2
        go_ret
        exact ⟨ret_bool (by rw [HV.out]), HB.out⟩
      · have HV := Lib.hid (pb_true (p := VPt xs) (VPt.of (fun j hj => HP.out j (by rw [← HL.out]; exact hj)) (by rw [HL.out]; exact HS.out.2.2.2) (by rw [HL.out]; omega)))
        have hk0 : (0 : Int) < (k : Int) := by omega
        have hk1 : decide ((0 : Int) < (k : Int)) = true := decide_eq_true hk0
        have hk2 : 0 < k := by omega
        clear HM HS HP
        generalize sm xs k = s at *
        go_wp2
        go_ret
        exact ⟨ret_bool (by rw [HV.out]), HB.out⟩

end Go.Proofs.Ytpchnoalamdhkaa

/- All sizes: what is known of them; a part of a slice of rows. -/
namespace Go.Proofs.Ytpchnoalamdhkaa
open Go.RowKit

def ptB (xs : List Int) : Bool := ((List.range xs.length).all fun i => decide (1 ≤ gi xs i) && decide (gi xs i ≤ 7) && (decide (i = 0) || decide (gi xs i ≤ gi xs (i - 1)))) && decide (xs.length ≤ 7) && decide (1 ≤ tot xs) && decide (tot xs ≤ 7)
theorem ptB_of {xs : List Int} (h : ptB xs = true) : VPt xs := by
  simp only [ptB, List.all_eq_true, List.mem_range, Bool.and_eq_true, Bool.or_eq_true, decide_eq_true_eq] at h
  obtain ⟨⟨⟨h1, h2⟩, h3⟩, h4⟩ := h
  exact ⟨fun i hi => ⟨(h1 i hi).1.1, (h1 i hi).1.2, fun h0 => by rcases (h1 i hi).2 with e | e <;> omega⟩, h2, by unfold InR; omega⟩
/-- Sizes are all: each row is of sizes of kinds, has the sum, and none is there twice. -/
theorem pts_all2 : ((List.range 8).all fun n => decide (n = 0) || (decide (0 < (pts 7 n n).length) && decide (gi (gr (pts 7 n n) 0) 0 = (n : Int)) && decide (0 < (gr (pts 7 n n) 0).length) && decide ((gr (pts 7 n n) ((pts 7 n n).length - 1)).length = n) &&
    (List.range (pts 7 n n).length).all fun k => decide (tot (gr (pts 7 n n) k) = (n : Int)) && ptB (gr (pts 7 n n) k) && !((pts 7 n n).take k).contains (gr (pts 7 n n) k))) = true := by decide +kernel
structure PtF (n : Nat) (l : List (List Int)) : Prop where
  pos : 0 < l.length
  head : gi (gr l 0) 0 = (n : Int)
  head0 : 0 < (gr l 0).length
  last : (gr l (l.length - 1)).length = n
  sum : ∀ k, k < l.length → tot (gr l k) = (n : Int)
  ok : ∀ k, k < l.length → VPt (gr l k)
  once : ∀ k, k < l.length → gr l k ∉ l.take k
  le : l.length ≤ 40
theorem pts_facts {n : Nat} (h1 : 1 ≤ n) (h7 : n ≤ 7) : PtF n (pts 7 n n) := by
  have h := pts_all2
  simp only [List.all_eq_true, List.mem_range, Bool.and_eq_true, Bool.or_eq_true, decide_eq_true_eq, Bool.not_eq_true'] at h
  rcases h n (by omega) with h | h
  · omega
  · obtain ⟨⟨⟨⟨a, b⟩, c⟩, d⟩, e⟩ := h
    exact ⟨a, b, c, d, fun k hk => (e k hk).1.1, fun k hk => ptB_of (e k hk).1.2, fun k hk hm => absurd ((List.contains_iff_mem.2 hm).symm.trans (e k hk).2) (by decide), (pts_bd0 7 (by omega) n (by omega) n (by omega)).1⟩
theorem VPt.so {xs : List Int} (h : VPt xs) : SumOk xs := VPt.sumOk h.1 h.2.1

theorem IntRows.cell {w : World} {b o n c : Nat} {xss : List (List Int)} (h : IntRows w (some ⟨b, o, none⟩) n c xss) {k : Nat} (hk : k < n) :
    ∃ R cc, w.cell? ⟨b, o + k, none⟩ = some (.slice R (gr xss k).length cc) ∧ Ints w R (gr xss k).length cc (gr xss k) := by
  obtain ⟨b', o', e, hc⟩ := h.at_ (by omega)
  injection e with e
  injection e with e1 e2 _
  subst e1
  subst e2
  exact hc k hk
theorem IntRows.take {w : World} {A : Option Addr} {n c : Nat} {xss : List (List Int)} (h : IntRows w A n c xss) {k : Nat} (hk : k ≤ n) : IntRows w A k c (xss.take k) := by
  have hl := h.len
  refine ⟨by rw [List.length_take]; omega, Nat.le_trans hk h.cap, by have := h.max; omega, fun h0 => ?_⟩
  obtain ⟨b, o, e, hc⟩ := h.at_ (by omega)
  refine ⟨b, o, e, fun j hj => ?_⟩
  have e2 : gr (xss.take k) j = gr xss j := by
    rw [gr_get (by rw [List.length_take]; omega), gr_get (by omega), List.getElem_take]
  rw [e2]
  exact hc j (by omega)

end Go.Proofs.Ytpchnoalamdhkaa

/- Sizes of kinds are among all; chances by the product: plain. -/
namespace Go.Proofs.Ytpchnoalamdhkaa

def Desc : Int → List Int → Prop
  | _, [] => True
  | b, x :: r => 1 ≤ x ∧ x ≤ b ∧ Desc x r
def sl : List Int → Int
  | [] => 0
  | x :: r => x + sl r
theorem sl_nn : ∀ {xs : List Int} {b : Int}, Desc b xs → 0 ≤ sl xs
  | [], _, _ => Int.le_refl _
  | x :: r, _, h => by have := sl_nn h.2.2; have := h.1; show 0 ≤ x + sl r; omega
theorem mem_ptsT {g : Nat → Nat → List (List Int)} {n M x : Nat} {r : List Int} (hM : x ≤ M) (hr : r ∈ g (n - x) x) : ∀ t, M - x < t → t ≤ M → ((x : Nat) : Int) :: r ∈ ptsT g n M t
  | 0, h, _ => absurd h (by omega)
  | t + 1, h, ht => by
    show _ ∈ ptsT g n M t ++ _
    by_cases e : M - x < t
    · exact List.mem_append_left _ (mem_ptsT hM hr t e (by omega))
    · refine List.mem_append_right _ ?_
      have e2 : M - t = x := by omega
      rw [e2]
      exact List.mem_map.2 ⟨r, hr, rfl⟩
theorem mem_pts : ∀ (xs : List Int) (F n most : Nat), Desc (most : Int) xs → sl xs = (n : Int) → n ≤ F → xs ∈ pts F n most
  | [], F, n, most, _, hs, _ => by
    obtain rfl : n = 0 := by simp only [sl] at hs; omega
    rw [pts_zero]; exact List.mem_singleton.2 rfl
  | x :: r, F, n, most, hd, hs, hF => by
    have h0 := sl_nn hd.2.2
    obtain ⟨h1, h2, h3⟩ := hd
    obtain ⟨k, rfl⟩ : ∃ k : Nat, x = (k : Int) := ⟨x.toNat, by omega⟩
    have hs' : (k : Int) + sl r = (n : Int) := hs
    obtain ⟨F', rfl⟩ : ∃ F', F = F' + 1 := ⟨F - 1, by omega⟩
    rw [pts_pos (by omega)]
    exact mem_ptsT (by omega) (mem_pts r F' (n - k) k h3 (by omega) (by omega)) _ (by omega) (Nat.le_refl _)
theorem pts_most {F n most : Nat} (h : n ≤ most) : pts F n most = pts F n n := by
  cases F with
  | zero => rfl
  | succ F =>
    by_cases h0 : n = 0
    · subst h0; rfl
    · rw [pts_pos (by omega), pts_pos (by omega), Nat.min_eq_left h, Nat.min_self]
theorem gi_cons (x : Int) (r : List Int) (k : Nat) : gi (x :: r) (k + 1) = gi r k := rfl
theorem sm_cons7 (x : Int) (r : List Int) : ∀ k, sm (x :: r) (k + 1) = x + sm r k
  | 0 => by simp [sm, gi]
  | k + 1 => by rw [sm, sm_cons7 x r k, gi_cons, sm]; omega
theorem tot_sl : ∀ xs : List Int, tot xs = sl xs
  | [] => rfl
  | x :: r => by
    show sm (x :: r) (r.length + 1) = x + sl r
    rw [sm_cons7, ← tot_sl r]; rfl
theorem Desc.of : ∀ (xs : List Int) (b : Int), (∀ i, i < xs.length → 1 ≤ gi xs i) → (∀ i, i + 1 < xs.length → gi xs (i + 1) ≤ gi xs i) → (0 < xs.length → gi xs 0 ≤ b) → Desc b xs
  | [], _, _, _, _ => trivial
  | x :: r, b, h1, h2, h3 => ⟨h1 0 (by simp), h3 (by simp), Desc.of r x (fun i hi => h1 (i + 1) (by simp; omega)) (fun i hi => h2 (i + 1) (by simp; omega)) (fun h => h2 0 (by simp; omega))⟩
/-- Sizes of kinds are one of all sizes of their sum. -/
theorem VPt.mem {xs : List Int} (h : VPt xs) : ∃ m : Nat, 1 ≤ m ∧ m ≤ 7 ∧ tot xs = (m : Int) ∧ xs ∈ pts 7 m m := by
  have ht := h.2.2
  unfold InR at ht
  refine ⟨(tot xs).toNat, by omega, by omega, by omega, ?_⟩
  have hd : Desc ((7 : Nat) : Int) xs := Desc.of xs 7 (fun i hi => (h.1 i hi).1) (fun i hi => (h.1 (i + 1) hi).2.2 (by omega)) (fun h0 => (h.1 0 h0).2.1)
  have hm := mem_pts xs 7 (tot xs).toNat 7 hd (by rw [← tot_sl]; omega) (by omega)
  rw [pts_most (by omega)] at hm
  exact hm

/-- How often a number is among the first k; in the list. -/
def cnI (xs : List Int) (s : Int) : Nat → Int
  | 0 => 0
  | k + 1 => if gi xs k = s then cnI xs s k + 1 else cnI xs s k
def cn (xs : List Int) (s : Int) : Int := cnI xs s xs.length
theorem cnI_bd (xs : List Int) (s : Int) : ∀ k : Nat, 0 ≤ cnI xs s k ∧ cnI xs s k ≤ (k : Int)
  | 0 => ⟨Int.le_refl _, Int.le_refl _⟩
  | k + 1 => by have := cnI_bd xs s k; rw [cnI]; split <;> omega
theorem cnI_in {xs : List Int} {s : Int} : ∀ {k : Nat}, cnI xs s k ≠ 0 → ∃ i, i < k ∧ gi xs i = s
  | 0, h => absurd rfl h
  | k + 1, h => by
    by_cases e : gi xs k = s
    · exact ⟨k, by omega, e⟩
    · rw [cnI, if_neg e] at h
      obtain ⟨i, hi, e'⟩ := cnI_in h
      exact ⟨i, by omega, e'⟩
/-- The model's way: the numerator, the run of the same sizes, the denominator. -/
def bfU (u f : Int) : Nat → Int
  | 0 => u
  | i + 1 => bfU u f i * f
def bfS (xs : List Int) : Nat → Int
  | 0 => 0
  | i + 1 => if 0 < i ∧ gi xs i = gi xs (i - 1) then bfS xs i + 1 else 1
def bfD (d : Int) (xs : List Int) : Nat → Int
  | 0 => d
  | i + 1 => bfD d xs i * gi xs i * bfS xs (i + 1)
/-- The program's way: the denominator by the sizes, then by how many there are of each. -/
def ipD (d : Int) (xs : List Int) : Nat → Int
  | 0 => d
  | i + 1 => ipD d xs i * gi xs i
def fa (c : Int → Int) (s : Int) : Int := mkD 1 (c s).toNat
def pd1 (c : Int → Int) (s : Int) (b : Bool) : Int := if b then 1 else fa c s
def PD7 (c : Int → Int) (b1 b2 b3 b4 b5 b6 b7 : Bool) : Int := pd1 c 1 b1 * pd1 c 2 b2 * pd1 c 3 b3 * pd1 c 4 b4 * pd1 c 5 b5 * pd1 c 6 b6 * pd1 c 7 b7
def BB : List Bool := [true, false]
theorem mem_BB (b : Bool) : b ∈ BB := by cases b <;> simp [BB]
theorem pd_all : ((List.range 8).all fun m => (pts 7 m m).all fun xs => BB.all fun b1 => BB.all fun b2 => BB.all fun b3 => BB.all fun b4 => BB.all fun b5 => BB.all fun b6 => BB.all fun b7 => decide (1 ≤ PD7 (cn xs) b1 b2 b3 b4 b5 b6 b7) && decide (PD7 (cn xs) b1 b2 b3 b4 b5 b6 b7 ≤ 5040)) = true := by decide +kernel
theorem pd_bd {xs : List Int} (h : VPt xs) (b1 b2 b3 b4 b5 b6 b7 : Bool) : 1 ≤ PD7 (cn xs) b1 b2 b3 b4 b5 b6 b7 ∧ PD7 (cn xs) b1 b2 b3 b4 b5 b6 b7 ≤ 5040 := by
  obtain ⟨m, _, h7, _, hm⟩ := h.mem
  have t := pd_all
  simp only [List.all_eq_true, List.mem_range, Bool.and_eq_true, decide_eq_true_eq] at t
  exact t m (by omega) xs hm b1 (mem_BB _) b2 (mem_BB _) b3 (mem_BB _) b4 (mem_BB _) b5 (mem_BB _) b6 (mem_BB _) b7 (mem_BB _)
def kpU (xs : List Int) (f : Int) : Int := bfU (mkD 1 (tot xs).toNat) f xs.length
def kpD (xs : List Int) (f : Int) : Int := bfD (mkD f (tot xs).toNat) xs xs.length
def f6 : List Int := [1, 2, 3, 4, 5, 6]
theorem mem_f6 {f : Int} (h1 : 1 ≤ f) (h6 : f ≤ 6) : f ∈ f6 := by
  have : f = 1 ∨ f = 2 ∨ f = 3 ∨ f = 4 ∨ f = 5 ∨ f = 6 := by omega
  rcases this with rfl | rfl | rfl | rfl | rfl | rfl <;> simp [f6]
theorem kp_all : ((List.range 8).all fun m => (pts 7 m m).all fun xs => f6.all fun f =>
    decide (ipD (mkD f m) xs xs.length * PD7 (cn xs) false false false false false false false = bfD (mkD f m) xs xs.length) && decide (1 ≤ bfD (mkD f m) xs xs.length) &&
    ((List.range 8).all fun i => decide (xs.length < i) || (decide (1 ≤ bfU (mkD 1 m) f i) && decide (bfU (mkD 1 m) f i ≤ 2000000000) && decide (1 ≤ bfD (mkD f m) xs i) && decide (bfD (mkD f m) xs i ≤ 100000000000) &&
      decide (0 ≤ bfS xs i) && decide (bfS xs i ≤ 7) && decide (1 ≤ ipD (mkD f m) xs i) && decide (ipD (mkD f m) xs i ≤ 100000000)))) = true := by decide +kernel
structure KpF (xs : List Int) (f : Int) (m : Nat) : Prop where
  tot : tot xs = (m : Int)
  m1 : 1 ≤ m
  m7 : m ≤ 7
  same : ipD (mkD f m) xs xs.length * PD7 (cn xs) false false false false false false false = bfD (mkD f m) xs xs.length
  u : ∀ i, i ≤ xs.length → 1 ≤ bfU (mkD 1 m) f i ∧ bfU (mkD 1 m) f i ≤ 2000000000
  d : ∀ i, i ≤ xs.length → 1 ≤ bfD (mkD f m) xs i ∧ bfD (mkD f m) xs i ≤ 100000000000
  s : ∀ i, i ≤ xs.length → 0 ≤ bfS xs i ∧ bfS xs i ≤ 7
  p : ∀ i, i ≤ xs.length → 1 ≤ ipD (mkD f m) xs i ∧ ipD (mkD f m) xs i ≤ 100000000
theorem kp_facts {xs : List Int} {f : Int} (h : VPt xs) (h1 : 1 ≤ f) (h6 : f ≤ 6) : ∃ m, KpF xs f m := by
  obtain ⟨m, hm1, h7, ht, hm⟩ := h.mem
  have t := kp_all
  simp only [List.all_eq_true, List.mem_range, Bool.and_eq_true, Bool.or_eq_true, decide_eq_true_eq] at t
  obtain ⟨⟨a, b⟩, c⟩ := t m (by omega) xs hm f (mem_f6 h1 h6)
  have hl := h.2.1
  have c' : ∀ i, i ≤ xs.length → _ := fun i hi => (c i (by omega)).resolve_left (by omega)
  exact ⟨m, ht, hm1, h7, a, fun i hi => (c' i hi).1.1.1.1.1.1.1 |> fun x => ⟨x, (c' i hi).1.1.1.1.1.1.2⟩, fun i hi => ⟨(c' i hi).1.1.1.1.1.2, (c' i hi).1.1.1.1.2⟩, fun i hi => ⟨(c' i hi).1.1.1.2, (c' i hi).1.1.2⟩, fun i hi => ⟨(c' i hi).1.2, (c' i hi).2⟩⟩
/-- What KindsByProduct is asked of, and answers. -/
def KQ (xs : List Int) (f : Int) : Prop := VPt xs ∧ InR f 1 6
noncomputable def kpV (xs : List Int) (f : Int) : Value := if pb (KQ xs f) = true then .agg #[.int .i64 (frU (kpU xs f) (kpD xs f)), .int .i64 (frD (kpU xs f) (kpD xs f))] else .agg #[.int .i64 0, .int .i64 0]
theorem kp_no {xs : List Int} {f : Int} (h : ¬ KQ xs f) : kpV xs f = .agg #[.int .i64 0, .int .i64 0] := by unfold kpV; rw [if_neg (by rw [pb_false h]; decide)]
theorem kp_yes {xs : List Int} {f : Int} (h : KQ xs f) : kpV xs f = .agg #[.int .i64 (frU (kpU xs f) (kpD xs f)), .int .i64 (frD (kpU xs f) (kpD xs f))] := by unfold kpV; rw [if_pos (pb_true h)]
theorem kp_form (xs : List Int) (f : Int) : ∃ U D, kpV xs f = .agg #[.int .i64 U, .int .i64 D] := by
  unfold kpV; split
  · exact ⟨_, _, rfl⟩
  · exact ⟨_, _, rfl⟩
end Go.Proofs.Ytpchnoalamdhkaa

/- MeanKinds, by both programs. -/
namespace Go.Proofs.Ytpchnoalamdhkaa
open Go.RowKit

/-- The result's box, untouched, and a fraction's box at r. -/
structure PX (w : World) (r : Nat) (U D : Int) (W : World) : Prop where
  p : PF w W
  b : Blk W r 39 #[.int .i64 U, .int .i64 D]
  lt : w.heap.size < r
theorem PX.next {w r U D W W'} (h : PX w r U D W) (k : Below W.heap.size W W') : PX w r U D W' := ⟨h.p.up k, blk_below h.b k, h.lt⟩
theorem PX.drew {w r U D W} (h : PX w r U D W) : PX w r U D W.drew := h.next (Quiet.below ⟨1, rfl⟩)
theorem PX.set {w r U D W} (h : PX w r U D W) (U' D' : Int) : PX w r U' D' ((W.setCell ⟨r, 0, none⟩ (.int .i64 U')).setCell ⟨r, 1, none⟩ (.int .i64 D')) := by
  have hl := h.lt
  have h1 : w.heap.size ≠ r := by omega
  have h2 : w.heap.size ≤ r := by omega
  exact ⟨⟨blk_other (blk_other h.p.box (p := ⟨r, 0, none⟩) h1 _) (p := ⟨r, 1, none⟩) h1 _, (h.p.below.setCell (p := ⟨r, 0, none⟩) h2 (.int .i64 U')).setCell (p := ⟨r, 1, none⟩) h2 (.int .i64 D')⟩, blk_set (blk_set h.b 0 (.int .i64 U')) 1 (.int .i64 D'), h.lt⟩
set_option maxHeartbeats 1000000 in
theorem plusI_any (u d v e : Int) (w : World) (hu : -20000000 ≤ u ∧ u ≤ 20000000) (hv : -20000000 ≤ v ∧ v ≤ 20000000) (hd : 1 ≤ d ∧ d ≤ 20000000) (he : 1 ≤ e ∧ e ≤ 20000000) :
    Calls Try.prog 97 #[.agg #[.int .i64 u, .int .i64 d], .agg #[.int .i64 v, .int .i64 e]] w (Ret (frV (u * e + v * d) (d * e)) w) := by
  obtain ⟨p1, p2⟩ := mulbd (x := u) (y := e) (A := 20000000) (B := 20000000) hu (by omega)
  obtain ⟨p3, p4⟩ := mulbd (x := v) (y := d) (A := 20000000) (B := 20000000) hv (by omega)
  obtain ⟨p5, p6⟩ := mulbd (x := d) (y := e) (A := 20000000) (B := 20000000) (by omega) (by omega)
  obtain ⟨p7, p8⟩ := mulbd (x := u) (y := v) (A := 20000000) (B := 20000000) hu hv
  have p9 : 1 ≤ d * e := by have h : 1 * 1 ≤ d * e := Int.mul_le_mul hd.1 he.1 (by omega) (by omega); omega
  have HC := Lib.hid (fun W => fracOf_any (u * e + v * d) (d * e) W (by unfold Mid; omega) (by unfold Mid; omega) p9)
  have b0 := blk_old (blk_old (blk_new w 39 #[.int .i64 u, .int .i64 d]) (.cells #[.int .i64 v, .int .i64 e] 39)) (.cells #[.int .i64 0, .int .i64 0] 39)
  have b1 := blk_old (blk_new (w.alloc (.cells #[.int .i64 u, .int .i64 d] 39)) 39 #[.int .i64 v, .int .i64 e]) (.cells #[.int .i64 0, .int .i64 0] 39)
  have b2 := blk_new ((w.alloc (.cells #[.int .i64 u, .int .i64 d] 39)).alloc (.cells #[.int .i64 v, .int .i64 e] 39)) 39 #[.int .i64 0, .int .i64 0]
  have HB := Lib.hid (below_up (below_up (below_alloc w (.cells #[.int .i64 u, .int .i64 d] 39)) (below_alloc _ (.cells #[.int .i64 v, .int .i64 e] 39))) (below_alloc _ (.cells #[.int .i64 0, .int .i64 0] 39)))
  have HFV : Hid (frV (u * e + v * d) (d * e) = .agg #[.int .i64 (frU (u * e + v * d) (d * e)), .int .i64 (frD (u * e + v * d) (d * e))]) := Lib.hid rfl
  rw [HFV.out] at HC
  simp only [World.size_alloc] at b1 b2
  have c0 := blk_cell b0 (i := 0) rfl
  have c1 := blk_cell b0 (i := 1) rfl
  have c2 := blk_cell b1 (i := 0) rfl
  have c3 := blk_cell b1 (i := 1) rfl
  have HB2 := Lib.hid b2
  clear b0 b1 b2
  go_enter Try.func97, Try.ntmps97
  go_wp2_with fail
  clear c0 c1 c2 c3
  generalize ((w.alloc (.cells #[.int .i64 u, .int .i64 d] 39)).alloc (.cells #[.int .i64 v, .int .i64 e] 39)).alloc (.cells #[.int .i64 0, .int .i64 0] 39) = w1 at *
  refine (HC.out _).mono ?_
  rintro e w2 ⟨rfl, hb⟩
  have b0 := blk_below HB2.out hb
  have HBW := Lib.hid (below_up HB.out hb)
  clear hb HC HB HB2
  generalize frU (u * e + v * d) (d * e) = U at *
  generalize frD (u * e + v * d) (d * e) = D at *
  have c0 := blk_cell b0 (i := 0) rfl
  have c1 := blk_cell b0 (i := 1) rfl
  have f0 := blk_frozen b0 0
  have f1 := blk_frozen b0 1
  go_wp2
  clear c0 c1 f0 f1
  have B1 := blk_set (blk_set b0 0 (.int .i64 U)) 1 (.int .i64 D)
  have r0 := blk_cell B1 (i := 0) (v := .int .i64 U) rfl
  have r1 := blk_cell B1 (i := 1) (v := .int .i64 D) rfl
  have hle : w.heap.size ≤ w.heap.size + 1 + 1 := by omega
  have HBX := Lib.hid ((HBW.out.setCell (p := ⟨w.heap.size + 1 + 1, 0, none⟩) hle (.int .i64 U)).setCell (p := ⟨w.heap.size + 1 + 1, 1, none⟩) hle (.int .i64 D))
  clear B1 b0 HBW
  generalize (w2.setCell ⟨w.heap.size + 1 + 1, 0, none⟩ (.int .i64 U)).setCell ⟨w.heap.size + 1 + 1, 1, none⟩ (.int .i64 D) = WE at *
  refine bodyPost_ret (v := .agg #[.int .i64 U, .int .i64 D]) (by simp [results, Try.results97, go_sem, r0, r1]) rfl ?_
  exact ⟨by rw [HFV.out], HBX.out⟩
set_option maxRecDepth 100000 in
set_option maxHeartbeats 800000 in
theorem MeanKinds_spec (n f : Int) (w : World) (_ : Fit n) (_ : Fit f) : Calls Try.prog 45 #[.int .i64 n, .int .i64 f] w (Ret (.tuple #[mkV n f, .bool (pb (MQ n f))]) w) := by
  have HPF := Lib.hid (PF.start w)
  by_cases hn : InR n 1 7
  · have HN := Lib.hid (fun W => pb_true hn ▸ inRange_any n 1 7 W)
    by_cases hf : InR f 1 6
    · have HF := Lib.hid (fun W => pb_true hf ▸ inRange_any f 1 6 W)
      obtain ⟨n, rfl⟩ : ∃ k : Nat, n = (k : Int) := ⟨n.toNat, by unfold InR at hn; omega⟩
      have hq : MQ n f := ⟨hn, hf⟩
      rw [mk_yes hq, pb_true hq]
      have n1 : 1 ≤ n := by unfold InR at hn; omega
      have n7 : n ≤ 7 := by unfold InR at hn; omega
      obtain ⟨f1, f6⟩ := hf
      clear hn hq
      have HZ : Hid (frV 0 1 = .agg #[.int .i64 0, .int .i64 1]) := Lib.hid (by rw [frV, (fr_one 0).1, (fr_one 0).2])
      have HC0 := Lib.hid (fun W => HZ.out ▸ frac_any 0 1 W (by unfold Mid; omega) (by unfold Mid; omega) (by omega))
      go_enter Try.func45, Try.ntmps45
      go_wp2_with fail
      refine (HN.out _).mono ?_
      rintro e w1 ⟨rfl, rfl⟩
      go_wp2_with fail
      refine (HF.out _).mono ?_
      rintro e w2 ⟨rfl, rfl⟩
      go_wp2_with fail
      refine (HC0.out _).mono ?_
      rintro e w3 ⟨rfl, hb⟩
      have HP3 := Lib.hid (HPF.out.up hb)
      clear hb HC0 HPF HN HF HZ
      have b4 := blk_new w3 39 #[.int .i64 0, .int .i64 1]
      have HW4 := Lib.hid (show PF w (w3.alloc (.cells #[.int .i64 0, .int .i64 1] 39)) ∧ w.heap.size < w3.heap.size from ⟨HP3.out.up (below_alloc _ _), blk_lt HP3.out.box⟩)
      have HB4 : Hid (Blk (w3.alloc (.cells #[.int .i64 0, .int .i64 1] 39)) w3.heap.size 39 #[.int .i64 (frU (mkU f 0) (mkD f 0)), .int .i64 (frD (mkU f 0) (mkD f 0))]) := Lib.hid (by
        show Blk _ _ _ #[.int .i64 (frU 0 1), .int .i64 (frD 0 1)]
        rw [(fr_one 0).1, (fr_one 0).2]; exact b4)
      clear b4 HP3
      go_wp2
      generalize w3.alloc (.cells #[.int .i64 0, .int .i64 1] 39) = W0 at *
      generalize w3.heap.size = r at *
      have hr : w.heap.size < r := HW4.out.2
      go_loopw [7] (fun i wr => ∃ k : Nat, k ≤ n ∧ i = .int .i64 k ∧ Hid (PX w r (frU (mkU f k) (mkD f k)) (frD (mkU f k) (mkD f k)) wr)) (fun i _ => n - (intOf i).toNat)
      case atStart => exact ⟨0, Nat.zero_le _, rfl, Lib.hid ⟨HW4.out.1, HB4.out, HW4.out.2⟩⟩
      case round =>
        clear HW4 HB4
        obtain ⟨k, hk, rfl, HX⟩ := hrel
        by_cases hlt : k < n
        · have HBD := mk_bd f1 f6 (k := k) (by omega)
          have PU := Lib.hid (frU_bd (u := mkU f k) (d := mkD f k) (B := 20000000) (by omega) (by omega))
          have PD := Lib.hid (frD_bd (u := mkU f k) (d := mkD f k) (B := 20000000) (by omega) (by omega))
          have GU := Lib.hid (frU_bd (u := f) (d := f + k) (B := 20000000) (by omega) (by omega))
          have GD := Lib.hid (frD_bd (u := f) (d := f + k) (B := 20000000) (by omega) (by omega))
          have HST := Lib.hid (mk_step f1 f6 (k := k) (by omega))
          have HFV : Hid (frV f (f + k) = .agg #[.int .i64 (frU f (f + k)), .int .i64 (frD f (f + k))]) := Lib.hid rfl
          have HC1 := Lib.hid (fun W => HFV.out ▸ frac_any f (f + k) W (by unfold Mid; omega) (by unfold Mid; omega) (by omega))
          have HC2 := Lib.hid (fun W => plusH_any (frU (mkU f k) (mkD f k)) (frD (mkU f k) (mkD f k)) (frU f (f + k)) (frD f (f + k)) W (by have := PU.out; omega) (by have := GU.out; omega) (by have := PD.out; omega) (by have := GD.out; omega))
          have HSV : Hid (∀ u d : Int, frV u d = .agg #[.int .i64 (frU u d), .int .i64 (frD u d)]) := Lib.hid (fun _ _ => rfl)
          rw [HSV.out, HST.out.1, HST.out.2] at HC2
          clear HST HSV HFV PU PD GU GD HBD
          generalize frU f (f + k) = GU at *
          generalize frD f (f + k) = GD at *
          rw [← wrapIn (x := f + k) (by omega)] at HC1
          generalize hNU : frU (mkU f (k + 1)) (mkD f (k + 1)) = NU at *
          generalize hND : frD (mkU f (k + 1)) (mkD f (k + 1)) = ND at *
          have HNE := Lib.hid (And.intro hNU hND)
          clear hNU hND
          have y0 := blk_cell HX.out.b (i := 0) rfl
          have y1 := blk_cell HX.out.b (i := 1) rfl
          go_wp2
          apply region_once (F := fun v => Hid (PX w r NU ND v))
          · go_region_law ((first
              | (go_simp; go_at_call 80; refine (HC1.out _).mono ?_; rintro e v1 ⟨rfl, hb⟩; have D1 := Lib.hid (HX.out.drew.next hb); have y0 := blk_cell D1.out.b (i := 0) rfl; have y1 := blk_cell D1.out.b (i := 1) rfl; clear hb)
              | (go_simp; go_at_call 104; refine (HC2.out _).mono ?_; rintro e v2 ⟨rfl, hb⟩; have D2 := Lib.hid (D1.out.next hb); have z0 := blk_cell D2.out.b (i := 0) rfl; have z1 := blk_cell D2.out.b (i := 1) rfl; have f0 := blk_frozen D2.out.b 0; have f1 := blk_frozen D2.out.b 1; clear hb)))
            all_goals exact OnceQ.mk rfl (Lib.hid (D2.out.set NU ND))
          · rintro w7 HX7
            clear y0 y1 HX HC1 HC2
            go_wp2
            go_roundw
            case rel => exact ⟨k + 1, by omega, by go_num, Lib.hid (by rw [HNE.out.1, HNE.out.2]; exact HX7.out)⟩
            case measure => simp [intOf]; omega
        · obtain rfl : k = n := by omega
          generalize frU (mkU f k) (mkD f k) = U at *
          generalize frD (mkU f k) (mkD f k) = D at *
          have HP := Lib.hid HX.out.p
          have HB := Lib.hid HX.out.b
          have c0 := blk_cell HP.out.box (i := 0) rfl
          have c1 := blk_cell HP.out.box (i := 1) rfl
          have f0 := blk_frozen HP.out.box 0
          have f1 := blk_frozen HP.out.box 1
          have d0 := blk_cell HB.out (i := 0) rfl
          have d1 := blk_cell HB.out (i := 1) rfl
          go_wp2
          clear c0 c1 f0 f1 d0 d1
          have B1 := blk_set (blk_set HP.out.box 0 (.int .i64 U)) 1 (.int .i64 D)
          have r0 := blk_cell B1 (i := 0) (v := .int .i64 U) rfl
          have r1 := blk_cell B1 (i := 1) (v := .int .i64 D) rfl
          have HBX := Lib.hid ((HP.out.below.setCell (p := ⟨w.heap.size, 0, none⟩) (Nat.le_refl _) (.int .i64 U)).setCell (p := ⟨w.heap.size, 1, none⟩) (Nat.le_refl _) (.int .i64 D))
          clear B1 HP
          generalize (wr.setCell ⟨w.heap.size, 0, none⟩ (.int .i64 U)).setCell ⟨w.heap.size, 1, none⟩ (.int .i64 D) = WE at *
          refine bodyPost_ret (v := .tuple #[.agg #[.int .i64 U, .int .i64 D], .bool true]) (by simp [results, Try.results45, go_sem, r0, r1]) rfl ?_
          exact ⟨rfl, HBX.out⟩
    · have HNO := Lib.hid ((fun h : ¬ MQ n f => And.intro (mk_no h) (pb_false h)) (fun h => hf h.2))
      have HF := Lib.hid (fun W => pb_false hf ▸ inRange_any f 1 6 W)
      clear hn hf
      go_enter Try.func45, Try.ntmps45
      go_wp2_with fail
      refine (HN.out _).mono ?_
      rintro e w1 ⟨rfl, rfl⟩
      go_wp2_with fail
      refine (HF.out _).mono ?_
      rintro e w2 ⟨rfl, rfl⟩
      have r0 := blk_cell HPF.out.box (i := 0) rfl
      have r1 := blk_cell HPF.out.box (i := 1) rfl
      have f0 := blk_frozen HPF.out.box 0
      have f1 := blk_frozen HPF.out.box 1
      go_wp2
      refine bodyPost_ret (v := .tuple #[.agg #[.int .i64 0, .int .i64 0], .bool false]) (by simp [results, Try.results45, go_sem, r0, r1]) rfl ?_
      exact ⟨by rw [HNO.out.1, HNO.out.2], HPF.out.below⟩
  · have HNO := Lib.hid ((fun h : ¬ MQ n f => And.intro (mk_no h) (pb_false h)) (fun h => hn h.1))
    have HN := Lib.hid (fun W => pb_false hn ▸ inRange_any n 1 7 W)
    clear hn
    go_enter Try.func45, Try.ntmps45
    go_wp2_with fail
    refine (HN.out _).mono ?_
    rintro e w1 ⟨rfl, rfl⟩
    have r0 := blk_cell HPF.out.box (i := 0) rfl
    have r1 := blk_cell HPF.out.box (i := 1) rfl
    have f0 := blk_frozen HPF.out.box 0
    have f1 := blk_frozen HPF.out.box 1
    go_wp2
    refine bodyPost_ret (v := .tuple #[.agg #[.int .i64 0, .int .i64 0], .bool false]) (by simp [results, Try.results45, go_sem, r0, r1]) rfl ?_
    exact ⟨by rw [HNO.out.1, HNO.out.2], HPF.out.below⟩
set_option maxRecDepth 100000 in
set_option maxHeartbeats 800000 in
theorem MeanKinds_impl (n f : Int) (w : World) (_ : Fit n) (_ : Fit f) : Calls Try.prog 39 #[.int .i64 n, .int .i64 f] w (Ret (.tuple #[mkV n f, .bool (pb (MQ n f))]) w) := by
  have HPF := Lib.hid (PF.start w)
  by_cases hn : InR n 1 7
  · have HN := Lib.hid (fun W => pb_true hn ▸ isUrn_any n W)
    by_cases hf : InR f 1 6
    · have HF := Lib.hid (fun W => pb_true hf ▸ isFresh_any f W)
      obtain ⟨n, rfl⟩ : ∃ k : Nat, n = (k : Int) := ⟨n.toNat, by unfold InR at hn; omega⟩
      have hq : MQ n f := ⟨hn, hf⟩
      rw [mk_yes hq, pb_true hq]
      have n1 : 1 ≤ n := by unfold InR at hn; omega
      have n7 : n ≤ 7 := by unfold InR at hn; omega
      obtain ⟨f1, f6⟩ := hf
      clear hn hq
      have HZ : Hid (frV 0 1 = .agg #[.int .i64 0, .int .i64 1]) := Lib.hid (by rw [frV, (fr_one 0).1, (fr_one 0).2])
      have HC0 := Lib.hid (fun W => HZ.out ▸ fracOf_any 0 1 W (by unfold Mid; omega) (by unfold Mid; omega) (by omega))
      go_enter Try.func39, Try.ntmps39
      go_wp2_with fail
      refine (HN.out _).mono ?_
      rintro e w1 ⟨rfl, rfl⟩
      go_wp2_with fail
      refine (HF.out _).mono ?_
      rintro e w2 ⟨rfl, rfl⟩
      go_wp2_with fail
      refine (HC0.out _).mono ?_
      rintro e w3 ⟨rfl, hb⟩
      have HP3 := Lib.hid (HPF.out.up hb)
      clear hb HC0 HPF HN HF HZ
      have b4 := blk_new w3 39 #[.int .i64 0, .int .i64 1]
      have HW4 := Lib.hid (show PF w (w3.alloc (.cells #[.int .i64 0, .int .i64 1] 39)) ∧ w.heap.size < w3.heap.size from ⟨HP3.out.up (below_alloc _ _), blk_lt HP3.out.box⟩)
      have HB4 : Hid (Blk (w3.alloc (.cells #[.int .i64 0, .int .i64 1] 39)) w3.heap.size 39 #[.int .i64 (frU (mkU f 0) (mkD f 0)), .int .i64 (frD (mkU f 0) (mkD f 0))]) := Lib.hid (by
        show Blk _ _ _ #[.int .i64 (frU 0 1), .int .i64 (frD 0 1)]
        rw [(fr_one 0).1, (fr_one 0).2]; exact b4)
      clear b4 HP3
      go_wp2
      generalize w3.alloc (.cells #[.int .i64 0, .int .i64 1] 39) = W0 at *
      generalize w3.heap.size = r at *
      have hr : w.heap.size < r := HW4.out.2
      go_loopw [7, 19] (fun _ i wr => ∃ k : Nat, k ≤ n ∧ i = .int .i64 k ∧ Hid (PX w r (frU (mkU f k) (mkD f k)) (frD (mkU f k) (mkD f k)) wr)) (fun _ i _ => n - (intOf i).toNat)
      case atStart => exact ⟨0, Nat.zero_le _, rfl, Lib.hid ⟨HW4.out.1, HB4.out, HW4.out.2⟩⟩
      case round =>
        clear HW4 HB4
        obtain ⟨k, hk, rfl, HX⟩ := hrel
        by_cases hlt : k < n
        · have HBD := mk_bd f1 f6 (k := k) (by omega)
          have PU := Lib.hid (frU_bd (u := mkU f k) (d := mkD f k) (B := 20000000) (by omega) (by omega))
          have PD := Lib.hid (frD_bd (u := mkU f k) (d := mkD f k) (B := 20000000) (by omega) (by omega))
          have GU := Lib.hid (frU_bd (u := f) (d := f + k) (B := 20000000) (by omega) (by omega))
          have GD := Lib.hid (frD_bd (u := f) (d := f + k) (B := 20000000) (by omega) (by omega))
          have HST := Lib.hid (mk_step f1 f6 (k := k) (by omega))
          have HFV : Hid (frV f (f + k) = .agg #[.int .i64 (frU f (f + k)), .int .i64 (frD f (f + k))]) := Lib.hid rfl
          have HC1 := Lib.hid (fun W => HFV.out ▸ fracOf_any f (f + k) W (by unfold Mid; omega) (by unfold Mid; omega) (by omega))
          have HC2 := Lib.hid (fun W => plusI_any (frU (mkU f k) (mkD f k)) (frD (mkU f k) (mkD f k)) (frU f (f + k)) (frD f (f + k)) W (by have := PU.out; omega) (by have := GU.out; omega) (by have := PD.out; omega) (by have := GD.out; omega))
          have HSV : Hid (∀ u d : Int, frV u d = .agg #[.int .i64 (frU u d), .int .i64 (frD u d)]) := Lib.hid (fun _ _ => rfl)
          rw [HSV.out, HST.out.1, HST.out.2] at HC2
          clear HST HSV HFV PU PD GU GD HBD
          generalize frU f (f + k) = GU at *
          generalize frD f (f + k) = GD at *
          rw [← wrapIn (x := f + k) (by omega)] at HC1
          generalize hNU : frU (mkU f (k + 1)) (mkD f (k + 1)) = NU at *
          generalize hND : frD (mkU f (k + 1)) (mkD f (k + 1)) = ND at *
          have HNE := Lib.hid (And.intro hNU hND)
          clear hNU hND
          have y0 := blk_cell HX.out.b (i := 0) rfl
          have y1 := blk_cell HX.out.b (i := 1) rfl
          go_wp2
          apply region_once (F := fun v => Hid (PX w r NU ND v))
          · go_region_law ((first
              | (go_simp; go_at_call 75; refine (HC1.out _).mono ?_; rintro e v1 ⟨rfl, hb⟩; have D1 := Lib.hid (HX.out.drew.next hb); have y0 := blk_cell D1.out.b (i := 0) rfl; have y1 := blk_cell D1.out.b (i := 1) rfl; clear hb)
              | (go_simp; go_at_call 97; refine (HC2.out _).mono ?_; rintro e v2 ⟨rfl, hb⟩; have D2 := Lib.hid (D1.out.next hb); have z0 := blk_cell D2.out.b (i := 0) rfl; have z1 := blk_cell D2.out.b (i := 1) rfl; have f0 := blk_frozen D2.out.b 0; have f1 := blk_frozen D2.out.b 1; clear hb)))
            all_goals exact OnceQ.mk rfl (Lib.hid (D2.out.set NU ND))
          · rintro w7 HX7
            clear y0 y1 HX HC1 HC2
            go_wp2
            go_roundw
            case rel => exact ⟨k + 1, by omega, by go_num, Lib.hid (by rw [HNE.out.1, HNE.out.2]; exact HX7.out)⟩
            case measure => simp [intOf]; omega
        · obtain rfl : k = n := by omega
          generalize frU (mkU f k) (mkD f k) = U at *
          generalize frD (mkU f k) (mkD f k) = D at *
          have HP := Lib.hid HX.out.p
          have HB := Lib.hid HX.out.b
          have c0 := blk_cell HP.out.box (i := 0) rfl
          have c1 := blk_cell HP.out.box (i := 1) rfl
          have f0 := blk_frozen HP.out.box 0
          have f1 := blk_frozen HP.out.box 1
          have d0 := blk_cell HB.out (i := 0) rfl
          have d1 := blk_cell HB.out (i := 1) rfl
          go_wp2
          clear c0 c1 f0 f1 d0 d1
          have B1 := blk_set (blk_set HP.out.box 0 (.int .i64 U)) 1 (.int .i64 D)
          have r0 := blk_cell B1 (i := 0) (v := .int .i64 U) rfl
          have r1 := blk_cell B1 (i := 1) (v := .int .i64 D) rfl
          have HBX := Lib.hid ((HP.out.below.setCell (p := ⟨w.heap.size, 0, none⟩) (Nat.le_refl _) (.int .i64 U)).setCell (p := ⟨w.heap.size, 1, none⟩) (Nat.le_refl _) (.int .i64 D))
          clear B1 HP
          generalize (wr.setCell ⟨w.heap.size, 0, none⟩ (.int .i64 U)).setCell ⟨w.heap.size, 1, none⟩ (.int .i64 D) = WE at *
          refine bodyPost_ret (v := .tuple #[.agg #[.int .i64 U, .int .i64 D], .bool true]) (by simp [results, Try.results39, go_sem, r0, r1]) rfl ?_
          exact ⟨rfl, HBX.out⟩
    · have HNO := Lib.hid ((fun h : ¬ MQ n f => And.intro (mk_no h) (pb_false h)) (fun h => hf h.2))
      have HF := Lib.hid (fun W => pb_false hf ▸ isFresh_any f W)
      clear hn hf
      go_enter Try.func39, Try.ntmps39
      go_wp2_with fail
      refine (HN.out _).mono ?_
      rintro e w1 ⟨rfl, rfl⟩
      go_wp2_with fail
      refine (HF.out _).mono ?_
      rintro e w2 ⟨rfl, rfl⟩
      have r0 := blk_cell HPF.out.box (i := 0) rfl
      have r1 := blk_cell HPF.out.box (i := 1) rfl
      have f0 := blk_frozen HPF.out.box 0
      have f1 := blk_frozen HPF.out.box 1
      go_wp2
      refine bodyPost_ret (v := .tuple #[.agg #[.int .i64 0, .int .i64 0], .bool false]) (by simp [results, Try.results39, go_sem, r0, r1]) rfl ?_
      exact ⟨by rw [HNO.out.1, HNO.out.2], HPF.out.below⟩
  · have HNO := Lib.hid ((fun h : ¬ MQ n f => And.intro (mk_no h) (pb_false h)) (fun h => hn h.1))
    have HN := Lib.hid (fun W => pb_false hn ▸ isUrn_any n W)
    clear hn
    go_enter Try.func39, Try.ntmps39
    go_wp2_with fail
    refine (HN.out _).mono ?_
    rintro e w1 ⟨rfl, rfl⟩
    have r0 := blk_cell HPF.out.box (i := 0) rfl
    have r1 := blk_cell HPF.out.box (i := 1) rfl
    have f0 := blk_frozen HPF.out.box 0
    have f1 := blk_frozen HPF.out.box 1
    go_wp2
    refine bodyPost_ret (v := .tuple #[.agg #[.int .i64 0, .int .i64 0], .bool false]) (by simp [results, Try.results39, go_sem, r0, r1]) rfl ?_
    exact ⟨by rw [HNO.out.1, HNO.out.2], HPF.out.below⟩

end Go.Proofs.Ytpchnoalamdhkaa

/- KindsByProduct, by the model. -/
namespace Go.Proofs.Ytpchnoalamdhkaa
open Go.RowKit

set_option maxHeartbeats 400000 in
theorem factorial_any (n : Nat) (w : World) (h1 : 1 ≤ n) (h7 : n ≤ 7) : Calls Try.prog 124 #[.int .i64 n] w fun e w' => e = .returned (.int .i64 (mkD 1 n)) ∧ w = w' := by
  go_enter Try.func124, Try.ntmps124
  go_wp2
  go_loop [3, 4] (fun s i => ∃ k : Nat, 1 ≤ k ∧ k ≤ n ∧ i = .int .i64 ((k : Int) + 1) ∧ s = .int .i64 (mkD 1 k)) (fun _ i => n + 1 - (intOf i).toNat)
  case atStart => exact ⟨1, Nat.le_refl _, h1, rfl, rfl⟩
  case round =>
    obtain ⟨k, hk1, hk, rfl, rfl⟩ := hrel
    by_cases hlt : k < n
    · have hle : decide ((k : Int) + 1 ≤ (n : Int)) = true := decide_eq_true (by omega)
      have hle' : (k : Int) + 1 ≤ (n : Int) := by omega
      obtain ⟨b1, b2, _, _⟩ := mk_bd (f := 1) (by omega) (by omega) (k := k) (by omega)
      have HS : Hid (mkD 1 (k + 1) = mkD 1 k * ((k : Int) + 1)) := Lib.hid (by show mkD 1 k * (1 + (k : Int)) = _; rw [Int.add_comm])
      obtain ⟨p1, p2⟩ := mulbd (x := mkD 1 k) (y := (k : Int) + 1) (A := 20000000) (B := 8) (by omega) (by omega)
      generalize mkD 1 k = v at *
      go_wp2
      go_round
      case rel => exact ⟨k + 1, by omega, by omega, by go_num, by rw [HS.out]⟩
      case measure => simp [intOf]; omega
    · obtain rfl : k = n := by omega
      have hle : decide ((k : Int) + 1 ≤ (k : Int)) = false := decide_eq_false (by omega)
      have hle' : ¬ (k : Int) + 1 ≤ (k : Int) := by omega
      go_wp2
      go_ret
      exact ⟨rfl, rfl⟩
set_option maxRecDepth 100000 in
set_option maxHeartbeats 1600000 in
theorem byFormula_any (A : Option Addr) (n c : Nat) (xs : List Int) (f : Int) (w : World) (hx : Ints w A n c xs) (hv : VPt xs) (h1 : 1 ≤ f) (h6 : f ≤ 6) :
    Calls Try.prog 92 #[.slice A n c, .int .i64 f] w (Ret (frV (kpU xs f) (kpD xs f)) w) := by
  obtain ⟨m, hF⟩ := kp_facts hv h1 h6
  have HF := Lib.hid hF
  have HPF := Lib.hid (PF.start w)
  have HX := Lib.hid hx
  have HL := Lib.hid hx.len
  have hn7 : n ≤ 7 := by rw [← hx.len]; exact hv.2.1
  have HV := Lib.hid hv
  have hm1 := hF.m1
  have hm7 := hF.m7
  have HS := Lib.hid (hF.tot ▸ sum_any A n c xs _ (hx.keep HPF.out.keep) hv.so)
  have HFC := Lib.hid (fun W => factorial_any m W hm1 hm7)
  have HKU : Hid (kpU xs f = bfU (mkD 1 m) f n) := Lib.hid (by unfold kpU; rw [hF.tot, Int.toNat_natCast, hx.len])
  have HKD : Hid (kpD xs f = bfD (mkD f m) xs n) := Lib.hid (by unfold kpD; rw [hF.tot, Int.toNat_natCast, hx.len])
  have HU0 : Hid (bfU (mkD 1 m) f 0 = mkD 1 m) := Lib.hid rfl
  have HD0 : Hid (bfD (mkD f m) xs 0 = mkD f m) := Lib.hid rfl
  clear hx hF hv
  go_enter Try.func92, Try.ntmps92
  go_wp2_with fail
  refine HS.out.mono ?_
  rintro e w1 ⟨rfl, hq⟩
  have HP1 := Lib.hid (HPF.out.up hq.below)
  clear hq HS HPF
  go_wp2_with fail
  refine (HFC.out _).mono ?_
  rintro e w2 ⟨rfl, rfl⟩
  clear HFC
  rw [← HU0.out]
  go_wp2
  go_loop [7, 8] (fun s i => ∃ k : Nat, k ≤ m ∧ i = .int .i64 k ∧ s = .int .i64 (mkD f k)) (fun _ i => m - (intOf i).toNat)
  case atStart => exact ⟨0, Nat.zero_le _, rfl, rfl⟩
  case round =>
    obtain ⟨k, hk, rfl, rfl⟩ := hrel
    by_cases hlt : k < m
    · obtain ⟨b1, b2, _, _⟩ := mk_bd h1 h6 (k := k) (by omega)
      have HSS : Hid (mkD f (k + 1) = mkD f k * (f + (k : Int))) := Lib.hid rfl
      obtain ⟨p1, p2⟩ := mulbd (x := mkD f k) (y := f + (k : Int)) (A := 20000000) (B := 14) (by omega) (by omega)
      generalize mkD f k = v at *
      go_wp2
      go_round
      case rel => exact ⟨k + 1, by omega, by go_num, by rw [HSS.out]⟩
      case measure => simp [intOf]; omega
    · obtain rfl : k = m := by omega
      rw [← HD0.out]
      go_wp2
      go_loopw [6, 7, 9, 10] (fun u d s i wr => ∃ j : Nat, j ≤ n ∧ i = .int .i64 j ∧ u = .int .i64 (bfU (mkD 1 k) f j) ∧ d = .int .i64 (bfD (mkD f k) xs j) ∧ s = .int .i64 (bfS xs j) ∧ Hid (PF w wr)) (fun _ _ _ i _ => n - (intOf i).toNat)
      case atStart => exact ⟨0, Nat.zero_le _, rfl, rfl, rfl, rfl, HP1⟩
      case round =>
        clear HP1
        obtain ⟨j, hj, rfl, rfl, rfl, rfl, HP⟩ := hrel
        obtain ⟨u1, u2⟩ := HF.out.u j (by rw [HL.out]; exact hj)
        obtain ⟨d1, d2⟩ := HF.out.d j (by rw [HL.out]; exact hj)
        obtain ⟨s1, s2⟩ := HF.out.s j (by rw [HL.out]; exact hj)
        by_cases hlt2 : j < n
        · obtain ⟨b, ob, rfl, hc⟩ := (HX.out.keep HP.out.keep).at_ (by omega)
          have c1 := hc j hlt2
          have HXX := HV.out.1 j (by rw [HL.out]; exact hlt2)
          obtain ⟨x1, x7, _⟩ := HXX
          obtain ⟨t1, t2⟩ := HF.out.s (j + 1) (by rw [HL.out]; omega)
          obtain ⟨p1, p2⟩ := mulbd (x := bfU (mkD 1 k) f j) (y := f) (A := 2000000000) (B := 6) (by omega) (by omega)
          obtain ⟨p3, p4⟩ := mulbd (x := bfD (mkD f k) xs j) (y := gi xs j) (A := 100000000000) (B := 7) (by omega) (by omega)
          obtain ⟨p5, p6⟩ := mulbd (x := bfD (mkD f k) xs j * gi xs j) (y := bfS xs (j + 1)) (A := 700000000000) (B := 7) (by omega) (by omega)
          have HUS : Hid (bfU (mkD 1 k) f (j + 1) = bfU (mkD 1 k) f j * f) := Lib.hid rfl
          have HDS : Hid (bfD (mkD f k) xs (j + 1) = bfD (mkD f k) xs j * gi xs j * bfS xs (j + 1)) := Lib.hid rfl
          by_cases hj0 : j = 0
          · have HSE : Hid (bfS xs (j + 1) = 1) := Lib.hid (by rw [bfS, if_neg (by omega)])
            have g1 : decide ((0 : Int) < (j : Int)) = false := decide_eq_false (by omega)
            have g2 : decide (0 < j) = false := decide_eq_false (by omega)
            clear hj0 hc
            rw [HSE.out] at p5 p6 t1 t2 HDS
            generalize bfU (mkD 1 k) f j = u at *
            generalize bfD (mkD f k) xs j = d at *
            generalize bfS xs j = s at *
            generalize gi xs j = x at *
            go_wp2
            go_quiet (fail)
            go_wp2
            go_roundw
            case rel => exact ⟨j + 1, by omega, by go_num, by rw [HUS.out], by rw [HDS.out]; simp, by rw [HSE.out], Lib.hid (HP.out.up (Quiet.below ⟨_, rfl⟩))⟩
            case measure => simp [intOf]; omega
          · obtain ⟨l, rfl⟩ : ∃ l, j = l + 1 := ⟨j - 1, by omega⟩
            have c2 := hc l (by omega)
            have hcs : ((l + 1 : Nat) : Int) - 1 = (l : Int) := by omega
            have hl1 : l < n := by omega
            have hln : (l : Int) < (n : Int) := by omega
            have g1 : decide ((0 : Int) < ((l + 1 : Nat) : Int)) = true := decide_eq_true (by omega)
            clear hc
            by_cases he : gi xs (l + 1) = gi xs l
            · have HSE : Hid (bfS xs (l + 1 + 1) = bfS xs (l + 1) + 1) := Lib.hid (by rw [bfS, if_pos ⟨by omega, by rw [Nat.add_sub_cancel]; exact he⟩])
              have HTT := Lib.hid (And.intro t1 t2)
              rw [HSE.out] at p5 p6 t1 t2 HDS
              rw [← he] at c2
              clear he
              generalize bfU (mkD 1 k) f (l + 1) = u at *
              generalize bfD (mkD f k) xs (l + 1) = d at *
              generalize bfS xs (l + 1) = s at *
              generalize gi xs (l + 1) = x at *
              have g4 : (x == x) = true := by simp
              go_wp2
              go_quiet (fail)
              go_wp2
              go_roundw
              case rel => exact ⟨l + 1 + 1, by omega, by go_num, by rw [HUS.out], by rw [HDS.out], by rw [HSE.out], Lib.hid (HP.out.up (Quiet.below ⟨_, rfl⟩))⟩
              case measure => simp [intOf]; omega
            · have HSE : Hid (bfS xs (l + 1 + 1) = 1) := Lib.hid (by rw [bfS, if_neg (by rw [Nat.add_sub_cancel]; exact fun h => he h.2)])
              rw [HSE.out] at p5 p6 t1 t2 HDS
              generalize bfU (mkD 1 k) f (l + 1) = u at *
              generalize bfD (mkD f k) xs (l + 1) = d at *
              generalize bfS xs (l + 1) = s at *
              generalize gi xs (l + 1) = x at *
              generalize gi xs l = y at *
              have g4 : (x == y) = false := beq_eq_false_iff_ne.2 he
              go_wp2
              go_quiet (fail)
              go_wp2
              go_roundw
              case rel => exact ⟨l + 1 + 1, by omega, by go_num, by rw [HUS.out], by rw [HDS.out]; simp, by rw [HSE.out], Lib.hid (HP.out.up (Quiet.below ⟨_, rfl⟩))⟩
              case measure => simp [intOf]; omega
        · obtain rfl : j = n := by omega
          have HFW : Hid (frV (kpU xs f) (kpD xs f) = .agg #[.int .i64 (frU (bfU (mkD 1 k) f j) (bfD (mkD f k) xs j)), .int .i64 (frD (bfU (mkD 1 k) f j) (bfD (mkD f k) xs j))]) := Lib.hid (by rw [HKU.out, HKD.out]; rfl)
          generalize bfU (mkD 1 k) f j = u at *
          generalize bfD (mkD f k) xs j = d at *
          have HFV : Hid (frV u d = .agg #[.int .i64 (frU u d), .int .i64 (frD u d)]) := Lib.hid rfl
          have HC := Lib.hid (fun W => HFV.out ▸ frac_any u d W (by unfold Mid; omega) (by unfold Mid; omega) (by omega))
          generalize frU u d = U at *
          generalize frD u d = D at *
          go_wp2_with fail
          refine (HC.out _).mono ?_
          rintro e w4 ⟨rfl, hb⟩
          have HPF := Lib.hid (HP.out.up hb)
          clear hb HC HP
          have c0 := blk_cell HPF.out.box (i := 0) rfl
          have c1 := blk_cell HPF.out.box (i := 1) rfl
          have f0 := blk_frozen HPF.out.box 0
          have f1 := blk_frozen HPF.out.box 1
          go_wp2
          clear c0 c1 f0 f1
          have B1 := blk_set (blk_set HPF.out.box 0 (.int .i64 U)) 1 (.int .i64 D)
          have r0 := blk_cell B1 (i := 0) (v := .int .i64 U) rfl
          have r1 := blk_cell B1 (i := 1) (v := .int .i64 D) rfl
          have HBX := Lib.hid ((HPF.out.below.setCell (p := ⟨w.heap.size, 0, none⟩) (Nat.le_refl _) (.int .i64 U)).setCell (p := ⟨w.heap.size, 1, none⟩) (Nat.le_refl _) (.int .i64 D))
          clear B1 HPF
          generalize (w4.setCell ⟨w.heap.size, 0, none⟩ (.int .i64 U)).setCell ⟨w.heap.size, 1, none⟩ (.int .i64 D) = WE at *
          refine bodyPost_ret (v := .agg #[.int .i64 U, .int .i64 D]) (by simp [results, Try.results92, go_sem, r0, r1]) rfl ?_
          exact ⟨by rw [HFW.out], HBX.out⟩
set_option maxRecDepth 100000 in
set_option maxHeartbeats 3200000 in
theorem KindsByProduct_spec (A : Option Addr) (n c : Nat) (xs : List Int) (f : Int) (w : World) (hx : Ints w A n c xs) (_ : Fit f) :
    Calls Try.prog 31 #[.slice A n c, .int .i64 f] w (Ret (.tuple #[kpV xs f, .bool (pb (KQ xs f))]) w) := by
  have HPF := Lib.hid (PF.start w)
  by_cases hv : VPt xs
  · by_cases hf : InR f 1 6
    · have hq : KQ xs f := ⟨hv, hf⟩
      rw [kp_yes hq, pb_true hq]
      have HV := Lib.hid hv
      have HX := Lib.hid hx
      obtain ⟨f1, f6⟩ := show 1 ≤ f ∧ f ≤ 6 from hf
      clear hq
      have HVC := Lib.hid (pb_true hv ▸ validParts_any A n c xs _ (hx.keep HPF.out.keep))
      have HFR := Lib.hid (fun W => pb_true hf ▸ inRange_any f 1 6 W)
      clear hx hv hf
      go_enter Try.func31, Try.ntmps31
      go_wp2_with fail
      refine HVC.out.mono ?_
      rintro e w1 ⟨rfl, hb⟩
      have HP1 := Lib.hid (HPF.out.up hb.below)
      clear hb HVC HPF
      go_wp2_with fail
      refine (HFR.out _).mono ?_
      rintro e w2 ⟨rfl, rfl⟩
      clear HFR
      have HPF := HP1
      clear HP1
      have HFV : Hid (frV (kpU xs f) (kpD xs f) = .agg #[.int .i64 (frU (kpU xs f) (kpD xs f)), .int .i64 (frD (kpU xs f) (kpD xs f))]) := Lib.hid rfl
      have HC := Lib.hid (HFV.out ▸ byFormula_any A n c xs f w1 (HX.out.keep HPF.out.keep) HV.out f1 f6)
      generalize frU (kpU xs f) (kpD xs f) = U at *
      generalize frD (kpU xs f) (kpD xs f) = D at *
      go_wp2_with fail
      refine HC.out.mono ?_
      rintro e w4 ⟨rfl, hb⟩
      have HP4 := Lib.hid (HPF.out.up hb)
      clear hb HC HPF
      have HPF := HP4
      clear HP4
      have c0 := blk_cell HPF.out.box (i := 0) rfl
      have c1 := blk_cell HPF.out.box (i := 1) rfl
      have f0 := blk_frozen HPF.out.box 0
      have f1 := blk_frozen HPF.out.box 1
      go_wp2
      clear c0 c1 f0 f1
      have B1 := blk_set (blk_set HPF.out.box 0 (.int .i64 U)) 1 (.int .i64 D)
      have r0 := blk_cell B1 (i := 0) (v := .int .i64 U) rfl
      have r1 := blk_cell B1 (i := 1) (v := .int .i64 D) rfl
      have HBX := Lib.hid ((HPF.out.below.setCell (p := ⟨w.heap.size, 0, none⟩) (Nat.le_refl _) (.int .i64 U)).setCell (p := ⟨w.heap.size, 1, none⟩) (Nat.le_refl _) (.int .i64 D))
      clear B1 HPF
      generalize (w4.setCell ⟨w.heap.size, 0, none⟩ (.int .i64 U)).setCell ⟨w.heap.size, 1, none⟩ (.int .i64 D) = WE at *
      refine bodyPost_ret (v := .tuple #[.agg #[.int .i64 U, .int .i64 D], .bool true]) (by simp [results, Try.results31, go_sem, r0, r1]) rfl ?_
      exact ⟨rfl, HBX.out⟩
    · have HNO := Lib.hid ((fun h : ¬ KQ xs f => And.intro (kp_no h) (pb_false h)) (fun h => hf h.2))
      have HVC := Lib.hid (pb_true hv ▸ validParts_any A n c xs _ (hx.keep HPF.out.keep))
      have HFR := Lib.hid (fun W => pb_false hf ▸ inRange_any f 1 6 W)
      clear hx hv hf
      go_enter Try.func31, Try.ntmps31
      go_wp2_with fail
      refine HVC.out.mono ?_
      rintro e w1 ⟨rfl, hb⟩
      have HP1 := Lib.hid (HPF.out.up hb.below)
      clear hb HVC HPF
      go_wp2_with fail
      refine (HFR.out _).mono ?_
      rintro e w2 ⟨rfl, rfl⟩
      clear HFR
      have HPF := HP1
      clear HP1
      have c0 := blk_cell HPF.out.box (i := 0) rfl
      have c1 := blk_cell HPF.out.box (i := 1) rfl
      have f0 := blk_frozen HPF.out.box 0
      have f1 := blk_frozen HPF.out.box 1
      go_wp2
      clear c0 c1 f0 f1
      have B1 := blk_set (blk_set HPF.out.box 0 (.int .i64 0)) 1 (.int .i64 0)
      have r0 := blk_cell B1 (i := 0) (v := .int .i64 0) rfl
      have r1 := blk_cell B1 (i := 1) (v := .int .i64 0) rfl
      have HBX := Lib.hid ((HPF.out.below.setCell (p := ⟨w.heap.size, 0, none⟩) (Nat.le_refl _) (.int .i64 0)).setCell (p := ⟨w.heap.size, 1, none⟩) (Nat.le_refl _) (.int .i64 0))
      clear B1 HPF
      generalize (w1.setCell ⟨w.heap.size, 0, none⟩ (.int .i64 0)).setCell ⟨w.heap.size, 1, none⟩ (.int .i64 0) = WE at *
      refine bodyPost_ret (v := .tuple #[.agg #[.int .i64 0, .int .i64 0], .bool false]) (by simp [results, Try.results31, go_sem, r0, r1]) rfl ?_
      exact ⟨by rw [HNO.out.1, HNO.out.2], HBX.out⟩
  · have HNO := Lib.hid ((fun h : ¬ KQ xs f => And.intro (kp_no h) (pb_false h)) (fun h => hv h.1))
    have HVC := Lib.hid (pb_false hv ▸ validParts_any A n c xs _ (hx.keep HPF.out.keep))
    clear hx hv
    go_enter Try.func31, Try.ntmps31
    go_wp2_with fail
    refine HVC.out.mono ?_
    rintro e w1 ⟨rfl, hb⟩
    have HP1 := Lib.hid (HPF.out.up hb.below)
    clear hb HVC HPF
    have HPF := HP1
    clear HP1
    have c0 := blk_cell HPF.out.box (i := 0) rfl
    have c1 := blk_cell HPF.out.box (i := 1) rfl
    have f0 := blk_frozen HPF.out.box 0
    have f1 := blk_frozen HPF.out.box 1
    go_wp2
    clear c0 c1 f0 f1
    have B1 := blk_set (blk_set HPF.out.box 0 (.int .i64 0)) 1 (.int .i64 0)
    have r0 := blk_cell B1 (i := 0) (v := .int .i64 0) rfl
    have r1 := blk_cell B1 (i := 1) (v := .int .i64 0) rfl
    have HBX := Lib.hid ((HPF.out.below.setCell (p := ⟨w.heap.size, 0, none⟩) (Nat.le_refl _) (.int .i64 0)).setCell (p := ⟨w.heap.size, 1, none⟩) (Nat.le_refl _) (.int .i64 0))
    clear B1 HPF
    generalize (w1.setCell ⟨w.heap.size, 0, none⟩ (.int .i64 0)).setCell ⟨w.heap.size, 1, none⟩ (.int .i64 0) = WE at *
    refine bodyPost_ret (v := .tuple #[.agg #[.int .i64 0, .int .i64 0], .bool false]) (by simp [results, Try.results31, go_sem, r0, r1]) rfl ?_
    exact ⟨by rw [HNO.out.1, HNO.out.2], HBX.out⟩

end Go.Proofs.Ytpchnoalamdhkaa

