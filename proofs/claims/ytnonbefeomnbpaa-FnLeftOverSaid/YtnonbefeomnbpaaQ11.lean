/- Texts merged: K8 K9 LO8 D4 K4 Math20 Z4 V8 V9 Z5 IB C92 G6 Pl1 Math60 D2 Y1 K7 Y3 Asc Y5 B4 A6 LO3 Put RI LO9 LO10 Math86. -/
import Derived.Test.YtnonbefeomnbpaaQ10
import Derived.Laws.CopyOwn
/- The next shares, by both programs. -/
namespace Go.Proofs.Ytnonbefeomnbpaa
open Go.RowKit

/-- What the next shares are to each other. -/
def nxV (a : List (List Int)) (x : List Int) (n i : Nat) : Int := gi x i * dotr a x i n
def nxL (a : List (List Int)) (x : List Int) (n k : Nat) : List Int := (List.range k).map (nxV a x n)
theorem nxL_succ (a : List (List Int)) (x : List Int) (n k : Nat) : nxL a x n (k + 1) = nxL a x n k ++ [nxV a x n k] := by simp [nxL, List.range_succ]
theorem nxL_len (a : List (List Int)) (x : List Int) (n k : Nat) : (nxL a x n k).length = k := by simp [nxL]
theorem gi_nxL {a : List (List Int)} {x : List Int} {n k i : Nat} (h : i < k) : gi (nxL a x n k) i = nxV a x n i := gi_range h
theorem VQ.len2' {a : List (List Int)} {n : Nat} (v : VQ a) (hl : a.length = n) : (gr a 0).length = n := by have := v.2; omega
theorem dotr_pos {a : List (List Int)} {x : List Int} {i n : Nat} (ha : ∀ j, j < n → 1 ≤ g2 a i j) (hx : ∀ j, j < n → 0 ≤ gi x j) : ∀ {k}, k ≤ n → sm x k ≤ dotr a x i k
  | 0, _ => Int.le_refl _
  | k + 1, h => by
    have h1 := dotr_pos ha hx (k := k) (by omega)
    have h2 := ha k (by omega)
    have h3 := hx k (by omega)
    have h4 : 1 * gi x k ≤ g2 a i k * gi x k := Int.mul_le_mul_of_nonneg_right h2 h3
    simp only [sm, dotr]
    omega
/-- A field and shares. -/
structure FS (a : List (List Int)) (x : List Int) (n : Nat) : Prop where
  f : VF a
  s : VS x (n : Int)
  l : a.length = n
theorem FS.n3 {a x n} (h : FS a x n) : 1 ≤ n ∧ n ≤ 3 := by have := h.f.q.1.n1; have := h.f.q.1.n3; have := h.l; omega
theorem FS.xl {a x n} (h : FS a x n) : x.length = n := by have := h.s.1; omega
theorem FS.x {a x n} (h : FS a x n) : ∀ j, j < n → 0 ≤ gi x j ∧ gi x j ≤ 1000 := VS.bds h.s
theorem FS.a {a x n} (h : FS a x n) {i j : Nat} (hi : i < n) (hj : j < n) : 1 ≤ g2 a i j ∧ g2 a i j ≤ 9 := by
  have hl := h.l
  have h1 := h.f.p i j (by omega) (by omega)
  have h2 := h.f.q.1.bd (i := i) (j := j) (by omega) (by have := h.f.q.2; omega)
  omega
theorem FS.dot {a x n} (h : FS a x n) {i : Nat} (hi : i < n) : 1 ≤ dotr a x i n ∧ dotr a x i n ≤ 27000 := by
  have h0 := h.n3
  have h1 := dotr_pos (a := a) (x := x) (i := i) (n := n) (fun j hj => (h.a hi hj).1) (fun j hj => (h.x j hj).1) (Nat.le_refl n)
  have h2 := dotr_bd (a := a) (w := x) (i := i) (m := n) (fun j hj => by have := h.a hi hj; omega) h.x (Nat.le_refl n)
  have h3 := h.s.2.2
  unfold tot at h3
  rw [h.xl] at h3
  omega
theorem FS.nx {a x n} (h : FS a x n) {i : Nat} (hi : i < n) : 0 ≤ nxV a x n i ∧ nxV a x n i ≤ 27000000 ∧ (0 < gi x i → 0 < nxV a x n i) := by
  have h1 := h.dot hi
  have h2 := h.x i hi
  unfold nxV
  have h3 : 0 * dotr a x i n ≤ gi x i * dotr a x i n := Int.mul_le_mul_of_nonneg_right h2.1 (by omega)
  have h4 : gi x i * dotr a x i n ≤ 1000 * 27000 := Int.mul_le_mul h2.2 h1.2 (by omega) (by omega)
  exact ⟨by omega, by omega, fun h => Int.mul_pos h (by omega)⟩
theorem sm_has {x : List Int} : ∀ {k}, (∀ j, j < k → 0 ≤ gi x j) → 0 < sm x k → ∃ j, j < k ∧ 0 < gi x j
  | 0, _, h => by simp [sm] at h
  | k + 1, hp, h => by
    by_cases e : 0 < gi x k
    · exact ⟨k, by omega, e⟩
    · have h1 := hp k (by omega)
      obtain ⟨j, hj, hp'⟩ := sm_has (x := x) (k := k) (fun j hj => hp j (by omega)) (by simp only [sm] at h; omega)
      exact ⟨j, by omega, hp'⟩
theorem FS.clr {a x n} (h : FS a x n) : ClrP (nxL a x n n) ∧ 0 < gcdL (nxL a x n n) n := by
  have h0 := h.s.2.2
  unfold tot at h0
  rw [h.xl] at h0
  obtain ⟨j, hj, hp⟩ := sm_has (fun j hj => (h.x j hj).1) h0
  have hc : ClrP (nxL a x n n) := by
    refine ⟨⟨j, by rw [nxL_len]; exact hj, ?_⟩, .inl fun p hp => ?_⟩
    · rw [gi_nxL hj]; have := (h.nx hj).2.2 hp; omega
    · rw [nxL_len] at hp; rw [gi_nxL hp]; exact (h.nx hp).1
  exact ⟨hc, (clr_yes (nxL_len a x n n) hc).1⟩
theorem FS.mid {a x n} (h : FS a x n) : ∀ p, p < (nxL a x n n).length → Mid (gi (nxL a x n n) p) := fun p hp => by
  rw [nxL_len] at hp
  rw [gi_nxL hp]
  have := h.nx hp
  unfold Mid
  omega
/-- What NextShares answers. -/
noncomputable def nsF (a : List (List Int)) (x : List Int) : List Int := if pb (VF a ∧ VS x a.length) = true then clrL (nxL a x a.length a.length) (gcdL (nxL a x a.length a.length) a.length) a.length else []
theorem nsF_yes {a : List (List Int)} {x : List Int} {n : Nat} (h : FS a x n) : nsF a x = clrL (nxL a x n n) (gcdL (nxL a x n n) n) n := by
  unfold nsF; rw [if_pos (pb_true ⟨h.f, by rw [h.l]; exact h.s⟩), h.l]
theorem nsF_no {a : List (List Int)} {x : List Int} (h : ¬ (VF a ∧ VS x a.length)) : nsF a x = [] := by unfold nsF; rw [if_neg (by rw [pb_false h]; decide)]
theorem FS.of {a : List (List Int)} {x : List Int} {n : Nat} (hl : a.length = n) (hf : VF a) (hs : VS x (n : Int)) : FS a x n := ⟨hf, hs, hl⟩
theorem nsF_le (a : List (List Int)) (x : List Int) : (nsF a x).length ≤ 100 := by
  by_cases h : VF a ∧ VS x a.length
  · have hf : FS a x a.length := ⟨h.1, h.2, rfl⟩
    have := hf.n3
    rw [nsF_yes hf, clrL_len]; omega
  · rw [nsF_no h]; simp

end Go.Proofs.Ytnonbefeomnbpaa

/- NextShares, by both programs. -/
namespace Go.Proofs.Ytnonbefeomnbpaa
open Go.RowKit

theorem NewI.empty {w w' : World} {ys : List Int} (h : Below w.heap.size w w') (hy : ys = []) : NewI w ys (.returned (.slice none 0 0)) w' := by
  subst hy; exact ⟨none, 0, 0, 0, rfl, rfl, OwnI.nil _ _ _ _, h⟩
theorem NewI.from {w w1 w2 : World} {ys : List Int} {e : Ending} (h : Below w.heap.size w w1) (k : NewI w1 ys e w2) : NewI w ys e w2 := by
  obtain ⟨A, n, c, g, he, hn, ho, hb⟩ := k
  exact ⟨A, n, c, g, he, hn, ho.mono h.size (Nat.le_refl _), below_up h hb⟩


end Go.Proofs.Ytnonbefeomnbpaa

/- What is left over, by the program: the marked. -/
namespace Go.Proofs.Ytnonbefeomnbpaa
open Go.RowKit

theorem selL_yes {f : Nat → Bool} {k : Nat} (h : f k = true) : selL f (k + 1) = selL f k ++ [(k : Int)] := by simp [selL, List.range_succ, List.filter_append, h]
theorem selL_no {f : Nat → Bool} {k : Nat} (h : f k = false) : selL f (k + 1) = selL f k := by simp [selL, List.range_succ, List.filter_append, h]
theorem selL_small (f : Nat → Bool) (n : Nat) (hn : n ≤ 100) : ∀ y ∈ selL f n, -1000000000000000 ≤ y ∧ y ≤ 1000000000000000 := fun y hy => by
  obtain ⟨k, hk, _, rfl⟩ := selL_mem.1 hy
  omega

set_option maxRecDepth 100000 in
set_option maxHeartbeats 3200000 in
theorem marked_any (m : Nat → Bool) (w : World) : Calls Try.prog 73 #[.agg (bs3 m)] w (NewI w (selL m 3)) := by
  have HB := Lib.hid (below_alloc w (.cells (bs3 m) 68))
  have HK := Lib.hid (blk_new w 68 (bs3 m))
  go_enter Try.func73, Try.ntmps73
  have c0 := blk_cell HK.out (i := 0) (v := .bool (m 0)) rfl
  have c1 := blk_cell HK.out (i := 1) (v := .bool (m 1)) rfl
  have c2 := blk_cell HK.out (i := 2) (v := .bool (m 2)) rfl
  go_wp2
  clear c0 c1 c2 HK
  generalize w.alloc (.cells (bs3 m) 68) = W1 at *
  have HS0 := Lib.hid (IU.nil W1)
  go_loopw [3, 7] (fun v i wr => ∃ k : Nat, k ≤ 3 ∧ i = .int .i64 k ∧ Hid (IU W1 v (selL m k) wr)) (fun _ i _ => 3 - (intOf i).toNat)
  case atStart => exact ⟨0, by omega, rfl, HS0⟩
  case round =>
    clear HS0
    obtain ⟨k, hk, rfl, HI⟩ := hrel
    obtain ⟨Av, cv, rfl⟩ := HI.out.bi.form
    by_cases hlt : k < 3
    · have ix : ∀ W, (Instr.index 68 (.agg #[.bool (m 0), .bool (m 1), .bool (m 2)]) (.int .i64 k)).run Try.prog W = .ok (.bool (m k)) W := by
        have : k = 0 ∨ k = 1 ∨ k = 2 := by omega
        rcases this with rfl | rfl | rfl <;> exact fun _ => by kernel_rfl
      cases hm : m k
      · have HCS := Lib.hid (selL_no hm)
        rw [hm] at ix
        clear hm
        go_wp2
        clear ix
        go_roundw
        case rel => exact ⟨k + 1, by omega, by go_num, Lib.hid (by rw [HCS.out]; exact HI.out)⟩
        case measure => simp [intOf]; omega
      · have HCS := Lib.hid (selL_yes hm)
        rw [hm] at ix
        clear hm
        have HML := Lib.hid (selL_len m k)
        have hb := below_alloc wr (.cells #[iv (k : Int)] 3)
        have HB4 := Lib.hid (HI.out.bi.below hb).own
        have HN := Lib.hid (cell_one_new wr (iv (k : Int)) 3)
        have hwz := HI.out.up.size
        clear hb
        generalize selL m k = ys at *
        obtain ⟨i0, hi0, hz0, hz1, hz2⟩ := info_parts Try.info_int
        go_wp2_with (at_builtin; refine wpList_append_own_at _ rfl _ _ 34 rfl W1.heap.size 3 i0 (.int .i64 0) 1 8 Try.underlying34 hi0 hz0 hz1 hz2 rfl (by decide) _ ys.length (ys.map iv) rfl HB4.out ⟨wr.heap.size, 0, none⟩ 1 1 [iv (k : Int)] rfl rfl ?c1 ?c2 ?c3 ?c4 ?c5 ?_)
        case c1 => exact HN.out
        case c2 => intro u hu; simp at hu; subst hu; rfl
        case c3 => have := HML.out; unfold maxLen; omega
        case c4 => have := HML.out; omega
        case c5 => simp; omega
        intro v' w5 hown' hgrow _ hat
        have HI5 := Lib.hid (HI.out.push hown' hgrow (by simpa using hat))
        clear HB4 HN hown' hgrow hat HI ix
        go_wp2
        go_roundw
        case rel => exact ⟨k + 1, by omega, by go_num, Lib.hid (by rw [HCS.out]; exact HI5.out)⟩
        case measure => simp [intOf]; omega
    · obtain rfl : k = 3 := by omega
      have HNW := Lib.hid (NewI.from HB.out (HI.out.new (by have := selL_len m 3; omega) (selL_small m 3 (by omega))))
      go_wp2
      go_ret
      exact HNW.out
end Go.Proofs.Ytnonbefeomnbpaa

/- Pure rests, by the program. -/
namespace Go.Proofs.Ytnonbefeomnbpaa
open Go.RowKit

theorem Try.info32b : (Try.prog.info? 34).map (fun i => (i.zero, i.size, i.bytes)) = some (some (.slice none 0 0), 1, 24) := by kernel_rfl

/-- What the loops know: the game, the turned table, the rests so far. -/
structure PS (p : GP) (w : World) (N L : Nat) (wr : World) (v : Value) (vs : List Value) (xs ys rs : List (List Int)) : Prop where
  gt : GT p w wr w.heap.size xs ys
  tn : OwnR N L wr N (some ⟨N, 0, none⟩) p.m p.m (flip xs p.n p.m)
  bd : Bld L wr.heap.size wr v vs rs
  h1 : w.heap.size < N
  h2 : N < L
  h3 : L ≤ wr.heap.size
theorem PS.qu {p w N L wr wr' v vs xs ys rs} (h : PS p w N L wr v vs xs ys rs) (k : Quiet wr wr') : PS p w N L wr' v vs xs ys rs := by
  have kb : Below wr.heap.size wr wr' := k.below
  exact ⟨h.gt.up kb, h.tn.below kb, (h.bd.below kb).mono kb.size, h.h1, h.h2, Nat.le_trans h.h3 kb.size⟩

set_option maxHeartbeats 1000000 in
theorem PureRests_impl (A B : Option Addr) (n c m d : Nat) (xs ys : List (List Int)) (w : World) (hx : IntRows w A n c xs) (hy : IntRows w B m d ys) :
    Calls Try.prog 23 #[.agg #[.slice A n c, .slice B m d]] w (RetR (pureR xs ys) w) := by
  have hb0 := below_alloc w (.cells #[.slice A n c, .slice B m d] 29)
  have b0 := blk_new w 29 #[.slice A n c, .slice B m d]
  have HB := Lib.hid hb0
  have HK := Lib.hid b0
  have HX := Lib.hid (hx.keep (Keep.below hb0))
  have HY := Lib.hid (hy.keep (Keep.below hb0))
  have HX0 := Lib.hid hx
  have HY0 := Lib.hid hy
  clear hx hy hb0 b0
  go_enter Try.func23, Try.ntmps23
  go_wp2_with fail
  generalize w.alloc (.cells #[.slice A n c, .slice B m d] 29) = W1 at *
  have HC := Lib.hid (ValidGame_impl _ _ _ _ _ _ _ _ _ HX.out HY.out)
  by_cases hv : VG xs ys
  · refine ((pb_true hv) ▸ HC.out).mono ?_
    rintro e w1 ⟨rfl, hb⟩
    have hb2 := below_up HB.out hb
    have hk2 := blk_below HK.out hb
    obtain ⟨p, rfl, rfl, rfl, rfl, rfl, rfl, hg⟩ := GV.of HX0.out HY0.out hv
    have HT := Lib.hid (show GT p w w1 w.heap.size xs ys from ⟨hb2, hk2, hg⟩)
    have hn3 := hg.tx.n3
    have hm3 := hg.tx.m3
    have hn1 := hg.tx.n1
    have hm1 := hg.tx.m1
    have HP := Lib.hid (show pureR xs ys = allRests xs ys p.n p.m p.n by rw [pureR, if_pos (pb_true hv), hg.lx, hg.mx])
    have HLY := Lib.hid (show ∀ i, i < p.n → (gr ys i).length = p.m from fun i hi => (hg.ty.ints i hi).len)
    clear hb hv hb2 hk2 hg HX HY HX0 HY0 HB HK HC
    have k0 := HT.out.c0
    go_wp2_with fail
    refine (turned_any _ _ _ _ _ _ _ _ _ _ HT.out.gv.tx).mono ?_
    rintro e w2 ⟨rfl, ho, hb, hlt⟩
    have HS := Lib.hid (show PS p w w1.heap.size w2.heap.size w2 (.slice none 0 0) [] xs ys [] from ⟨HT.out.up hb, ho, Bld.nil _ _ _, blk_lt HT.out.box, hlt, Nat.le_refl _⟩)
    clear ho hb hlt HT k0
    generalize w1.heap.size = N at *
    generalize w2.heap.size = L at *
    have k1 := HS.out.gt.c1
    go_wp2
    clear k1
    go_loopw [4, 18] (fun v s wr => ∃ (i : Nat) (vs : List Value), i ≤ p.n ∧ s = .int .i64 i ∧ Hid (PS p w N L wr v vs xs ys (allRests xs ys p.n p.m i))) (fun _ s _ => p.n - (intOf s).toNat)
    case atStart => exact ⟨0, [], Nat.zero_le _, rfl, HS⟩
    case round =>
      clear HS
      obtain ⟨i, vs, hi, rfl, HS⟩ := hrel
      by_cases hin : i < p.n
      · have s1 := HS.out.gt.gv.ty.row i hin
        go_wp2
        clear s1
        go_loopw [4, 25] (fun v s wj => ∃ (j : Nat) (vs : List Value), j ≤ p.m ∧ s = .int .i64 j ∧ Hid (PS p w N L wj v vs xs ys (allRests xs ys p.n p.m i ++ rowRests xs ys p.n p.m i j))) (fun _ s _ => p.m - (intOf s).toNat)
        case atStart => exact ⟨0, vs, Nat.zero_le _, rfl, Lib.hid (by rw [rowRests, List.append_nil]; exact HS.out)⟩
        case round =>
          clear HS vs
          obtain ⟨j, vs, hj, rfl, HS⟩ := hrel
          by_cases hjm : j < p.m
          · have k0 := HS.out.gt.c0
            have r1 := HS.out.gt.gv.tx.row i hin
            have e1 := HS.out.gt.gv.tx.cell i j hin hjm
            have f1 := HS.out.gt.gv.ty.cell i j hin hjm
            obtain ⟨R, cc, t1, tI⟩ := HS.out.tn.row0 hjm
            have hfl : (gr (flip xs p.n p.m) j).length = p.n := by rw [gr_flip hjm]; simp
            have HQX := Lib.hid tI
            have HQY := Lib.hid (HS.out.gt.gv.ty.ints i hin)
            clear tI
            generalize hcol : gr (flip xs p.n p.m) j = col at *
            have HCOL := Lib.hid hcol
            clear hcol
            have QX := Lib.hid (fun W (hW : Quiet wr W) => Max_any _ _ _ _ W (HQX.out.keep (Keep.quiet hW)) (by omega))
            have QY := Lib.hid (fun W (hW : Quiet wr W) => Max_any _ _ _ _ W (HQY.out.keep (Keep.quiet hW)) (by omega))
            clear HQX HQY hfl
            by_cases h1 : g2 xs i j = mxl col
            · have h1' : (g2 xs i j == mxl col) = true := by simp [h1]
              by_cases h2 : g2 ys i j = mxl (gr ys i)
              · have h2' : (g2 ys i j == mxl (gr ys i)) = true := by simp [h2]
                have HR := Lib.hid (rowRests_yes ((RestAt_iff hin hjm (HLY.out i hin)).2 ⟨by rw [HCOL.out]; exact h1, h2⟩))
                clear h1 h2
                go_wp2
                go_quiet ((go_at_call 58; (first | (with_reducible refine quiet_fit (QX.out _ ?_) (fun m => ?_)) | (with_reducible refine quiet_fit (QY.out _ ?_) (fun m => ?_))); (first | exact ⟨_, rfl⟩ | exact Quiet.two _ _ _); (first | exact drewN_to1 _ _ _ | exact drewN_to2 _ _ _ _)))
                have HS2 := Lib.hid (HS.out.qu ⟨nq, rfl⟩)
                have hlen : (allRests xs ys p.n p.m i ++ rowRests xs ys p.n p.m i j).length ≤ 12 := by
                  have h1 := allRests_len xs ys p.n p.m hm3 i
                  have h2 := rowRests_len xs ys p.n p.m i j
                  rw [List.length_append]; omega
                clear QX QY h1' h2' HS k0 r1 e1 f1 t1
                generalize wr.drewN nq = w2 at *
                have hb3 := below_alloc w2 (.cells #[.int .i64 i, .int .i64 j] 3)
                have hb4 := below_alloc (w2.alloc (.cells #[.int .i64 i, .int .i64 j] 3)) (.cells #[.slice (some ⟨w2.heap.size, 0, none⟩) 2 2] 34)
                have HB4 := Lib.hid ((HS2.out.bd.below hb3).below hb4).own
                have HN := Lib.hid (cell_one_new (w2.alloc (.cells #[.int .i64 i, .int .i64 j] 3)) (.slice (some ⟨w2.heap.size, 0, none⟩) 2 2) 34)
                have hL := HS2.out.h3
                clear hb3 hb4
                generalize hrs : allRests xs ys p.n p.m i ++ rowRests xs ys p.n p.m i j = rs at *
                have HRS := Lib.hid hrs
                clear hrs
                obtain ⟨i0, hi0, hz0, hz1, hz2⟩ := info_parts Try.info32b
                go_wp2_with (at_builtin; refine wpList_append_own_at _ rfl _ _ 23 rfl L 34 i0 (.slice none 0 0) 1 24 Try.underlying23 hi0 hz0 hz1 hz2 rfl (by decide) _ rs.length vs rfl HB4.out ⟨w2.heap.size + 1, 0, none⟩ 1 1 [.slice (some ⟨w2.heap.size, 0, none⟩) 2 2] rfl rfl ?c1 ?c2 ?c3 ?c4 ?c5 ?_)
                case c1 => have h := HN.out; rw [World.size_alloc] at h; exact h
                case c2 => intro u hu; simp at hu; subst hu; rfl
                case c3 => unfold maxLen; omega
                case c4 => omega
                case c5 => simp; omega
                intro v' w5 hown' hgrow _ hat
                obtain ⟨hP, hK⟩ := push_pair HS2.out.bd (by omega) (by omega) hown' hgrow hat hL
                have HS5 := Lib.hid (show PS p w N L w5 v' _ xs ys _ from ⟨HS2.out.gt.up2 hK (by have := HS2.out.h1; have := HS2.out.h2; omega) (by have := HS2.out.h1; have := HS2.out.h2; omega), HS2.out.tn.of_blocks (fun g _ hg _ => hK.block g hg), hP, HS2.out.h1, HS2.out.h2, Nat.le_trans hL hK.size⟩)
                clear HB4 HN hown' hgrow hat hP hK HS2
                go_wp2
                go_roundw
                case rel => exact ⟨j + 1, _, by omega, by go_num, Lib.hid (by rw [HR.out, ← List.append_assoc, HRS.out]; exact HS5.out)⟩
                case measure => simp [intOf]; omega
              · have h2' : (g2 ys i j == mxl (gr ys i)) = false := by simp [h2]
                have HR := Lib.hid (rowRests_no (a := xs) (fun v => h2 ((RestAt_iff hin hjm (HLY.out i hin)).1 v).2))
                clear h1 h2
                go_wp2
                go_quiet ((go_at_call 58; (first | (with_reducible refine quiet_fit (QX.out _ ?_) (fun m => ?_)) | (with_reducible refine quiet_fit (QY.out _ ?_) (fun m => ?_))); (first | exact ⟨_, rfl⟩ | exact Quiet.two _ _ _); (first | exact drewN_to1 _ _ _ | exact drewN_to2 _ _ _ _)))
                have HS2 := Lib.hid (HS.out.qu ⟨nq, rfl⟩)
                go_wp2
                go_roundw
                case rel => exact ⟨j + 1, vs, by omega, by go_num, Lib.hid (by rw [HR.out]; exact HS2.out)⟩
                case measure => simp [intOf]; omega
            · have h1' : (g2 xs i j == mxl col) = false := by simp [h1]
              have HR := Lib.hid (rowRests_no (fun v => h1 (by have := ((RestAt_iff hin hjm (HLY.out i hin)).1 v).1; rw [HCOL.out] at this; exact this)))
              clear h1
              go_wp2
              go_quiet ((go_at_call 58; (first | (with_reducible refine quiet_fit (QX.out _ ?_) (fun m => ?_)) | (with_reducible refine quiet_fit (QY.out _ ?_) (fun m => ?_))); (first | exact ⟨_, rfl⟩ | exact Quiet.two _ _ _); (first | exact drewN_to1 _ _ _ | exact drewN_to2 _ _ _ _)))
              have HS2 := Lib.hid (HS.out.qu ⟨nq, rfl⟩)
              go_wp2
              go_roundw
              case rel => exact ⟨j + 1, vs, by omega, by go_num, Lib.hid (by rw [HR.out]; exact HS2.out)⟩
              case measure => simp [intOf]; omega
          · go_wp2
            go_roundw
            case rel => exact ⟨i + 1, vs, by omega, by go_num, Lib.hid (by have h := HS.out; rw [show j = p.m by omega] at h; rw [allRests]; exact h)⟩
            case measure => simp [intOf]; omega
      · go_wp2
        go_ret
        obtain ⟨A, n, c, g, rfl, hn, ho⟩ := HS.out.bd.owns (by have := allRests_len xs ys p.n p.m hm3 i; omega)
        have e : pureR xs ys = allRests xs ys p.n p.m i := by rw [HP.out, show i = p.n by omega]
        exact ⟨A, n, c, g, rfl, by rw [e]; exact hn, by rw [e]; exact ho.mono (by have := HS.out.h1; have := HS.out.h2; omega) (Nat.le_refl _), HS.out.gt.below⟩
  · have HZ := Lib.hid (show pureR xs ys = [] by rw [pureR, if_neg (by rw [pb_false hv]; decide)])
    refine ((pb_false hv) ▸ HC.out).mono ?_
    rintro e w1 ⟨rfl, hb⟩
    have HB2 := Lib.hid (below_up HB.out hb)
    clear hb hv HC
    go_wp2
    go_ret
    exact ⟨none, 0, 0, 0, rfl, by rw [HZ.out]; rfl, by rw [HZ.out]; exact OwnR.nil _ _ _ _, HB2.out⟩
end Go.Proofs.Ytnonbefeomnbpaa

/- Rests, by both programs. -/
namespace Go.Proofs.Ytnonbefeomnbpaa
open Go.RowKit

/-- No strategy has more than one with a share. -/
def RestP (a : List (List Int)) (w : List Int) (n : Nat) : Prop := ∀ i, i < n → 0 < gi w i → ∀ k, k < n → dotr a w k n ≤ dotr a w i n
structure RQ (a : List (List Int)) (w : List Int) : Prop where
  q : VQ a
  s : VS w a.length
  r : RestP a w a.length


/-- The greatest of the first k values. -/
def mxd (f : Nat → Int) : Nat → Int
  | 0 => 0
  | k + 1 => if k = 0 ∨ mxd f k < f k then f k else mxd f k
theorem mxd_up {f : Nat → Int} {k : Nat} (h : k = 0 ∨ mxd f k < f k) : mxd f (k + 1) = f k := by rw [mxd, if_pos h]
theorem mxd_same {f : Nat → Int} {k : Nat} (h : ¬ (k = 0 ∨ mxd f k < f k)) : mxd f (k + 1) = mxd f k := by rw [mxd, if_neg h]
theorem mxd_ge (f : Nat → Int) : ∀ {k i}, i < k → f i ≤ mxd f k
  | 0, _, h => absurd h (by omega)
  | k + 1, i, h => by
    by_cases hu : k = 0 ∨ mxd f k < f k
    · rw [mxd_up hu]
      by_cases e : i = k
      · subst e; exact Int.le_refl _
      · have := mxd_ge f (k := k) (i := i) (by omega)
        omega
    · rw [mxd_same hu]
      by_cases e : i = k
      · subst e; omega
      · exact mxd_ge f (by omega)
theorem mxd_at (f : Nat → Int) : ∀ {k}, 0 < k → ∃ i, i < k ∧ mxd f k = f i
  | 0, h => absurd h (by omega)
  | k + 1, _ => by
    by_cases hu : k = 0 ∨ mxd f k < f k
    · exact ⟨k, by omega, mxd_up hu⟩
    · obtain ⟨i, hi, e⟩ := mxd_at f (k := k) (by omega)
      exact ⟨i, by omega, (mxd_same hu).trans e⟩
/-- At rest all that is there has the most. -/
theorem rest_most (a : List (List Int)) (w : List Int) (n : Nat) (hn : 0 < n) : RestP a w n ↔ ∀ i, i < n → 0 < gi w i → dotr a w i n = mxd (fun i => dotr a w i n) n := by
  constructor
  · intro h i hi hp
    obtain ⟨k, hk, e⟩ := mxd_at (fun i => dotr a w i n) hn
    have h1 := h i hi hp k hk
    have h2 := mxd_ge (fun i => dotr a w i n) hi
    have e' : mxd (fun i => dotr a w i n) n = dotr a w k n := e
    have h2' : dotr a w i n ≤ mxd (fun i => dotr a w i n) n := h2
    omega
  · intro h i hi hp k hk
    rw [h i hi hp]
    exact mxd_ge (fun i => dotr a w i n) hk
theorem mxd_bd {f : Nat → Int} {B : Int} (hB : 0 ≤ B) : ∀ {k}, (∀ i, i < k → -B ≤ f i ∧ f i ≤ B) → -B ≤ mxd f k ∧ mxd f k ≤ B
  | 0, _ => by simp only [mxd]; omega
  | k + 1, h => by
    by_cases hu : k = 0 ∨ mxd f k < f k
    · rw [mxd_up hu]; exact h k (by omega)
    · rw [mxd_same hu]; exact mxd_bd hB fun i hi => h i (by omega)

end Go.Proofs.Ytnonbefeomnbpaa

/- Shares at which some strategies have as much: the sums of the cofactors of the columns, and the differences to the first row. Plain. -/
namespace Go.Proofs.Ytnonbefeomnbpaa
open V (sumN detN rowC colC cofN minorN skip sgn Asc)

/-- The square of a part, as it is. -/
def lf (a : List (List Int)) (r : Nat → Nat) : Nat → Nat → Int := fun p q => g2 a (r p) (r q) + 0
/-- The differences to the first row, behind a row of ones. -/
def mf (a : List (List Int)) (r : Nat → Nat) : Nat → Nat → Int := fun p q => if p = 0 then 1 else g2 a (r p) (r q) - g2 a (r 0) (r q)

theorem rowC_shift {k : Nat} (hk : k ≤ 3) {f g : Nat → Nat → Int} (z : Int) (h : ∀ p q, g p q = f p q + z) {p : Nat} (hp : p < k) : rowC k g p = rowC k f p := by
  have : k = 1 ∨ k = 2 ∨ k = 3 := by omega
  rcases this with rfl | rfl | rfl
  · simp [rowC, sumN, cofN, detN]
  · have : p = 0 ∨ p = 1 := by omega
    rcases this with rfl | rfl <;> simp [rowC, sumN, cofN, sgn, detN, minorN, skip, h] <;> omega
  · obtain ⟨e0, e1, e2⟩ := V.rowC3 f
    obtain ⟨d0, d1, d2⟩ := V.rowC3 g
    have : p = 0 ∨ p = 1 ∨ p = 2 := by omega
    rcases this with rfl | rfl | rfl
    · rw [e0, d0]; simp only [h]; grind
    · rw [e1, d1]; simp only [h]; grind
    · rw [e2, d2]; simp only [h]; grind
theorem lf_kY (a : List (List Int)) (r : Nat → Nat) {k : Nat} (hk : k ≤ 3) : cofL k (trN (lf a r)) k = kY a r r k := by
  unfold kY cofL
  refine List.map_congr_left fun p hp => ?_
  exact (rowC_shift hk 18 (f := trN (lf a r)) (g := trN (kf a r r)) (fun p q => by unfold trN lf kf; omega) (List.mem_range.1 hp)).symm
theorem gi_kY {a : List (List Int)} {r : Nat → Nat} {k : Nat} (hk : k ≤ 3) {c : Nat} (hc : c < k) : gi (kY a r r k) c = colC k (kf a r r) c := by
  unfold kY; rw [gi_cofL hc, rowC_tr hk]
theorem mf_cof {a : List (List Int)} {r : Nat → Nat} {k : Nat} (hk : k ≤ 3) {c : Nat} (hc : c < k) : cofN k (mf a r) 0 c = gi (kY a r r k) c := by
  rw [gi_kY hk hc]
  have : k = 1 ∨ k = 2 ∨ k = 3 := by omega
  rcases this with rfl | rfl | rfl
  · obtain rfl : c = 0 := by omega
    simp [colC, sumN, cofN, sgn, detN]
  · have : c = 0 ∨ c = 1 := by omega
    rcases this with rfl | rfl <;> simp [colC, sumN, cofN, sgn, detN, minorN, skip, mf, kf] <;> omega
  · obtain ⟨e0, e1, e2⟩ := V.colC3 (kf a r r)
    have : c = 0 ∨ c = 1 ∨ c = 2 := by omega
    rcases this with rfl | rfl | rfl
    · rw [e0]; simp [sumN, cofN, sgn, detN, minorN, skip, mf, kf]; grind
    · rw [e1]; simp [sumN, cofN, sgn, detN, minorN, skip, mf, kf]; grind
    · rw [e2]; simp [sumN, cofN, sgn, detN, minorN, skip, mf, kf]; grind
theorem mf_det {a : List (List Int)} {r : Nat → Nat} {k : Nat} (h1 : 1 ≤ k) (hk : k ≤ 3) : detN k (mf a r) = sumN (gi (kY a r r k)) k := by
  obtain ⟨l, rfl⟩ : ∃ l, k = l + 1 := ⟨k - 1, by omega⟩
  rw [detN]
  refine sumN_congr fun j hj => ?_
  rw [← mf_cof hk hj]
  unfold cofN
  rw [Nat.zero_add, show mf a r 0 j = 1 from rfl, Nat.add_sub_cancel, Int.one_mul]
theorem mf_ab {a : List (List Int)} (v : VT a) (h : a.length = (gr a 0).length) {r : Nat → Nat} {k : Nat} (hr : Asc a.length k r) : Ab k (mf a r) := fun p q hp hq => by
  unfold mf
  have h0 := hr.1 0 (by omega)
  have hpp := hr.1 p hp
  have hqq := hr.1 q hq
  have e1 := v.bd hpp (j := r q) (by omega)
  have e2 := v.bd h0 (j := r q) (by omega)
  split <;> omega

/-- All numbers more than 0, or all less. -/
def LevP (X : List Int) : Prop := (∀ p, p < X.length → 0 < gi X p) ∨ ∀ p, p < X.length → gi X p < 0
theorem LevP.clr {X : List Int} (h : LevP X) (h0 : 0 < X.length) : ClrP X := by
  rcases h with h | h
  · exact ⟨⟨0, h0, by have := h 0 h0; omega⟩, .inl fun p hp => by have := h p hp; omega⟩
  · exact ⟨⟨0, h0, by have := h 0 h0; omega⟩, .inr fun p hp => by have := h p hp; omega⟩
def levB (xs : List Int) : Bool := decide (lst xs ≤ 0) && decide (0 ≤ mxl xs)
theorem levB_iff {xs : List Int} (h0 : 0 < xs.length) : levB xs = false ↔ LevP xs := by
  unfold levB lst mxl LevP
  rw [Bool.and_eq_false_iff, decide_eq_false_iff_not, decide_eq_false_iff_not]
  constructor
  · rintro (h | h)
    · exact .inl fun p hp => by have := mn_le (xs := xs) (k := xs.length - 1) (j := p) (by omega); omega
    · exact .inr fun p hp => by have := mx_ge xs (k := xs.length - 1) (j := p) (by omega); omega
  · rintro (h | h)
    · obtain ⟨j, hj, e⟩ := mn_mem (xs := xs) (xs.length - 1)
      exact .inl (by have := h j (by omega); omega)
    · obtain ⟨j, hj, e⟩ := mx_at xs (xs.length - 1)
      exact .inr (by have := h j (by omega); omega)

/-- The first c numbers, times z. -/
def sgL (X : List Int) (z : Int) (c : Nat) : List Int := (List.range c).map fun p => z * gi X p
theorem sgL_succ (X : List Int) (z : Int) (c : Nat) : sgL X z (c + 1) = sgL X z c ++ [z * gi X c] := by simp [sgL, List.range_succ]
theorem sgL_len (X : List Int) (z : Int) (c : Nat) : (sgL X z c).length = c := by simp [sgL]
theorem gi_sgL {X : List Int} {z : Int} {c p : Nat} (h : p < c) : gi (sgL X z c) p = z * gi X p := by
  rw [gi_get (by rw [sgL_len]; exact h)]; simp [sgL]
theorem gcdL_sgL {X : List Int} {z : Int} (hz : z = 1 ∨ z = -1) {k : Nat} : ∀ {j}, j ≤ k → gcdL (sgL X z k) j = gcdL X j
  | 0, _ => rfl
  | j + 1, h => by
    rw [gcdL, gcdL, gcdL_sgL hz (by omega), gi_sgL (by omega)]
    rcases hz with rfl | rfl
    · rw [Int.one_mul]
    · unfold gcdI; rw [Int.neg_one_mul, Int.gcd_neg]
theorem shr_sgL {X : List Int} {z : Int} (hz : z = 1 ∨ z = -1) {n k : Nat} {r : Nat → Nat} (hl : X.length = k) : shr n r (sgL X z k) k = shr n r X k := by
  unfold shr
  rw [sgL_len, hl, gcdL_sgL hz (Nat.le_refl _)]
  congr 1
  unfold clrL
  refine List.map_congr_left fun p hp => ?_
  rw [gi_sgL (List.mem_range.1 hp)]
  rcases hz with rfl | rfl
  · rw [Int.one_mul]
  · rw [show max (-1 * gi X p) (-(-1 * gi X p)) = max (gi X p) (-(gi X p)) by omega]
/-- The sign of the sum. -/
def zsg (X : List Int) (k : Nat) : Int := if sumN (gi X) k < 0 then -1 else 1
theorem zsg_or (X : List Int) (k : Nat) : zsg X k = 1 ∨ zsg X k = -1 := by unfold zsg; split <;> simp
theorem lev_sum {X : List Int} (h : LevP X) (h0 : 0 < X.length) : sumN (gi X) X.length ≠ 0 ∧ ∀ p, p < X.length → 0 < zsg X X.length * gi X p := by
  rcases h with h | h
  · have hs := sumN_pos (f := gi X) (n := X.length) (fun i hi => by have := h i hi; omega) ⟨0, h0, h 0 h0⟩
    refine ⟨by omega, fun p hp => ?_⟩
    unfold zsg; rw [if_neg (by omega), Int.one_mul]; exact h p hp
  · have hs := sumN_pos (f := fun i => (-1) * gi X i) (n := X.length) (fun i hi => by have := h i hi; omega) ⟨0, h0, by have := h 0 h0; omega⟩
    rw [sumN_mul] at hs
    refine ⟨by omega, fun p hp => ?_⟩
    unfold zsg; rw [if_pos (by omega)]; have := h p hp; omega
theorem lev_of {X : List Int} {z : Int} (hz : z = 1 ∨ z = -1) (h : ∀ p, p < X.length → 0 < z * gi X p) : LevP X := by
  rcases hz with rfl | rfl
  · exact .inl fun p hp => by have := h p hp; omega
  · exact .inr fun p hp => by have := h p hp; omega

theorem memL_ge : ∀ R, R < 8 → ∀ n, n < 4 → 1 ≤ R → R < 2 ^ n → 1 ≤ (memL R n).length := by decide
/-- The shares of some strategies are the only ones at which these have as much, and no other one has more. -/
def LevAt (a : List (List Int)) (k : Nat) (r : Nat → Nat) : Prop := LevP (kY a r r k) ∧ RestP a (shr a.length r (kY a r r k) k) a.length
def lvl (a : List (List Int)) (s : Nat) : List Int := shr a.length (idx s a.length) (kY a (idx s a.length) (idx s a.length) (memL s a.length).length) (memL s a.length).length
def LvP (a : List (List Int)) (s : Nat) : Prop := 1 ≤ s ∧ s < 2 ^ a.length ∧ LevAt a (memL s a.length).length (idx s a.length)
noncomputable def resR (a : List (List Int)) : Nat → List (List Int)
  | 0 => []
  | s + 1 => if pb (LvP a s) = true then resR a s ++ [lvl a s] else resR a s
noncomputable def resF (a : List (List Int)) : List (List Int) := if pb (VQ a) = true then resR a 8 else []
theorem resR_yes {a : List (List Int)} {s : Nat} (h : LvP a s) : resR a (s + 1) = resR a s ++ [lvl a s] := by rw [resR, if_pos (pb_true h)]
theorem resR_no {a : List (List Int)} {s : Nat} (h : ¬ LvP a s) : resR a (s + 1) = resR a s := by rw [resR, if_neg (by rw [pb_false h]; decide)]
theorem lvl_len (a : List (List Int)) (s : Nat) : (lvl a s).length = a.length := putL_len _ _ _ _
theorem resR_one (a : List (List Int)) : resR a 1 = [] := by rw [resR_no (fun h => by have := h.1; omega)]; rfl
theorem resR_len (a : List (List Int)) : ∀ s, (resR a s).length ≤ s
  | 0 => by simp [resR]
  | s + 1 => by
    have := resR_len a s
    by_cases h : LvP a s
    · rw [resR_yes h, List.length_append, List.length_singleton]; omega
    · rw [resR_no h]; omega
theorem resR_end {a : List (List Int)} : ∀ {d}, resR a (2 ^ a.length + d) = resR a (2 ^ a.length)
  | 0 => rfl
  | d + 1 => by rw [← Nat.add_assoc, resR_no (fun h => by have := h.2.1; omega), resR_end]
theorem resR_all {a : List (List Int)} (h : a.length ≤ 3) : resR a 8 = resR a (2 ^ a.length) := by
  have h8 : 2 ^ a.length ≤ 8 := pow_le8 h
  have := resR_end (a := a) (d := 8 - 2 ^ a.length)
  rwa [show 2 ^ a.length + (8 - 2 ^ a.length) = 8 by omega] at this
theorem mem_resR {a : List (List Int)} {x : List Int} : ∀ {k}, x ∈ resR a k ↔ ∃ s, s < k ∧ LvP a s ∧ x = lvl a s
  | 0 => by simp [resR]
  | k + 1 => by
    have ih := mem_resR (a := a) (x := x) (k := k)
    by_cases h : LvP a k
    · rw [resR_yes h, List.mem_append, List.mem_singleton, ih]
      constructor
      · rintro (⟨s, h1, h2, h3⟩ | h1)
        · exact ⟨s, by omega, h2, h3⟩
        · exact ⟨k, by omega, h, h1⟩
      · rintro ⟨s, h1, h2, h3⟩
        by_cases e : s = k
        · subst e; exact .inr h3
        · exact .inl ⟨s, by omega, h2, h3⟩
    · rw [resR_no h, ih]
      constructor
      · rintro ⟨s, h1, h2, h3⟩; exact ⟨s, by omega, h2, h3⟩
      · rintro ⟨s, h1, h2, h3⟩
        by_cases e : s = k
        · subst e; exact absurd h2 h
        · exact ⟨s, by omega, h2, h3⟩
theorem lvl_VS {a : List (List Int)} (q : VQ a) {s : Nat} (h : LvP a s) (h8 : s < 8) : VS (lvl a s) a.length := by
  have hk3 : (memL s a.length).length ≤ 3 := by have := memL_le s a.length; have := q.1.n3; omega
  have h1 := memL_ge s h8 a.length (by have := q.1.n3; omega) h.1 h.2.1
  have hr := idx_asc s a.length
  exact shr_VS (kY_len _ _ _ _) hr (h.2.2.1.clr (by rw [kY_len]; omega)) (fun p hp => kY_bd q.1 hk3 hr (by rw [← q.2]; exact hr) hp)
end Go.Proofs.Ytnonbefeomnbpaa

/- The shares of some strategies at which these have as much, by the model. -/
namespace Go.Proofs.Ytnonbefeomnbpaa
open Go.RowKit
open V (sumN detN rowC colC cofN minorN skip sgn Asc)

/-- The first j numbers of row p of the differences; the first i rows. -/
def dfR (a : List (List Int)) (r : Nat → Nat) (p j : Nat) : List Int := (List.range j).map fun q => mf a r p q
def dfL (a : List (List Int)) (r : Nat → Nat) (k i : Nat) : List (List Int) := (List.range i).map fun p => dfR a r p k
theorem dfR_succ (a : List (List Int)) (r : Nat → Nat) (p j : Nat) : dfR a r p (j + 1) = dfR a r p j ++ [mf a r p j] := by simp [dfR, List.range_succ]
theorem dfL_succ (a : List (List Int)) (r : Nat → Nat) (k i : Nat) : dfL a r k (i + 1) = dfL a r k i ++ [dfR a r i k] := by simp [dfL, List.range_succ]
theorem dfR_len (a : List (List Int)) (r : Nat → Nat) (p j : Nat) : (dfR a r p j).length = j := by simp [dfR]
theorem dfL_len (a : List (List Int)) (r : Nat → Nat) (k i : Nat) : (dfL a r k i).length = i := by simp [dfL]
theorem dfL_sq (a : List (List Int)) (r : Nat → Nat) (k : Nat) : Sq k (dfL a r k k) (mf a r) :=
  ⟨dfL_len _ _ _ _, fun p hp => by rw [gr_get (by rw [dfL_len]; exact hp)]; simp [dfL, dfR], fun p q hp hq => by
    unfold g2; rw [gr_get (by rw [dfL_len]; exact hp), gi_get (by simp [dfL, dfR]; exact hq)]; simp [dfL, dfR]⟩
theorem dfR_zero {a : List (List Int)} {r : Nat → Nat} {p j : Nat} (h : p = 0) : dfR a r p (j + 1) = dfR a r p j ++ [1] := by subst h; exact dfR_succ _ _ _ _
theorem dfR_next {a : List (List Int)} {r : Nat → Nat} {p j : Nat} (h : p ≠ 0) : dfR a r p (j + 1) = dfR a r p j ++ [g2 a (r p) (r j) - g2 a (r 0) (r j)] := by
  rw [dfR_succ, mf, if_neg h]
theorem mf_odd {a : List (List Int)} {r : Nat → Nat} {k c : Nat} (hk : k ≤ 3) (hc : c < k) (h : c % 2 = 1) : gi (kY a r r k) c = -(detN (k - 1) (minorN (mf a r) 0 c)) := by
  rw [← mf_cof hk hc, cofN_odd (by omega)]
theorem mf_even {a : List (List Int)} {r : Nat → Nat} {k c : Nat} (hk : k ≤ 3) (hc : c < k) (h : ¬ c % 2 = 1) : gi (kY a r r k) c = detN (k - 1) (minorN (mf a r) 0 c) := by
  rw [← mf_cof hk hc, cofN_even (by omega)]

end Go.Proofs.Ytnonbefeomnbpaa

/- Best shares by a part of a table, by the model. -/
namespace Go.Proofs.Ytnonbefeomnbpaa
open Go.RowKit
open V (sumN detN rowC colC cofN minorN skip sgn Asc Kern)

/-- Shares by a part, and that they are best; or that there are none. -/
def NewK (w : World) (a : List (List Int)) (k : Nat) (r s : Nat → Nat) (e : Ending) (w' : World) : Prop :=
  (KerP a k r s ∧ ∃ A1 c1 A2 c2, e = .returned (.tuple #[.slice A1 a.length c1, .slice A2 (gr a 0).length c2, .bool true]) ∧ Ints w' A1 a.length c1 (shr a.length r (kX a r s k) k) ∧
    Ints w' A2 (gr a 0).length c2 (shr (gr a 0).length s (kY a r s k) k) ∧ Below w.heap.size w w') ∨
  (¬ KerP a k r s ∧ ∃ v1 v2, e = .returned (.tuple #[v1, v2, .bool false]) ∧ Below w.heap.size w w')
theorem flip_tr {xss : List (List Int)} {k : Nat} {f : Nat → Nat → Int} (h : Sq k xss f) : Sq k (flip xss k k) (trN f) :=
  ⟨flip_len _ _ _, fun p hp => by rw [gr_flip hp]; simp, fun p q hp hq => by
    unfold g2; rw [gr_flip hp, gi_col hq]; exact h.eq q p hq hp⟩
theorem Pl.keep {w w' : World} {X k c r n} (h : Pl w X k c r n) (q : Keep w w') : Pl w' X k c r n := ⟨h.ints.keep q, h.lt⟩

/-- What cleared answers, with its flag as a letter. -/
def ClrV (w' : World) (xs : List Int) (ok : Bool) (v : Value) : Prop :=
  (ok = true ∧ ClrP xs ∧ ∃ A c, v = .slice A xs.length c ∧ Ints w' A xs.length c (clrL xs (gcdL xs xs.length) xs.length)) ∨ (ok = false ∧ ¬ ClrP xs)
theorem NewC.uni {w w' : World} {xs : List Int} {e : Ending} (h : NewC w xs e w') : ∃ ok v, e = .returned (.tuple #[v, .bool ok]) ∧ Below w.heap.size w w' ∧ ClrV w' xs ok v := by
  rcases h with ⟨h1, A, n, c, g, rfl, rfl, ho, hb⟩ | ⟨h1, rfl, hb⟩
  · exact ⟨true, _, rfl, hb, .inl ⟨rfl, h1, A, c, rfl, ho.ints⟩⟩
  · exact ⟨false, _, rfl, hb, .inr ⟨rfl, h1⟩⟩
theorem ClrV.keep {w' w2 : World} {xs : List Int} {ok : Bool} {v : Value} (h : ClrV w' xs ok v) (k : Keep w' w2) : ClrV w2 xs ok v := by
  rcases h with ⟨h1, h2, A, c, h3, h4⟩ | h
  · exact .inl ⟨h1, h2, A, c, h3, h4.keep k⟩
  · exact .inr h
theorem mid_of {x : Int} (h : -648 ≤ x ∧ x ≤ 648) : Mid x := by unfold Mid; omega

end Go.Proofs.Ytnonbefeomnbpaa

/- The value's shares, by the model. -/
namespace Go.Proofs.Ytnonbefeomnbpaa
open Go.RowKit
open V (Asc)

/-- The best shares of a table. -/
def NewV (w : World) (a : List (List Int)) (e : Ending) (w' : World) : Prop :=
  ∃ A1 c1 A2 c2, e = .returned (.tuple #[.slice A1 a.length c1, .slice A2 (gr a 0).length c2]) ∧ Ints w' A1 a.length c1 (bx a) ∧ Ints w' A2 (gr a 0).length c2 (by_ a) ∧ Below w.heap.size w w'
theorem NewK.no {w w' : World} {a : List (List Int)} {k : Nat} {r s : Nat → Nat} {e : Ending} (h : NewK w a k r s e w') (hn : ¬ KerP a k r s) : ∃ v1 v2, e = .returned (.tuple #[v1, v2, .bool false]) ∧ Below w.heap.size w w' := by
  rcases h with ⟨h1, _⟩ | ⟨_, h⟩
  · exact absurd h1 hn
  · exact h
theorem NewK.yes {w w' : World} {a : List (List Int)} {k : Nat} {r s : Nat → Nat} {e : Ending} (h : NewK w a k r s e w') (hn : KerP a k r s) :
    ∃ A1 c1 A2 c2, e = .returned (.tuple #[.slice A1 a.length c1, .slice A2 (gr a 0).length c2, .bool true]) ∧ Ints w' A1 a.length c1 (shr a.length r (kX a r s k) k) ∧
      Ints w' A2 (gr a 0).length c2 (shr (gr a 0).length s (kY a r s k) k) ∧ Below w.heap.size w w' := by
  rcases h with ⟨_, h⟩ | ⟨h1, _⟩
  · exact h
  · exact absurd hn h1
theorem memL_pl {w : World} {A : Option Addr} {n c S m : Nat} (h : Ints w A n c (memL S m)) (e : n = (memL S m).length) : Pl w A n c (idx S m) m := by
  subst e
  exact ⟨by rw [← memL_idx]; exact h, (idx_asc S m).1⟩

end Go.Proofs.Ytnonbefeomnbpaa

/- The rests of a table, by the model. -/
namespace Go.Proofs.Ytnonbefeomnbpaa
open Go.RowKit
open V (sumN detN rowC colC cofN minorN skip sgn Asc)

theorem shl_val' {n : Nat} (h : n ≤ 3) : ∃ P : Nat, wrap64 ((2 : Int) ^ n) = (P : Int) ∧ P = 2 ^ n := by
  refine ⟨2 ^ n, ?_, rfl⟩
  have : n = 0 ∨ n = 1 ∨ n = 2 ∨ n = 3 := by omega
  rcases this with rfl | rfl | rfl | rfl <;> (unfold wrap64; decide)
theorem NewT.from {w w1 w2 : World} {xss : List (List Int)} {e : Ending} (h : Below w.heap.size w w1) (k : NewT w1 xss e w2) : NewT w xss e w2 := by
  obtain ⟨A, n, c, g, e1, e2, ho, hb⟩ := k
  exact ⟨A, n, c, g, e1, e2, ho.mono h.size (Nat.le_refl _), below_up h hb⟩
theorem TM.new {wb vs xss w} {A : Option Addr} {n c : Nat} (h : TM wb (.slice A n c) vs xss w) (hm : xss.length ≤ 100) : NewT wb xss (.returned (.slice A n c)) w := by
  obtain ⟨A', n', c', gg, e, hn', hown⟩ := h.bo.owns (by omega)
  injection e with e1 e2 e3
  subst e1
  subst e2
  subst e3
  exact ⟨_, _, _, gg, rfl, hn', hown, h.up⟩
theorem NewT.none {w w' : World} {xss : List (List Int)} (h : Below w.heap.size w w') (hx : xss = []) : NewT w xss (.returned (.slice none 0 0)) w' := by
  subst hx
  exact ⟨_, _, _, 0, rfl, rfl, OwnR.nil _ _ _ _, h⟩
theorem resF_yes {a : List (List Int)} (h : VQ a) : resF a = resR a 8 := by unfold resF; rw [if_pos (pb_true h)]
theorem resF_no {a : List (List Int)} (h : ¬ VQ a) : resF a = [] := by unfold resF; rw [if_neg (by rw [pb_false h]; decide)]

end Go.Proofs.Ytnonbefeomnbpaa

/- A number below another one, by the program. -/
namespace Go.Proofs.Ytnonbefeomnbpaa
open Go.RowKit

def Blw (n x : Int) : Prop := 0 ≤ x ∧ x < n
theorem isBelow_any (n x : Int) (w : World) : Calls Try.prog 60 #[.int .i64 n, .int .i64 x] w fun e w' => e = .returned (.bool (pb (Blw n x))) ∧ w = w' := by
  by_cases h1 : 0 ≤ x
  · by_cases h2 : x < n
    · have h := Lib.hid (pb_true (p := Blw n x) ⟨h1, h2⟩)
      have h2' : decide (x < n) = true := by simpa using h2
      go_enter Try.func60, Try.ntmps60
      go_wp2
      go_ret
      exact ⟨ret_bool (by rw [h.out]), rfl⟩
    · have h := Lib.hid (pb_false (p := Blw n x) (fun h => h2 h.2))
      have h2' : decide (x < n) = false := by simpa using h2
      go_enter Try.func60, Try.ntmps60
      go_wp2
      go_ret
      exact ⟨ret_bool (by rw [h.out]), rfl⟩
  · have h := Lib.hid (pb_false (p := Blw n x) (fun h => h1 h.1))
    go_enter Try.func60, Try.ntmps60
    go_wp2
    go_ret
    exact ⟨ret_bool (by rw [h.out]), rfl⟩
end Go.Proofs.Ytnonbefeomnbpaa

/- Best replies, by the program. -/
namespace Go.Proofs.Ytnonbefeomnbpaa
open Go.RowKit

theorem Try.info_row9 : (Try.prog.info? 34).map (fun i => (i.zero, i.size, i.bytes)) = some (some (.slice none 0 0), 1, 24) := by kernel_rfl
/-- Where a number stands. -/
def atB (x : Int) (xs : List Int) : Nat → Bool := fun k => decide (gi xs k = x)
/-- The best replies, when one plays an act now. -/
def brF (pays : List Int) (now : Nat) : List Int := if gi pays now = mxl pays then [] else selL (atB (mxl pays) pays) pays.length
theorem brF_len (pays : List Int) (now : Nat) : (brF pays now).length ≤ pays.length := by
  unfold brF; split
  · simp
  · exact selL_len _ _
theorem brF_mem {pays : List Int} {now : Nat} {y : Int} : y ∈ brF pays now ↔ gi pays now ≠ mxl pays ∧ ∃ k : Nat, k < pays.length ∧ gi pays k = mxl pays ∧ y = k := by
  unfold brF; split
  · rename_i h; simp [h]
  · rename_i h; rw [selL_mem]; simp [atB, h]
def colOf (xs : List (List Int)) (n j : Nat) : List Int := (List.range n).map fun i => g2 xs i j
theorem colOf_len (xs : List (List Int)) (n j : Nat) : (colOf xs n j).length = n := by simp [colOf]
theorem gi_colOf {xs : List (List Int)} {n i j : Nat} (h : i < n) : gi (colOf xs n j) i = g2 xs i j := gi_col h
theorem flip_colOf {xs : List (List Int)} {n m j : Nat} (h : j < m) : gr (flip xs n m) j = colOf xs n j := gr_flip h
def mvA (j : Nat) (l : List Int) : List (List Int) := l.map fun r => [r, (j : Int)]
def mvB (i : Nat) (l : List Int) : List (List Int) := l.map fun c => [(i : Int), c]
theorem mvA_len (j : Nat) (l : List Int) : (mvA j l).length = l.length := by simp [mvA]
theorem mvB_len (j : Nat) (l : List Int) : (mvB j l).length = l.length := by simp [mvB]
theorem mvA_step (j : Nat) {l : List Int} {k : Nat} (h : k < l.length) : mvA j (l.take (k + 1)) = mvA j (l.take k) ++ [[gi l k, (j : Int)]] := by
  rw [mvA, mvA, List.take_add_one, List.map_append, List.getElem?_eq_getElem h, gi_get h]; rfl
theorem mvB_step (j : Nat) {l : List Int} {k : Nat} (h : k < l.length) : mvB j (l.take (k + 1)) = mvB j (l.take k) ++ [[(j : Int), gi l k]] := by
  rw [mvB, mvB, List.take_add_one, List.map_append, List.getElem?_eq_getElem h, gi_get h]; rfl
/-- The pairs to which a pair leads. -/
def repL (xs ys : List (List Int)) (n i j : Nat) : List (List Int) := mvA j (brF (colOf xs n j) i) ++ mvB i (brF (gr ys i) j)
noncomputable def repF (xs ys : List (List Int)) (i j : Int) : List (List Int) := if (pb (VG xs ys) && pb (Blw xs.length i) && pb (Blw (gr xs 0).length j)) = true then repL xs ys xs.length i.toNat j.toNat else []

set_option maxRecDepth 100000 in
set_option maxHeartbeats 3200000 in
theorem indexesOf_any (x : Int) (A : Option Addr) (n c : Nat) (xs : List Int) (w : World) (hx : Ints w A n c xs) (hn : n ≤ 100) :
    Calls Try.prog 81 #[.int .i64 x, .slice A n c] w (NewI w (selL (atB x xs) n)) := by
  have HX := Lib.hid hx
  clear hx
  have HS0 := Lib.hid (IU.nil w)
  go_enter Try.func81, Try.ntmps81
  go_wp2
  go_loopw [5, 10] (fun v i wr => ∃ k : Nat, k ≤ n ∧ i = .int .i64 k ∧ Hid (IU w v (selL (atB x xs) k) wr)) (fun _ i _ => n - (intOf i).toNat)
  case atStart => exact ⟨0, by omega, rfl, HS0⟩
  case round =>
    clear HS0
    obtain ⟨k, hk, rfl, HI⟩ := hrel
    obtain ⟨Av, cv, rfl⟩ := HI.out.bi.form
    by_cases hlt : k < n
    · obtain ⟨b, o, rfl, hc⟩ := (HX.out.keep (Keep.below HI.out.up)).at_ (by omega)
      have c1 := hc k hlt
      clear hc
      by_cases hm : gi xs k = x
      · have hm' : (gi xs k == x) = true := by simp [hm]
        have HCS := Lib.hid (selL_yes (f := atB x xs) (k := k) (by simp [atB, hm]))
        clear hm
        have HML := Lib.hid (selL_len (atB x xs) k)
        have hb := below_alloc wr (.cells #[iv (k : Int)] 3)
        have HB4 := Lib.hid (HI.out.bi.below hb).own
        have HN := Lib.hid (cell_one_new wr (iv (k : Int)) 3)
        have hwz := HI.out.up.size
        clear hb
        generalize selL (atB x xs) k = ys at *
        obtain ⟨i0, hi0, hz0, hz1, hz2⟩ := info_parts Try.info_int
        go_wp2_with (at_builtin; refine wpList_append_own_at _ rfl _ _ 34 rfl w.heap.size 3 i0 (.int .i64 0) 1 8 Try.underlying34 hi0 hz0 hz1 hz2 rfl (by decide) _ ys.length (ys.map iv) rfl HB4.out ⟨wr.heap.size, 0, none⟩ 1 1 [iv (k : Int)] rfl rfl ?c1 ?c2 ?c3 ?c4 ?c5 ?_)
        case c1 => exact HN.out
        case c2 => intro u hu; simp at hu; subst hu; rfl
        case c3 => have := HML.out; unfold maxLen; omega
        case c4 => have := HML.out; omega
        case c5 => simp; omega
        intro v' w5 hown' hgrow _ hat
        have HI5 := Lib.hid (HI.out.push hown' hgrow (by simpa using hat))
        clear HB4 HN hown' hgrow hat HI c1
        go_wp2
        go_roundw
        case rel => exact ⟨k + 1, by omega, by go_num, Lib.hid (by rw [HCS.out]; exact HI5.out)⟩
        case measure => simp [intOf]; omega
      · have hm' : (gi xs k == x) = false := by simp [hm]
        have HCS := Lib.hid (selL_no (f := atB x xs) (k := k) (by simp [atB, hm]))
        clear hm
        go_wp2
        go_roundw
        case rel => exact ⟨k + 1, by omega, by go_num, Lib.hid (by rw [HCS.out]; exact HI.out)⟩
        case measure => simp [intOf]; omega
    · obtain rfl : k = n := by omega
      have HNW := Lib.hid (HI.out.new (by have := selL_len (atB x xs) k; omega) (selL_small _ k hn))
      go_wp2
      go_ret
      exact HNW.out
set_option maxRecDepth 100000 in
set_option maxHeartbeats 1600000 in
theorem bestReplies_any (A : Option Addr) (n c : Nat) (xs : List Int) (now : Nat) (w : World) (hx : Ints w A n c xs) (hn : n ≤ 100) (h0 : now < n) :
    Calls Try.prog 61 #[.slice A n c, .int .i64 now] w (NewI w (brF xs now)) := by
  have HC := Lib.hid (Max_any A n c xs w hx (by omega))
  have HX := Lib.hid hx
  have hl := hx.len
  clear hx
  by_cases hm : gi xs now = mxl xs
  · have hm' : (gi xs now == mxl xs) = true := by simp [hm]
    have HE := Lib.hid (show brF xs now = [] by rw [brF, if_pos hm])
    clear hm hl
    go_enter Try.func61, Try.ntmps61
    go_wp2_with fail
    refine HC.out.mono ?_
    rintro e w1 ⟨rfl, hq⟩
    obtain ⟨b, o, rfl, hc⟩ := (HX.out.keep (Keep.quiet hq)).at_ (by omega)
    have c1 := hc now h0
    have HQ := Lib.hid (Quiet.below (B := w.heap.size) hq)
    clear hc hq HC
    go_wp2
    go_ret
    exact NewI.empty HQ.out HE.out
  · have hm' : (gi xs now == mxl xs) = false := by simp [hm]
    have HE := Lib.hid (show selL (atB (mxl xs) xs) n = brF xs now by rw [brF, if_neg hm, hl])
    clear hm hl
    go_enter Try.func61, Try.ntmps61
    go_wp2_with fail
    refine HC.out.mono ?_
    rintro e w1 ⟨rfl, hq⟩
    have HX1 := Lib.hid (HX.out.keep (Keep.quiet hq))
    have HQ := Lib.hid (Quiet.below (B := w.heap.size) hq)
    obtain ⟨b, o, rfl, hc⟩ := (HX.out.keep (Keep.quiet hq)).at_ (by omega)
    have c1 := hc now h0
    clear hc hq HC HX
    go_wp2_with fail
    refine (HE.out ▸ indexesOf_any _ _ _ _ xs _ HX1.out hn).mono ?_
    rintro e w2 hN
    have HN := Lib.hid (NewI.from HQ.out hN)
    obtain ⟨Av, k, cv, gg, rfl, -⟩ := hN
    clear HQ HX1 c1
    go_wp2
    go_ret
    exact HN.out
theorem NewT.is {w w' : World} {a b : List (List Int)} {e : Ending} (h : a = b) (k : NewT w a e w') : NewT w b e w' := h ▸ k
/-- Rows under way, and a list of ints that is read beside them. -/
structure RS (wb : World) (lo hi : Nat) (v : Value) (vs : List Value) (acc : List (List Int)) (gg : Nat) (A : Option Addr) (n c : Nat) (ls : List Int) (wr : World) : Prop where
  tm : TM wb v vs acc wr
  li : OwnI lo hi wr gg A n c ls
  hi_ : hi ≤ wr.heap.size
  far : ∀ k, v.ownBlock = some k → k < lo ∨ hi ≤ k
theorem RS.start {wb w1 w2 : World} {v : Value} {vs : List Value} {acc : List (List Int)} {gg : Nat} {A : Option Addr} {n c : Nat} {ls : List Int} (h : TM wb v vs acc w1) (ho : OwnI w1.heap.size w2.heap.size w2 gg A n c ls) (hb : Below w1.heap.size w1 w2) :
    RS wb w1.heap.size w2.heap.size v vs acc gg A n c ls w2 :=
  ⟨h.next hb, ho, Nat.le_refl _, fun k hk => .inl (h.bo.hi_ k hk)⟩
theorem RS.push {wb wr w6 : World} {lo hi : Nat} {v v' : Value} {vs : List Value} {acc : List (List Int)} {gg n c : Nat} {A : Option Addr} {ls : List Int} {x y : Int} (h : RS wb lo hi v vs acc gg A n c ls wr)
    (hr : OwnI wr.heap.size (wr.heap.size + 1) (wr.alloc (.cells #[.int .i64 x, .int .i64 y] 3)) wr.heap.size (some ⟨wr.heap.size, 0, none⟩) 2 2 [x, y])
    (hown : w6.ownsRow wb.heap.size 34 1 v' (acc.length + 1) (vs ++ [.slice (some ⟨wr.heap.size, 0, none⟩) 2 2]))
    (hgrow : ((wr.alloc (.cells #[.int .i64 x, .int .i64 y] 3)).alloc (.cells #[.slice (some ⟨wr.heap.size, 0, none⟩) 2 2] 34)).grownBy w6 v.ownBlock)
    (hat : v'.ownBlock = v.ownBlock ∨ v'.ownBlock = some ((wr.alloc (.cells #[.int .i64 x, .int .i64 y] 3)).heap.size + 1)) :
    RS wb lo hi v' (vs ++ [.slice (some ⟨wr.heap.size, 0, none⟩) 2 2]) (acc ++ [[x, y]]) gg A n c ls w6 := by
  have h1 := h.hi_
  have hk := below_alloc wr (.cells #[.int .i64 x, .int .i64 y] 3)
  have h3 := hgrow.size
  simp only [World.size_alloc] at h3
  refine ⟨h.tm.push (r := [x, y]) hk (hr.mono (Nat.le_refl _) (by simp)) hown hgrow hat, h.li.of_block fun hn => ?_, by omega, fun k hk => ?_⟩
  · obtain ⟨o, e, hl, hh, _⟩ := h.li.own hn
    refine (hgrow.block gg (by simp; omega) (fun e => ?_)).trans ((Below.heap_alloc _ _ _ (by simp; omega)).trans (hk.block gg (by omega)))
    have := h.far gg e.symm
    omega
  · rcases hat with hat | hat
    · exact h.far k (by rw [← hat]; exact hk)
    · rw [hat] at hk; injection hk with hk; simp at hk; omega

set_option maxRecDepth 100000 in
set_option maxHeartbeats 6400000 in
theorem ReplyMoves_impl (A B : Option Addr) (n c m d : Nat) (xs ys : List (List Int)) (i j : Int) (w : World) (hx : IntRows w A n c xs) (hy : IntRows w B m d ys) (hi : Fit i) (hj : Fit j) :
    Calls Try.prog 27 #[.agg #[.slice A n c, .slice B m d], .int .i64 i, .int .i64 j] w (NewT w (repF xs ys i j)) := by
  have hb0 := below_alloc w (.cells #[.slice A n c, .slice B m d] 29)
  have b0 := blk_new w 29 #[.slice A n c, .slice B m d]
  have HB := Lib.hid hb0
  have HK := Lib.hid b0
  have HX := Lib.hid (hx.keep (Keep.below hb0))
  have HY := Lib.hid (hy.keep (Keep.below hb0))
  have HX0 := Lib.hid hx
  have HY0 := Lib.hid hy
  have HFI := Lib.hid hi
  have HFJ := Lib.hid hj
  clear hx hy hb0 b0 hi hj
  go_enter Try.func27, Try.ntmps27
  go_wp2_with fail
  generalize w.alloc (.cells #[.slice A n c, .slice B m d] 29) = W1 at *
  have HC := Lib.hid (ValidGame_impl _ _ _ _ _ _ _ _ _ HX.out HY.out)
  by_cases hv : VG xs ys
  · refine ((pb_true hv) ▸ HC.out).mono ?_
    rintro e w1 ⟨rfl, hb⟩
    have hb2 := below_up HB.out hb
    have hk2 := blk_below HK.out hb
    obtain ⟨p, rfl, rfl, rfl, rfl, rfl, rfl, hg⟩ := GV.of HX0.out HY0.out hv
    have HT := Lib.hid (show GT p w w1 w.heap.size xs ys from ⟨hb2, hk2, hg⟩)
    have hn3 := hg.tx.n3
    have hm3 := hg.tx.m3
    have hn1 := hg.tx.n1
    have hm1 := hg.tx.m1
    have HP := Lib.hid (show repF xs ys i j = if (pb (Blw p.n i) && pb (Blw p.m j)) = true then repL xs ys p.n i.toNat j.toNat else [] by rw [repF, pb_true hv, hg.lx, hg.mx, Bool.true_and])
    have HLY := Lib.hid (show ∀ i, i < p.n → (gr ys i).length = p.m from fun i hi => (hg.ty.ints i hi).len)
    clear hb hv hb2 hk2 hg HX HY HX0 HY0 HB HK HC
    have k0 := HT.out.c0
    have r0 := HT.out.gv.tx.row 0 hn1
    simp only [Nat.add_zero] at r0
    by_cases hi : Blw p.n i
    · by_cases hj : Blw p.m j
      · have QI := Lib.hid (fun W => pb_true hi ▸ isBelow_any (p.n : Int) i W)
        have QJ := Lib.hid (fun W => pb_true hj ▸ isBelow_any (p.m : Int) j W)
        rw [pb_true hi, pb_true hj, Bool.and_self, if_pos rfl] at HP
        unfold Blw at hi hj
        obtain ⟨x, rfl⟩ : ∃ x : Nat, i = x := ⟨i.toNat, by omega⟩
        obtain ⟨y, rfl⟩ : ∃ y : Nat, j = y := ⟨j.toNat, by omega⟩
        have hxn : x < p.n := by omega
        have hym : y < p.m := by omega
        simp only [Int.toNat_natCast] at HP
        clear hi hj HFI HFJ
        go_wp2_with fail
        refine (QI.out _).mono ?_
        rintro e w2 ⟨rfl, rfl⟩
        go_wp2_with fail
        refine (QJ.out _).mono ?_
        rintro e w2 ⟨rfl, rfl⟩
        clear QI QJ
        go_wp2_with fail
        refine (turned_any _ _ _ _ _ _ _ _ _ _ HT.out.gv.tx).mono ?_
        rintro e w2 ⟨rfl, ho, hb, hlt⟩
        have HT2 := Lib.hid (HT.out.up hb)
        obtain ⟨R, cc, t1, tI⟩ := ho.row0 hym
        rw [flip_colOf hym, colOf_len] at t1 tI
        have HBR := Lib.hid (bestReplies_any _ _ _ _ x _ tI (by omega) hxn)
        have HTM := Lib.hid (TM.mk (wb := w2) (v := .slice none 0 0) (vs := []) (xss := []) (Bld.nil _ _ _) (Below.refl _ _))
        clear ho hb hlt HT k0 r0 tI
        generalize hw1 : w1.heap.size = N at *
        clear hw1
        go_wp2_with fail
        refine HBR.out.mono ?_
        rintro e w3 ⟨Al, nl, cl, gl, rfl, rfl, ho, hb⟩
        have HR := Lib.hid (RS.start HTM.out ho hb)
        have HLL := Lib.hid (show (brF (colOf xs p.n y) x).length ≤ 3 by have := brF_len (colOf xs p.n y) x; rw [colOf_len] at this; omega)
        have HMEM := Lib.hid (show ∀ z ∈ brF (colOf xs p.n y) x, -1000 ≤ z ∧ z ≤ 1000 from fun z hz => by
          obtain ⟨_, k, hk, _, rfl⟩ := brF_mem.1 hz
          rw [colOf_len] at hk; omega)
        clear HBR ho hb HTM t1
        have hl3 := HLL.out
        generalize hls : brF (colOf xs p.n y) x = ls at *
        have HLS := Lib.hid hls
        clear hls
        generalize hlo : w2.heap.size = lo at *
        have HLO := Lib.hid hlo
        clear hlo
        generalize w3.heap.size = hi at *
        go_wp2
        go_loopw [7, 42] (fun v s wr => ∃ (k : Nat) (vs : List Value), k ≤ ls.length ∧ s = .int .i64 k ∧ Hid (RS w2 lo hi v vs (mvA y (ls.take k)) gl Al ls.length cl ls wr)) (fun _ s _ => ls.length - (intOf s).toNat)
        case atStart => exact ⟨0, [], Nat.zero_le _, rfl, HR⟩
        case round =>
          clear HR
          obtain ⟨k, vs, hk, rfl, HR⟩ := hrel
          obtain ⟨Av, cv, rfl⟩ := HR.out.tm.bo.form
          by_cases hkl : k < ls.length
          · obtain ⟨bl, ol, rfl, hcl⟩ := HR.out.li.ints.at_ (by omega)
            have c1 := hcl k hkl
            have HMS := Lib.hid (mvA_step y hkl)
            have HGB := Lib.hid (HMEM.out _ (gi_mem hkl))
            have HLA := Lib.hid (show (mvA y (ls.take k)).length ≤ 3 by rw [mvA_len, List.length_take]; have := HLL.out; omega)
            clear hcl
            have HRT := Lib.hid HR.out.tm
            generalize gi ls k = z at *
            generalize mvA y (ls.take k) = acc at *
            have hb3 := below_alloc wr (.cells #[.int .i64 z, .int .i64 y] 3)
            have hb4 := below_alloc (wr.alloc (.cells #[.int .i64 z, .int .i64 y] 3)) (.cells #[.slice (some ⟨wr.heap.size, 0, none⟩) 2 2] 34)
            have HB4 := Lib.hid ((HRT.out.bo.below hb3).below hb4).own
            have HN := Lib.hid (cell_one_new (wr.alloc (.cells #[.int .i64 z, .int .i64 y] 3)) (.slice (some ⟨wr.heap.size, 0, none⟩) 2 2) 34)
            have HPO := Lib.hid (pair_own (lo := wr.heap.size) (w := wr) z y (by have := HGB.out; omega) (by omega) (Nat.le_refl _))
            have hlh : w2.heap.size ≤ wr.heap.size := HRT.out.up.size
            clear hb3 hb4
            obtain ⟨i0, hi0, hz0, hz1, hz2⟩ := info_parts Try.info_row9
            go_wp2_with (at_builtin; refine wpList_append_own_at _ rfl _ _ 23 rfl w2.heap.size 34 i0 (.slice none 0 0) 1 24 Try.underlying23 hi0 hz0 hz1 hz2 rfl (by decide) _ (acc).length vs rfl HB4.out ⟨wr.heap.size + 1, 0, none⟩ 1 1 [.slice (some ⟨wr.heap.size, 0, none⟩) 2 2] rfl rfl ?c1 ?c2 ?c3 ?c4 ?c5 ?_)
            case c1 => have h := HN.out; rw [World.size_alloc] at h; exact h
            case c2 => intro u hu; simp at hu; subst hu; rfl
            case c3 => have := HLA.out; unfold maxLen; omega
            case c4 => have := HLA.out; omega
            case c5 => simp; omega
            intro v' w5 hown' hgrow _ hat
            have hgrow2 : ((wr.alloc (.cells #[.int .i64 z, .int .i64 y] 3)).alloc (.cells #[.slice (some ⟨wr.heap.size, 0, none⟩) 2 2] 34)).grownBy w5 (Value.slice Av (acc).length cv).ownBlock := hgrow
            have hat2 : v'.ownBlock = (Value.slice Av (acc).length cv).ownBlock ∨ v'.ownBlock = some ((wr.alloc (.cells #[.int .i64 z, .int .i64 y] 3)).heap.size + 1) := by simpa using hat
            have HR5 := Lib.hid (HR.out.push HPO.out hown' hgrow2 hat2)
            clear HB4 HN HPO hown' hgrow hat hgrow2 hat2 HLA
            clear HR HRT c1
            go_wp2
            go_roundw
            case rel => exact ⟨k + 1, _, by omega, by go_num, Lib.hid (by rw [HMS.out]; exact HR5.out)⟩
            case measure => simp [intOf]; omega
          · obtain rfl : k = ls.length := by omega
            have HTM := Lib.hid HR.out.tm
            have HT3 := Lib.hid (HT2.out.up HTM.out.up)
            have HA1 := Lib.hid (show (mvA y (ls.take ls.length)).length ≤ 3 by rw [mvA_len, List.take_length]; exact HLL.out)
            have k1 := HT3.out.c1
            have r1 := HT3.out.gv.ty.row x hxn
            have HIY := Lib.hid (HT3.out.gv.ty.ints x hxn)
            have HBR := Lib.hid (bestReplies_any _ _ _ _ y _ HIY.out (by omega) hym)
            clear HR HIY
            go_wp2_with fail
            refine HBR.out.mono ?_
            rintro e w4 ⟨Am, nm, cm, gm, rfl, rfl, ho, hb⟩
            have HR := Lib.hid (RS.start HTM.out ho hb)
            have HLM := Lib.hid (show (brF (gr ys x) y).length ≤ 3 by have := brF_len (gr ys x) y; rw [HLY.out x hxn] at this; omega)
            have HMEM2 := Lib.hid (show ∀ z ∈ brF (gr ys x) y, -1000 ≤ z ∧ z ≤ 1000 from fun z hz => by
              obtain ⟨_, k, hk, _, rfl⟩ := brF_mem.1 hz
              rw [HLY.out x hxn] at hk; omega)
            clear HBR ho hb HTM r1 k1
            have hm3' := HLM.out
            generalize hms : brF (gr ys x) y = ms at *
            have HMSS := Lib.hid hms
            clear hms
            obtain ⟨wA, hwA⟩ : ∃ wA, wA = wr := ⟨_, rfl⟩
            subst hwA
            generalize hac0 : mvA y (ls.take ls.length) = ac0 at *
            have HAC0 := Lib.hid hac0
            clear hac0
            generalize wA.heap.size = lo2 at *
            generalize w4.heap.size = hi2 at *
            go_wp2
            go_loopw [7, 61] (fun v s wr => ∃ (k : Nat) (vs : List Value), k ≤ ms.length ∧ s = .int .i64 k ∧ Hid (RS w2 lo2 hi2 v vs (ac0 ++ mvB x (ms.take k)) gm Am ms.length cm ms wr)) (fun _ s _ => ms.length - (intOf s).toNat)
            case atStart => exact ⟨0, vs, Nat.zero_le _, rfl, Lib.hid (by simpa [mvB] using HR.out)⟩
            case round =>
              clear HR vs
              obtain ⟨k, vs, hk, rfl, HR⟩ := hrel
              obtain ⟨Av, cv, rfl⟩ := HR.out.tm.bo.form
              by_cases hkm : k < ms.length
              · obtain ⟨bl, ol, rfl, hcl⟩ := HR.out.li.ints.at_ (by omega)
                have c1 := hcl k hkm
                have HMS := Lib.hid (mvB_step x hkm)
                have HGB := Lib.hid (HMEM2.out _ (gi_mem hkm))
                have HLA := Lib.hid (show (ac0 ++ mvB x (ms.take k)).length ≤ 6 by rw [List.length_append, mvB_len, List.length_take]; have := HA1.out; have := HLM.out; omega)
                clear hcl
                have HRT := Lib.hid HR.out.tm
                generalize gi ms k = z at *
                generalize hpart : mvB x (ms.take k) = part at *
                clear hpart
                generalize hacc : ac0 ++ part = acc at *
                have HACC := Lib.hid hacc
                clear hacc
                have hb3 := below_alloc wr (.cells #[.int .i64 x, .int .i64 z] 3)
                have hb4 := below_alloc (wr.alloc (.cells #[.int .i64 x, .int .i64 z] 3)) (.cells #[.slice (some ⟨wr.heap.size, 0, none⟩) 2 2] 34)
                have HB4 := Lib.hid ((HRT.out.bo.below hb3).below hb4).own
                have HN := Lib.hid (cell_one_new (wr.alloc (.cells #[.int .i64 x, .int .i64 z] 3)) (.slice (some ⟨wr.heap.size, 0, none⟩) 2 2) 34)
                have HPO := Lib.hid (pair_own (lo := wr.heap.size) (w := wr) x z (by omega) (by have := HGB.out; omega) (Nat.le_refl _))
                have hlh : w2.heap.size ≤ wr.heap.size := HRT.out.up.size
                clear hb3 hb4
                obtain ⟨i0, hi0, hz0, hz1, hz2⟩ := info_parts Try.info_row9
                go_wp2_with (at_builtin; refine wpList_append_own_at _ rfl _ _ 23 rfl w2.heap.size 34 i0 (.slice none 0 0) 1 24 Try.underlying23 hi0 hz0 hz1 hz2 rfl (by decide) _ (acc).length vs rfl HB4.out ⟨wr.heap.size + 1, 0, none⟩ 1 1 [.slice (some ⟨wr.heap.size, 0, none⟩) 2 2] rfl rfl ?c1 ?c2 ?c3 ?c4 ?c5 ?_)
                case c1 => have h := HN.out; rw [World.size_alloc] at h; exact h
                case c2 => intro u hu; simp at hu; subst hu; rfl
                case c3 => have := HLA.out; unfold maxLen; omega
                case c4 => have := HLA.out; omega
                case c5 => simp; omega
                intro v' w5 hown' hgrow _ hat
                have hgrow2 : ((wr.alloc (.cells #[.int .i64 x, .int .i64 z] 3)).alloc (.cells #[.slice (some ⟨wr.heap.size, 0, none⟩) 2 2] 34)).grownBy w5 (Value.slice Av (acc).length cv).ownBlock := hgrow
                have hat2 : v'.ownBlock = (Value.slice Av (acc).length cv).ownBlock ∨ v'.ownBlock = some ((wr.alloc (.cells #[.int .i64 x, .int .i64 z] 3)).heap.size + 1) := by simpa using hat
                have HR5 := Lib.hid (HR.out.push HPO.out hown' hgrow2 hat2)
                clear HB4 HN HPO hown' hgrow hat hgrow2 hat2 HLA
                clear HR HRT c1
                go_wp2
                go_roundw
                case rel => exact ⟨k + 1, _, by omega, by go_num, Lib.hid (by rw [HMS.out, ← List.append_assoc, HACC.out]; exact HR5.out)⟩
                case measure => simp [intOf]; omega
              · obtain rfl : k = ms.length := by omega
                have HE := Lib.hid (show ac0 ++ mvB x (ms.take ms.length) = repF xs ys x y by rw [HP.out, repL, HLS.out, HMSS.out, List.take_length, ← HAC0.out, List.take_length])
                have HNT := Lib.hid (NewT.from HT2.out.below (HR.out.tm.new (by rw [List.length_append, mvB_len, List.length_take]; have := HA1.out; have := HLM.out; omega)))
                clear HR
                go_wp2
                go_ret
                exact NewT.is HE.out HNT.out
      · have QI := Lib.hid (fun W => pb_true hi ▸ isBelow_any (p.n : Int) i W)
        have QJ := Lib.hid (fun W => pb_false hj ▸ isBelow_any (p.m : Int) j W)
        have HE := Lib.hid (show repF xs ys i j = [] by rw [HP.out, pb_false hj, Bool.and_false]; rfl)
        clear hi hj HP
        go_wp2_with fail
        refine (QI.out _).mono ?_
        rintro e w2 ⟨rfl, rfl⟩
        go_wp2_with fail
        refine (QJ.out _).mono ?_
        rintro e w2 ⟨rfl, rfl⟩
        go_wp2
        go_ret
        exact NewT.none HT.out.below HE.out
    · have QI := Lib.hid (fun W => pb_false hi ▸ isBelow_any (p.n : Int) i W)
      have HE := Lib.hid (show repF xs ys i j = [] by rw [HP.out, pb_false hi, Bool.false_and]; rfl)
      clear hi HP
      go_wp2_with fail
      refine (QI.out _).mono ?_
      rintro e w2 ⟨rfl, rfl⟩
      go_wp2
      go_ret
      exact NewT.none HT.out.below HE.out
  · have HZ := Lib.hid (show repF xs ys i j = [] by rw [repF, pb_false hv]; rfl)
    refine ((pb_false hv) ▸ HC.out).mono ?_
    rintro e w1 ⟨rfl, hb⟩
    have HB2 := Lib.hid (below_up HB.out hb)
    clear hb hv HC
    go_wp2
    go_ret
    exact NewT.none HB2.out HZ.out
end Go.Proofs.Ytnonbefeomnbpaa

/- Both players exchanged. -/
namespace Go.Proofs.Ytnonbefeomnbpaa
open Go.RowKit

theorem VG.flip2 {a b : List (List Int)} (v : VG a b) : VG (flip b b.length (gr b 0).length) (flip a a.length (gr a 0).length) := by
  have h1 := v.tb.m1
  have h2 := v.ta.m1
  exact ⟨v.tb.flip, v.ta.flip, by rw [flip_len, flip_len]; exact v.m.symm, by rw [gr_flip h1, gr_flip h2]; simp; exact v.n.symm⟩

theorem g2_flip {a : List (List Int)} {n m i j : Nat} (hi : i < m) (hj : j < n) : g2 (flip a n m) i j = g2 a j i := by
  unfold g2
  rw [gr_flip hi, gi_col hj]
  rfl
theorem NR.flip {a b : List (List Int)} (v : VG a b) : NR (flip b b.length (gr b 0).length) (flip a a.length (gr a 0).length) ↔ NR a b := by
  have h1 := v.tb.m1
  have h2 := v.ta.m1
  have hn := v.n
  have hm := v.m
  have hl : (Go.Proofs.Ytnonbefeomnbpaa.flip b b.length (gr b 0).length).length = (gr b 0).length := flip_len _ _ _
  have hl0 : (gr (Go.Proofs.Ytnonbefeomnbpaa.flip b b.length (gr b 0).length) 0).length = b.length := by rw [gr_flip h1]; simp
  have hr : ∀ i k j l, i < (gr a 0).length → k < (gr a 0).length → j < a.length → l < a.length →
      rnd (Go.Proofs.Ytnonbefeomnbpaa.flip b b.length (gr b 0).length) (Go.Proofs.Ytnonbefeomnbpaa.flip a a.length (gr a 0).length) i k j l = rnd a b j l k i := fun i k j l hi hk hj hl => by
    unfold rnd
    rw [g2_flip (a := b) (by omega) (by omega), g2_flip (a := b) (by omega) (by omega), g2_flip (a := a) hk hl, g2_flip (a := a) hk hj, g2_flip (a := b) (by omega) (by omega), g2_flip (a := b) (by omega) (by omega), g2_flip (a := a) hi hj, g2_flip (a := a) hi hl]
    omega
  constructor
  · intro h
    refine ⟨v, fun i k j l hi hk hj hl' => ?_⟩
    have := h.no l j i k (by rw [hl]; omega) (by rw [hl]; omega) (by rw [hl0]; omega) (by rw [hl0]; omega)
    rw [hr l j i k hl' hj hi hk] at this
    exact this
  · intro h
    refine ⟨v.flip2, fun i k j l hi hk hj hl' => ?_⟩
    rw [hl] at hi hk
    rw [hl0] at hj hl'
    rw [hr i k j l (by omega) (by omega) (by omega) (by omega)]
    exact h.no j l k i (by omega) (by omega) (by omega) (by omega)
theorem NR.one {a b : List (List Int)} (v : VG a b) (h : a.length ≤ 1 ∨ (gr a 0).length ≤ 1) : NR a b := by
  refine ⟨v, fun i k j l hi hk hj hl => ?_⟩
  rcases h with h | h
  · obtain rfl : i = k := by omega
    unfold rnd; omega
  · obtain rfl : j = l := by omega
    unfold rnd; omega

/-- .. with the first row of the first table. -/
def GX (w : World) (h : Nat) (A : Option Addr) (n c : Nat) (xs : List (List Int)) (B : Option Addr) (m d : Nat) (ys : List (List Int)) (ba oa : Nat) (v : Value) (W : World) : Prop :=
  GW w h A n c xs B m d ys W ∧ W.cell? ⟨ba, oa, none⟩ = some v
theorem GX.up {w h A n c xs B m d ys ba oa v W W'} (o : GX w h A n c xs B m d ys ba oa v W) (k : Below W.heap.size W W') : GX w h A n c xs B m d ys ba oa v W' := ⟨o.1.up k, Keep.below k _ _ o.2⟩
theorem GX.cells {w h A n c xs B m d ys ba oa v W} (o : GX w h A n c xs B m d ys ba oa v W) : (W.cell? ⟨h, 0, none⟩ = some (.slice A n c) ∧ W.cell? ⟨h, 1, none⟩ = some (.slice B m d)) ∧ W.cell? ⟨ba, oa, none⟩ = some v := ⟨o.1.cells, o.2⟩
end Go.Proofs.Ytnonbefeomnbpaa

/- Fractions of whole numbers; one alone is a share; the pure rests. Plain. -/
namespace Go.Proofs.Ytnonbefeomnbpaa

theorem fr_one (u : Int) : frU u 1 = u ∧ frD u 1 = 1 := by
  have g : gcdI u 1 = 1 := by unfold gcdI; simp
  unfold frU frD; rw [g]; simp
theorem frV_one (u : Int) : frV u 1 = .agg #[.int .i64 u, .int .i64 1] := by unfold frV; rw [(fr_one u).1, (fr_one u).2]
theorem onl_VS {n i : Nat} (hi : i < n) : VS (onl n i) n :=
  ⟨by rw [onl_len], fun j hj => by rw [onl_len] at hj; have := onl_bd (n := n) (i := i) hj; exact ⟨this.1, by omega⟩, by rw [tot_onl hi]; omega⟩
theorem rowRests_mem {a b : List (List Int)} {n m i : Nat} {r : List Int} : ∀ {j : Nat}, r ∈ rowRests a b n m i j ↔ ∃ l, l < j ∧ r = [(i : Int), (l : Int)] ∧ RestAt a b n m i l
  | 0 => by simp [rowRests]
  | j + 1 => by
    rw [rowRests, List.mem_append, rowRests_mem]
    constructor
    · rintro (⟨l, h1, h2⟩ | h)
      · exact ⟨l, by omega, h2⟩
      · split at h
        · rename_i hp
          simp only [List.mem_singleton] at h
          exact ⟨j, by omega, h, pb_iff.1 hp⟩
        · simp at h
    · rintro ⟨l, h1, h2, h3⟩
      by_cases e : l = j
      · subst e
        right
        rw [if_pos (pb_true h3), h2]; simp
      · exact .inl ⟨l, by omega, h2, h3⟩
theorem allRests_mem {a b : List (List Int)} {n m : Nat} {r : List Int} : ∀ {i : Nat}, r ∈ allRests a b n m i ↔ ∃ k l, k < i ∧ l < m ∧ r = [(k : Int), (l : Int)] ∧ RestAt a b n m k l
  | 0 => by simp [allRests]
  | i + 1 => by
    rw [allRests, List.mem_append, allRests_mem, rowRests_mem]
    constructor
    · rintro (⟨k, l, h1, h2⟩ | ⟨l, h2⟩)
      · exact ⟨k, l, by omega, h2⟩
      · exact ⟨i, l, by omega, h2⟩
    · rintro ⟨k, l, h1, h2⟩
      by_cases e : k = i
      · subst e; exact .inr ⟨l, h2⟩
      · exact .inl ⟨k, l, by omega, h2⟩
end Go.Proofs.Ytnonbefeomnbpaa

/- Rests are where replies are none; rests with both players exchanged. -/
namespace Go.Proofs.Ytnonbefeomnbpaa
open Go.RowKit

theorem brF_nil {pays : List Int} {now : Nat} (h : now < pays.length) : brF pays now = [] ↔ gi pays now = mxl pays := by
  constructor
  · intro e
    refine Classical.byContradiction fun hne => ?_
    obtain ⟨j, hj, e2⟩ := mx_at pays (pays.length - 1)
    have : (j : Int) ∈ brF pays now := brF_mem.2 ⟨hne, j, by omega, e2, rfl⟩
    rw [e] at this; simp at this
  · intro e; rw [brF, if_pos e]
theorem repL_nil {xs ys : List (List Int)} {n m i j : Nat} (hi : i < n) (hj : j < m) (hl : (gr ys i).length = m) : repL xs ys n i j = [] ↔ RestAt xs ys n m i j := by
  rw [RestAt_iff hi hj hl, repL, List.append_eq_nil_iff, flip_colOf hj]
  have e1 : mvA j (brF (colOf xs n j) i) = [] ↔ brF (colOf xs n j) i = [] := by simp [mvA]
  have e2 : mvB i (brF (gr ys i) j) = [] ↔ brF (gr ys i) j = [] := by simp [mvB]
  rw [e1, e2, brF_nil (by rw [colOf_len]; exact hi), brF_nil (by rw [hl]; exact hj), gi_colOf hi]
  exact Iff.rfl
theorem repF_in {xs ys : List (List Int)} {i j : Nat} (v : VG xs ys) (hi : i < xs.length) (hj : j < (gr xs 0).length) : repF xs ys i j = repL xs ys xs.length i j := by
  unfold repF
  rw [pb_true v, pb_true (p := Blw xs.length i) ⟨by omega, by omega⟩, pb_true (p := Blw (gr xs 0).length j) ⟨by omega, by omega⟩]
  simp
theorem repF_rest {xs ys : List (List Int)} {i j : Nat} (v : VG xs ys) (hi : i < xs.length) (hj : j < (gr xs 0).length) : repF xs ys i j = [] ↔ RestAt xs ys xs.length (gr xs 0).length i j := by
  rw [repF_in v hi hj]
  exact repL_nil hi hj (by rw [(v.tb.rows i (by rw [← v.n]; exact hi)).1, v.m])
theorem pureR_mem {xs ys : List (List Int)} {i j : Nat} (v : VG xs ys) (hi : i < xs.length) (hj : j < (gr xs 0).length) : [(i : Int), (j : Int)] ∈ pureR xs ys ↔ RestAt xs ys xs.length (gr xs 0).length i j := by
  rw [pureR, if_pos (pb_true v), allRests_mem]
  constructor
  · rintro ⟨k, l, _, _, e, h⟩
    injection e with e1 e2
    injection e2 with e2 _
    obtain rfl : i = k := by omega
    obtain rfl : j = l := by omega
    exact h
  · intro h; exact ⟨i, j, hi, hj, rfl, h⟩
theorem rest_flip {xs ys : List (List Int)} {n m i j : Nat} (hi : i < n) (hj : j < m) : RestAt (flip ys n m) (flip xs n m) m n j i ↔ RestAt xs ys n m i j := by
  unfold RestAt
  constructor
  · rintro ⟨h1, h2⟩
    refine ⟨fun k hk => ?_, fun k hk => ?_⟩
    · have := h2 k hk; rw [g2_flip hj hk, g2_flip hj hi] at this; exact this
    · have := h1 k hk; rw [g2_flip hk hi, g2_flip hj hi] at this; exact this
  · rintro ⟨h1, h2⟩
    refine ⟨fun k hk => ?_, fun k hk => ?_⟩
    · rw [g2_flip hk hi, g2_flip hj hi]; exact h2 k hk
    · rw [g2_flip hj hk, g2_flip hj hi]; exact h1 k hk
/-- How many of a row, of all. -/
noncomputable def cR (f : Nat → Nat → Prop) (i : Nat) : Nat → Nat
  | 0 => 0
  | j + 1 => cR f i j + if pb (f i j) = true then 1 else 0
noncomputable def cA (f : Nat → Nat → Prop) (m : Nat) : Nat → Nat
  | 0 => 0
  | i + 1 => cA f m i + cR f i m
theorem rowRests_cR (a b : List (List Int)) (n m i : Nat) : ∀ j, (rowRests a b n m i j).length = cR (fun i j => RestAt a b n m i j) i j
  | 0 => rfl
  | j + 1 => by rw [rowRests, List.length_append, rowRests_cR a b n m i j, cR]; split <;> simp
theorem allRests_cA (a b : List (List Int)) (n m : Nat) : ∀ i, (allRests a b n m i).length = cA (fun i j => RestAt a b n m i j) m i
  | 0 => rfl
  | i + 1 => by rw [allRests, List.length_append, allRests_cA a b n m i, rowRests_cR, cA]
theorem cA_zero (f : Nat → Nat → Prop) : ∀ i, cA f 0 i = 0
  | 0 => rfl
  | i + 1 => by rw [cA, cA_zero f i]; rfl
theorem cA_col (f : Nat → Nat → Prop) (m : Nat) : ∀ i, cA f (m + 1) i = cA f m i + cR (fun a b => f b a) m i
  | 0 => rfl
  | i + 1 => by rw [cA, cA_col f m i, cA, cR, cR]; omega
theorem cA_swap (f : Nat → Nat → Prop) (n : Nat) : ∀ m, cA f m n = cA (fun a b => f b a) n m
  | 0 => by rw [cA_zero]; rfl
  | m + 1 => by rw [cA_col, cA_swap f n m, cA]
theorem cR_congr {f g : Nat → Nat → Prop} {i : Nat} : ∀ {j : Nat}, (∀ l, l < j → (f i l ↔ g i l)) → cR f i j = cR g i j
  | 0, _ => rfl
  | j + 1, h => by rw [cR, cR, cR_congr (fun l hl => h l (by omega)), pb_congr (h j (by omega))]
theorem cA_congr {f g : Nat → Nat → Prop} {m : Nat} : ∀ {i : Nat}, (∀ k l, k < i → l < m → (f k l ↔ g k l)) → cA f m i = cA g m i
  | 0, _ => rfl
  | i + 1, h => by rw [cA, cA, cA_congr (fun k l hk hl => h k l (by omega) hl), cR_congr (fun l hl => h i l (by omega) hl)]
theorem pureR_flip_len {xs ys : List (List Int)} (v : VG xs ys) : (pureR (flip ys ys.length (gr ys 0).length) (flip xs xs.length (gr xs 0).length)).length = (pureR xs ys).length := by
  have v2 := v.flip2
  have hn := v.n
  have hm := v.m
  have h1 := v.tb.m1
  have hl : (flip ys ys.length (gr ys 0).length).length = (gr ys 0).length := flip_len _ _ _
  have hl0 : (gr (flip ys ys.length (gr ys 0).length) 0).length = ys.length := by rw [gr_flip h1]; simp
  rw [pureR, if_pos (pb_true v2), pureR, if_pos (pb_true v), hl, hl0, allRests_cA, allRests_cA, cA_swap]
  rw [← hn, ← hm]
  exact cA_congr fun k l hk hl => rest_flip hk hl
end Go.Proofs.Ytnonbefeomnbpaa

/- Pure rests, by the model. -/
namespace Go.Proofs.Ytnonbefeomnbpaa
open Go.RowKit

theorem Try.info32_ : (Try.prog.info? 34).map (fun i => (i.zero, i.size, i.bytes)) = some (some (.slice none 0 0), 1, 24) := by kernel_rfl
set_option maxHeartbeats 1000000 in
theorem PureRests_spec (A B : Option Addr) (n c m d : Nat) (xs ys : List (List Int)) (w : World) (hx : IntRows w A n c xs) (hy : IntRows w B m d ys) :
    Calls Try.prog 25 #[.agg #[.slice A n c, .slice B m d]] w (RetR (pureR xs ys) w) := by
  have hb0 := below_alloc w (.cells #[.slice A n c, .slice B m d] 29)
  have b0 := blk_new w 29 #[.slice A n c, .slice B m d]
  have HB := Lib.hid hb0
  have HK := Lib.hid b0
  have HX := Lib.hid (hx.keep (Keep.below hb0))
  have HY := Lib.hid (hy.keep (Keep.below hb0))
  have HX0 := Lib.hid hx
  have HY0 := Lib.hid hy
  clear hx hy hb0 b0
  go_enter Try.func25, Try.ntmps25
  go_wp2_with fail
  generalize w.alloc (.cells #[.slice A n c, .slice B m d] 29) = W1 at *
  have HC := Lib.hid (validGame_any _ _ _ _ _ _ _ _ _ HX.out HY.out)
  by_cases hv : VG xs ys
  · refine ((pb_true hv) ▸ HC.out).mono ?_
    rintro e w1 ⟨rfl, hb⟩
    have hb2 := below_up HB.out hb
    have hk2 := blk_below HK.out hb
    obtain ⟨p, rfl, rfl, rfl, rfl, rfl, rfl, hg⟩ := GV.of HX0.out HY0.out hv
    have HT := Lib.hid (show GT p w w1 w.heap.size xs ys from ⟨hb2, hk2, hg⟩)
    have hn3 := hg.tx.n3
    have hm3 := hg.tx.m3
    have hn1 := hg.tx.n1
    have HP := Lib.hid (show pureR xs ys = allRests xs ys p.n p.m p.n by rw [pureR, if_pos (pb_true hv), hg.lx, hg.mx])
    clear hb hv hb2 hk2 hg HX HY HX0 HY0 HB HK HC
    have HS := Lib.hid (Bld.make (lo := w.heap.size + 1) (w := w1) (blk_lt HT.out.box))
    have HT1 := Lib.hid (HT.out.up (below_alloc w1 (.cells #[] 34)))
    clear HT
    go_wp2
    go_loopw [3, 4] (fun v s wr => ∃ (i : Nat) (vs : List Value), i ≤ p.n ∧ s = .int .i64 i ∧ Hid (Bld (w.heap.size + 1) wr.heap.size wr v vs (allRests xs ys p.n p.m i)) ∧ Hid (GT p w wr w.heap.size xs ys)) (fun _ s _ => p.n - (intOf s).toNat)
    case atStart => exact ⟨0, [], Nat.zero_le _, rfl, Lib.hid (by rw [World.size_alloc]; exact HS.out), HT1⟩
    case round =>
      clear HS HT1
      obtain ⟨i, vs, hi, rfl, HBd, HT⟩ := hrel
      by_cases hin : i < p.n
      · have k0 := HT.out.c0
        go_wp2
        clear k0
        go_loopw [3, 5] (fun v s wj => ∃ (j : Nat) (vs : List Value), j ≤ p.m ∧ s = .int .i64 j ∧ Hid (Bld (w.heap.size + 1) wj.heap.size wj v vs (allRests xs ys p.n p.m i ++ rowRests xs ys p.n p.m i j)) ∧ Hid (GT p w wj w.heap.size xs ys)) (fun _ s _ => p.m - (intOf s).toNat)
        case atStart => exact ⟨0, vs, Nat.zero_le _, rfl, Lib.hid (by rw [rowRests, List.append_nil]; exact HBd.out), HT⟩
        case round =>
          clear HBd HT vs
          obtain ⟨j, vs, hj, rfl, HBd, HT⟩ := hrel
          have k0 := HT.out.c0
          have k1 := HT.out.c1
          have r0 := HT.out.gv.tx.row 0 (by omega)
          simp only [Nat.add_zero] at r0
          by_cases hjm : j < p.m
          · go_wp2_with fail
            by_cases hr : RestAt xs ys p.n p.m i j
            · refine ((pb_true hr) ▸ isRest_any p i j xs ys _ HT.out.gv hin hjm).mono ?_
              rintro e w2 ⟨rfl, hb⟩
              have HT2 := Lib.hid (HT.out.up hb)
              have HB2 := Lib.hid ((HBd.out.below hb).mono hb.size)
              have HR := Lib.hid (rowRests_yes hr)
              have hlen : (allRests xs ys p.n p.m i ++ rowRests xs ys p.n p.m i j).length ≤ 12 := by
                have h1 := allRests_len xs ys p.n p.m hm3 i
                have h2 := rowRests_len xs ys p.n p.m i j
                rw [List.length_append]; omega
              clear hb hr k0 k1 HT HBd
              have hb3 := below_alloc w2 (.cells #[.int .i64 i, .int .i64 j] 3)
              have hb4 := below_alloc (w2.alloc (.cells #[.int .i64 i, .int .i64 j] 3)) (.cells #[.slice (some ⟨w2.heap.size, 0, none⟩) 2 2] 34)
              have HB4 := Lib.hid ((HB2.out.below hb3).below hb4).own
              have HN := Lib.hid (cell_one_new (w2.alloc (.cells #[.int .i64 i, .int .i64 j] 3)) (.slice (some ⟨w2.heap.size, 0, none⟩) 2 2) 34)
              have HP4 := Lib.hid ((pair_own (lo := w2.heap.size) (w := w2) i j (by omega) (by omega) (Nat.le_refl _)).below hb4)
              have HK4 := Lib.hid (below_up hb3 hb4)
              have HT4 := Lib.hid ((HT2.out.up hb3).up hb4)
              clear hb3 hb4
              have hlo2 : w.heap.size + 1 ≤ w2.heap.size := blk_lt HT2.out.box
              generalize hrs : allRests xs ys p.n p.m i ++ rowRests xs ys p.n p.m i j = rs at *
              have HRS := Lib.hid hrs
              clear hrs
              obtain ⟨i0, hi0, hz0, hz1, hz2⟩ := info_parts Try.info32_
              go_wp2_with (at_builtin; refine wpList_append_own_at _ rfl _ _ 23 rfl (w.heap.size + 1) 34 i0 (.slice none 0 0) 1 24 Try.underlying23 hi0 hz0 hz1 hz2 rfl (by decide) _ rs.length vs rfl HB4.out ⟨w2.heap.size + 1, 0, none⟩ 1 1 [.slice (some ⟨w2.heap.size, 0, none⟩) 2 2] rfl rfl ?c1 ?c2 ?c3 ?c4 ?c5 ?_)
              case c1 => have h := HN.out; rw [World.size_alloc] at h; exact h
              case c2 => intro u hu; simp at hu; subst hu; rfl
              case c3 => unfold maxLen; omega
              case c4 => omega
              case c5 => simp; omega
              intro v' w5 hown' hgrow _ hat
              obtain ⟨hP, hK⟩ := push_pair HB2.out (by omega) (by omega) hown' hgrow hat hlo2
              have HP := Lib.hid hP
              have HT5 := Lib.hid (HT2.out.up2 hK (Nat.le_succ _) (Nat.lt_succ_self _))
              clear HB4 HN HP4 HK4 HT4 hown' hgrow hat hP hK HB2 HT2
              go_wp2
              go_roundw
              case rel => exact ⟨j + 1, _, by omega, by go_num, Lib.hid (by rw [HR.out, ← List.append_assoc, HRS.out]; exact HP.out), HT5⟩
              case measure => simp [intOf]; omega
            · refine ((pb_false hr) ▸ isRest_any p i j xs ys _ HT.out.gv hin hjm).mono ?_
              rintro e w2 ⟨rfl, hb⟩
              have HT2 := Lib.hid (HT.out.up hb)
              have HB2 := Lib.hid ((HBd.out.below hb).mono hb.size)
              have HR := Lib.hid (rowRests_no hr)
              clear hb hr k0 k1 HT HBd
              go_wp2
              go_roundw
              case rel => exact ⟨j + 1, vs, by omega, by go_num, Lib.hid (by rw [HR.out]; exact HB2.out), HT2⟩
              case measure => simp [intOf]; omega
          · go_wp2
            go_roundw
            case rel => exact ⟨i + 1, vs, by omega, by go_num, Lib.hid (by have h := HBd.out; rw [show j = p.m by omega] at h; rw [allRests]; exact h), HT⟩
            case measure => simp [intOf]; omega
      · have k0 := HT.out.c0
        go_wp2
        go_ret
        obtain ⟨A, n, c, g, rfl, hn, ho⟩ := HBd.out.owns (by have := allRests_len xs ys p.n p.m hm3 i; omega)
        have e : pureR xs ys = allRests xs ys p.n p.m i := by rw [HP.out, show i = p.n by omega]
        exact ⟨A, n, c, g, rfl, by rw [e]; exact hn, by rw [e]; exact ho.mono (Nat.le_succ _) (Nat.le_refl _), HT.out.below⟩
  · have HZ := Lib.hid (show pureR xs ys = [] by rw [pureR, if_neg (by rw [pb_false hv]; decide)])
    refine ((pb_false hv) ▸ HC.out).mono ?_
    rintro e w1 ⟨rfl, hb⟩
    have HB2 := Lib.hid (below_up HB.out hb)
    clear hb hv HC
    go_wp2
    go_ret
    exact ⟨none, 0, 0, 0, rfl, by rw [HZ.out]; rfl, by rw [HZ.out]; exact OwnR.nil _ _ _ _, HB2.out⟩

end Go.Proofs.Ytnonbefeomnbpaa

/- Small functions of the laws. -/
namespace Go.Proofs.Ytnonbefeomnbpaa
open Go.RowKit

/-- Whether a list has a number. -/
def HasN (xs : List Int) (x : Int) : Prop := ∃ k, k < xs.length ∧ gi xs k = x
set_option maxHeartbeats 400000 in
theorem isIn_any (A : Option Addr) (n c : Nat) (xs : List Int) (x : Int) (w : World) (hx : Ints w A n c xs) :
    Calls Try.prog 49 #[.slice A n c, .int .i64 x] w fun e w' => e = .returned (.bool (pb (HasN xs x))) ∧ Quiet w w' := by
  have hl := hx.max
  have HX := Lib.hid hx
  have HL := Lib.hid hx.len
  clear hx
  go_enter Try.func49, Try.ntmps49
  go_wp2
  go_loopw [5] (fun i wr => ∃ k : Nat, k ≤ n ∧ i = .int .i64 k ∧ Hid (∀ j, j < k → gi xs j ≠ x) ∧ Quiet w wr) (fun i _ => n - (intOf i).toNat)
  case atStart => exact ⟨0, Nat.zero_le _, rfl, Lib.hid (fun _ h => absurd h (by omega)), Quiet.refl _⟩
  case round =>
    obtain ⟨k, hk, rfl, HN, q, rfl⟩ := hrel
    by_cases hlt : k < n
    · obtain ⟨b, o, rfl, hc⟩ := HX.out.at_ (by omega)
      have c1 := hc k hlt
      clear hc
      by_cases he : gi xs k = x
      · have HR := Lib.hid (pb_true (p := HasN xs x) ⟨k, by rw [HL.out]; exact hlt, he⟩)
        have hd : (gi xs k == x) = true := by simpa using he
        clear he
        go_wp2
        go_ret
        exact ⟨ret_bool HR.out.symm, ⟨_, rfl⟩⟩
      · have HE := Lib.hid he
        have hd : (gi xs k == x) = false := by simpa using he
        clear he
        go_wp2
        go_roundw
        case rel => exact ⟨k + 1, by omega, by go_num, Lib.hid (fun j hj => by
          by_cases hjk : j < k
          · exact HN.out j hjk
          · obtain rfl : j = k := by omega
            exact HE.out), ⟨_, rfl⟩⟩
        case measure => simp [intOf]; omega
    · obtain rfl : k = n := by omega
      have HR := Lib.hid (pb_false (p := HasN xs x) (fun ⟨j, hj, e⟩ => HN.out j (by rw [← HL.out]; exact hj) e))
      go_wp2
      go_ret
      exact ⟨ret_bool HR.out.symm, ⟨_, rfl⟩⟩
set_option maxHeartbeats 400000 in
theorem equalInts_any (A B : Option Addr) (n c m d : Nat) (xs ys : List Int) (w : World) (hx : Ints w A n c xs) (hy : Ints w B m d ys) :
    Calls Try.prog 48 #[.slice A n c, .slice B m d] w fun e w' => e = .returned (.bool (eqI xs ys)) ∧ Quiet w w' := by
  obtain ⟨lx, cx, mx, _, hx⟩ := hx
  obtain ⟨ly, cy, my, _, hy⟩ := hy
  have Lx := Lib.hid lx
  have Ly := Lib.hid ly
  clear lx ly
  by_cases hnm : n = m
  · subst hnm
    go_enter Try.func48, Try.ntmps48
    go_wp2
    go_loopw [5] (fun i wr => ∃ k : Nat, k ≤ n ∧ i = .int .i64 k ∧ (∀ j, j < k → gi xs j = gi ys j) ∧ Quiet w wr) (fun i _ => n - (intOf i).toNat)
    case atStart => exact ⟨0, Nat.zero_le _, rfl, fun _ h => absurd h (by omega), Quiet.refl _⟩
    case round =>
      obtain ⟨k, hk, rfl, hall, q, rfl⟩ := hrel
      have HALL := Lib.hid hall
      clear hall
      by_cases hlt : k < n
      · obtain ⟨b, o, rfl, hcx⟩ := hx (by omega)
        obtain ⟨b2, o2, rfl, hcy⟩ := hy (by omega)
        have c1 := hcx k hlt
        have c2 := hcy k hlt
        clear hx hy hcx hcy
        by_cases he : gi xs k = gi ys k
        · have he' : (gi xs k != gi ys k) = false := by simp [he]
          have HE := Lib.hid he
          clear he
          go_wp2
          go_quiet (fail)
          go_wp2
          go_roundw
          case rel => exact ⟨k + 1, by omega, by go_num, fun j hj => by
            by_cases hjk : j < k
            · exact HALL.out j hjk
            · obtain rfl : j = k := by omega
              exact HE.out, ⟨_, rfl⟩⟩
          case measure => simp [intOf]; omega
        · have he' : (gi xs k != gi ys k) = true := by simpa using he
          go_wp2
          go_quiet (fail)
          go_wp2
          go_ret
          exact ⟨ret_bool (eqI_no he).symm, Quiet.two _ _ _⟩
      · obtain rfl : k = n := by omega
        go_wp2
        go_ret
        exact ⟨ret_bool (eqI_yes (by rw [Lx.out, Ly.out]) fun j hj => HALL.out j (by rw [Lx.out] at hj; exact hj)).symm, ⟨_, rfl⟩⟩
  · go_enter Try.func48, Try.ntmps48
    go_wp2
    go_ret
    exact ⟨ret_bool (eqI_len (by rw [Lx.out, Ly.out]; exact hnm)).symm, Quiet.refl _⟩

end Go.Proofs.Ytnonbefeomnbpaa

/- Even tables, by both programs. -/
namespace Go.Proofs.Ytnonbefeomnbpaa
open Go.RowKit

theorem VQ.len2 {a : List (List Int)} {n : Nat} (v : VQ a) (hl : a.length = n) : (gr a 0).length = n := by have := v.2; omega
/-- A square that is the same with rows as columns. -/
structure EvP (a : List (List Int)) : Prop where
  q : VQ a
  e : ∀ i j, i < a.length → j < a.length → g2 a i j = g2 a j i


theorem g2_flipT {a : List (List Int)} {n m i j : Nat} (hi : i < m) (hj : j < n) : g2 (flip a n m) i j = g2 a j i := by
  unfold g2
  rw [gr_flip hi, gi_col hj]
  rfl

/-- The table is even just if the arrays of it and it turned are the same. -/
theorem even_cells {a : List (List Int)} (v : VQ a) : EvP a ↔ cs9 (full9 a a.length a.length) = cs9 (full9 (flip a a.length a.length) a.length a.length) := by
  constructor
  · intro h
    refine cs9_congr fun r c _ _ => ?_
    unfold full9
    by_cases e : r < a.length ∧ c < a.length
    · rw [if_pos e, if_pos e, g2_flipT e.1 e.2]; exact h.e r c e.1 e.2
    · rw [if_neg e, if_neg e]
  · intro h
    refine ⟨v, fun i j hi hj => ?_⟩
    have h3 := v.1.n3
    have e1 := cs9_get (full9 a a.length a.length) (i := i) (j := j) (by omega) (by omega)
    have e2 := cs9_get (full9 (flip a a.length a.length) a.length a.length) (i := i) (j := j) (by omega) (by omega)
    rw [h, e2] at e1
    injection e1 with e1
    injection e1 with _ e1
    unfold full9 at e1
    rw [if_pos ⟨hi, hj⟩, if_pos ⟨hi, hj⟩, g2_flipT hi hj] at e1
    exact e1.symm

end Go.Proofs.Ytnonbefeomnbpaa

/- Rows compared, by the laws; squares turned. -/
namespace Go.Proofs.Ytnonbefeomnbpaa
open Go.RowKit

set_option maxHeartbeats 400000 in
theorem equalRows_any (A B : Option Addr) (n c m d : Nat) (xs ys : List (List Int)) (w : World) (hx : IntRows w A n c xs) (hy : IntRows w B m d ys) :
    Calls Try.prog 24 #[.slice A n c, .slice B m d] w fun e w' => e = .returned (.bool (eqRR xs ys)) ∧ Quiet w w' := by
  obtain ⟨lx, cx, mx, hx⟩ := hx
  obtain ⟨ly, cy, my, hy⟩ := hy
  have Lx := Lib.hid lx
  have Ly := Lib.hid ly
  clear lx ly
  by_cases hnm : n = m
  · subst hnm
    go_enter Try.func24, Try.ntmps24
    go_wp2
    go_loopw [5] (fun i wr => ∃ k : Nat, k ≤ n ∧ i = .int .i64 k ∧ Hid (∀ j, j < k → eqI (gr xs j) (gr ys j) = true) ∧ Quiet w wr) (fun i _ => n - (intOf i).toNat)
    case atStart => exact ⟨0, Nat.zero_le _, rfl, Lib.hid (fun _ h => absurd h (by omega)), Quiet.refl _⟩
    case round =>
      obtain ⟨k, hk, rfl, HALL, q, rfl⟩ := hrel
      by_cases hlt : k < n
      · obtain ⟨b, o, rfl, hcx⟩ := hx (by omega)
        obtain ⟨b2, o2, rfl, hcy⟩ := hy (by omega)
        obtain ⟨R, cc, c1, hR⟩ := hcx k hlt
        obtain ⟨R2, cc2, c2, hR2⟩ := hcy k hlt
        clear hx hy hcx hcy
        cases he : eqI (gr xs k) (gr ys k) with
        | true =>
          have HE := Lib.hid he
          have hq := fun W (hW : Quiet w W) => (he ▸ equalInts_any _ _ _ _ _ _ _ _ W (hR.keep (Keep.quiet hW)) (hR2.keep (Keep.quiet hW)))
          clear he
          go_wp2
          go_quiet ((go_at_call 48; exact quiet_fit (hq _ (by first | exact ⟨_, rfl⟩ | exact Quiet.two _ _ _)) (fun m => by first | exact drewN_to1 _ _ _ | exact drewN_to2 _ _ _ _)))
          go_wp2
          go_roundw
          case rel => exact ⟨k + 1, by omega, by go_num, Lib.hid (fun j hj => by
            by_cases hjk : j < k
            · exact HALL.out j hjk
            · obtain rfl : j = k := by omega
              exact HE.out), ⟨_, rfl⟩⟩
          case measure => simp [intOf]; omega
        | false =>
          have HE := Lib.hid he
          have hq := fun W (hW : Quiet w W) => (he ▸ equalInts_any _ _ _ _ _ _ _ _ W (hR.keep (Keep.quiet hW)) (hR2.keep (Keep.quiet hW)))
          clear he
          go_wp2
          go_quiet ((go_at_call 48; exact quiet_fit (hq _ (by first | exact ⟨_, rfl⟩ | exact Quiet.two _ _ _)) (fun m => by first | exact drewN_to1 _ _ _ | exact drewN_to2 _ _ _ _)))
          go_wp2
          go_ret
          exact ⟨ret_bool (eqRR_no HE.out).symm, Quiet.two _ _ _⟩
      · obtain rfl : k = n := by omega
        go_wp2
        go_ret
        exact ⟨ret_bool (eqRR_yes (by rw [Lx.out, Ly.out]) fun j hj => HALL.out j (by rw [Lx.out] at hj; exact hj)).symm, ⟨_, rfl⟩⟩
  · go_enter Try.func24, Try.ntmps24
    go_wp2
    go_ret
    exact ⟨ret_bool (eqRR_len (by rw [Lx.out, Ly.out]; exact hnm)).symm, Quiet.refl _⟩
theorem VQ.m {a : List (List Int)} {k : Nat} (v : VQ a) (h : a.length = k) : (gr a 0).length = k := by have := v.2; omega
theorem VQ.flip {a : List (List Int)} {k : Nat} (v : VQ a) (h : a.length = k) : VQ (flip a k k) := by
  have h1 := v.1.flip
  rw [h, v.m h] at h1
  refine ⟨h1, ?_⟩
  have := v.1.n1
  rw [flip_len, gr_flip (by omega)]
  simp
theorem VQ.even {a : List (List Int)} {k : Nat} (v : VQ a) (h : a.length = k) : Even a k := by have h1 := v.1.even; rw [v.m h] at h1; exact h1
theorem VQ.evenP {a : List (List Int)} {k : Nat} (v : VQ a) (h : a.length = k) : EvP a ↔ Go.Proofs.Ytnonbefeomnbpaa.flip a k k = a := by
  constructor
  · intro e
    refine gr_ext (by rw [flip_len, h]) fun i hi => ?_
    rw [flip_len] at hi
    refine gi_ext (by rw [gr_flip hi, (v.1.rows i (by omega)).1, v.m h]; simp) fun j hj => ?_
    rw [gr_flip hi] at hj
    have hj' : j < k := by simpa using hj
    have := g2_flipT (a := a) (n := k) (m := k) hi hj'
    unfold g2 at this
    rw [this]
    exact e.e j i (by omega) (by omega)
  · intro e
    refine ⟨v, fun i j hi hj => ?_⟩
    have := g2_flipT (a := a) (n := k) (m := k) (i := i) (j := j) (by omega) (by omega)
    rw [e] at this
    exact this

end Go.Proofs.Ytnonbefeomnbpaa

/- Ascending lists, by the laws. -/
namespace Go.Proofs.Ytnonbefeomnbpaa
open Go.RowKit

/-- Each number is more than the one ahead of it. -/
def AscL (xs : List Int) : Prop := ∀ j, 1 ≤ j → j < xs.length → gi xs (j - 1) < gi xs j
set_option maxHeartbeats 800000 in
theorem ascends_any (A : Option Addr) (n c : Nat) (xs : List Int) (w : World) (hx : Ints w A n c xs) (ha : AscL xs) :
    Calls Try.prog 50 #[.slice A n c] w fun e w' => e = .returned (.bool true) ∧ Quiet w w' := by
  have HL := Lib.hid hx.len
  have HX := Lib.hid hx
  have HA := Lib.hid ha
  have hmx := hx.max
  clear hx ha
  go_enter Try.func50, Try.ntmps50
  go_wp2
  go_loopw [3] (fun i wr => ∃ k : Nat, 1 ≤ k ∧ k ≤ n + 1 ∧ i = .int .i64 k ∧ Quiet w wr) (fun i _ => n + 1 - (intOf i).toNat)
  case atStart => exact ⟨1, by omega, by omega, rfl, Quiet.refl _⟩
  case round =>
    obtain ⟨k, h1, hk, rfl, q, rfl⟩ := hrel
    by_cases hlt : k < n
    · obtain ⟨b, o, rfl, hc⟩ := HX.out.at_ (by omega)
      obtain ⟨l, rfl⟩ : ∃ l, k = l + 1 := ⟨k - 1, by omega⟩
      have c1 := hc (l + 1) hlt
      have c2 := hc l (by omega)
      have hlt2 := HA.out (l + 1) (by omega) (by rw [HL.out]; exact hlt)
      rw [Nat.add_sub_cancel] at hlt2
      have hcs : ((l + 1 : Nat) : Int) - 1 = (l : Int) := by omega
      clear hc
      generalize gi xs (l + 1) = x at *
      generalize gi xs l = y at *
      have hle : decide (x ≤ y) = false := decide_eq_false (by omega)
      have hl1 : l < n := by omega
      have hln : (l : Int) < (n : Int) := by omega
      go_wp2
      go_quiet (fail)
      go_wp2
      go_roundw
      case rel => exact ⟨l + 1 + 1, by omega, by omega, by go_num, ⟨_, rfl⟩⟩
      case measure => simp [intOf]; omega
    · go_wp2
      go_ret
      exact ⟨rfl, ⟨_, rfl⟩⟩
end Go.Proofs.Ytnonbefeomnbpaa

/- Rows among rows, ascending lists, by the laws. -/
namespace Go.Proofs.Ytnonbefeomnbpaa
open Go.RowKit

set_option maxHeartbeats 800000 in
theorem inRows_any (A B : Option Addr) (n c m d : Nat) (xs : List (List Int)) (ys : List Int) (w : World) (hx : IntRows w A n c xs) (hy : Ints w B m d ys) :
    Calls Try.prog 26 #[.slice A n c, .slice B m d] w fun e w' => e = .returned (.bool (pb (ys ∈ xs))) ∧ Quiet w w' := by
  have HL := Lib.hid hx.len
  have HX := Lib.hid hx
  have HY := Lib.hid hy
  have hmx := hx.max
  clear hx hy
  go_enter Try.func26, Try.ntmps26
  go_wp2
  go_loopw [5] (fun i wr => ∃ k : Nat, k ≤ n ∧ i = .int .i64 k ∧ Hid (∀ j, j < k → gr xs j ≠ ys) ∧ Quiet w wr) (fun i _ => n - (intOf i).toNat)
  case atStart => exact ⟨0, Nat.zero_le _, rfl, Lib.hid (fun _ h => absurd h (by omega)), Quiet.refl _⟩
  case round =>
    obtain ⟨k, hk, rfl, HALL, hq⟩ := hrel
    by_cases hlt : k < n
    · obtain ⟨b, o, rfl, hc⟩ := (HX.out.keep (Keep.quiet hq)).at_ (by omega)
      obtain ⟨R, cR, c1, hR⟩ := hc k hlt
      have HQ := Lib.hid hq
      have HC := Lib.hid (equalInts_any _ _ _ _ _ _ (gr xs k) ys wr hR (HY.out.keep (Keep.quiet hq)))
      clear hc hR hq
      by_cases he : gr xs k = ys
      · have HR := Lib.hid (pb_true (p := ys ∈ xs) (by rw [← he]; exact gr_mem (by rw [HL.out]; exact hlt)))
        rw [show eqI (gr xs k) ys = true by unfold eqI; exact decide_eq_true he] at HC
        clear he
        go_wp2_with fail
        refine HC.out.mono ?_
        rintro e w2 ⟨rfl, hq⟩
        have HQ2 := Lib.hid (HQ.out.trans hq)
        clear hq HC HQ c1
        go_wp2
        go_ret
        exact ⟨ret_bool HR.out.symm, HQ2.out⟩
      · rw [show eqI (gr xs k) ys = false by unfold eqI; exact decide_eq_false he] at HC
        have HN := Lib.hid (show ∀ j, j < k + 1 → gr xs j ≠ ys from fun j hj => by
          by_cases e : j = k
          · subst e; exact he
          · exact HALL.out j (by omega))
        clear he
        go_wp2_with fail
        refine HC.out.mono ?_
        rintro e w2 ⟨rfl, hq⟩
        have HQ2 := Lib.hid (HQ.out.trans hq)
        clear hq HC HQ c1
        go_wp2
        go_roundw
        case rel => exact ⟨k + 1, by omega, by go_num, HN, HQ2.out⟩
        case measure => simp [intOf]; omega
    · obtain rfl : k = n := by omega
      have HR := Lib.hid (pb_false (p := ys ∈ xs) (fun h => by
        obtain ⟨j, hj, e⟩ := List.mem_iff_getElem.1 h
        exact HALL.out j (by rw [← HL.out]; exact hj) (by rw [gr_get hj]; exact e)))
      have HQ2 := Lib.hid hq
      clear hq
      go_wp2
      go_ret
      exact ⟨ret_bool HR.out.symm, HQ2.out⟩

end Go.Proofs.Ytnonbefeomnbpaa

/- No rounds, by the program. -/
namespace Go.Proofs.Ytnonbefeomnbpaa
open Go.RowKit

set_option maxHeartbeats 1000000 in
theorem roundOf_any (p : GP) (i k j l : Nat) (xs ys : List (List Int)) (w : World) (h : GV p w xs ys) (hi : i < p.n) (hk : k < p.n) (hj : j < p.m) (hl : l < p.m) :
    Calls Try.prog 82 #[.agg #[.slice (some ⟨p.ba, p.oa, none⟩) p.n p.c, .slice (some ⟨p.bb, p.ob, none⟩) p.n p.d], .int .i64 i, .int .i64 k, .int .i64 j, .int .i64 l] w (Ret (.int .i64 (rnd xs ys i k j l)) w) := by
  have HT := Lib.hid (GT.start h)
  have hn3 := h.tx.n3
  have hm3 := h.tx.m3
  clear h
  go_enter Try.func82, Try.ntmps82
  go_wp2
  generalize w.alloc (.cells #[.slice (some ⟨p.ba, p.oa, none⟩) p.n p.c, .slice (some ⟨p.bb, p.ob, none⟩) p.n p.d] 29) = W1 at *
  have k0 := HT.out.c0
  have k1 := HT.out.c1
  have r1 := HT.out.gv.tx.row i hi
  have r2 := HT.out.gv.tx.row k hk
  have r3 := HT.out.gv.ty.row i hi
  have r4 := HT.out.gv.ty.row k hk
  have e1 := HT.out.gv.tx.cell k j hk hj
  have e2 := HT.out.gv.tx.cell i j hi hj
  have e3 := HT.out.gv.ty.cell k l hk hl
  have e4 := HT.out.gv.ty.cell k j hk hj
  have e5 := HT.out.gv.tx.cell i l hi hl
  have e6 := HT.out.gv.tx.cell k l hk hl
  have e7 := HT.out.gv.ty.cell i j hi hj
  have e8 := HT.out.gv.ty.cell i l hi hl
  have d1 := HT.out.gv.tx.bd k j hk hj
  have d2 := HT.out.gv.tx.bd i j hi hj
  have d3 := HT.out.gv.ty.bd k l hk hl
  have d4 := HT.out.gv.ty.bd k j hk hj
  have d5 := HT.out.gv.tx.bd i l hi hl
  have d6 := HT.out.gv.tx.bd k l hk hl
  have d7 := HT.out.gv.ty.bd i j hi hj
  have d8 := HT.out.gv.ty.bd i l hi hl
  go_quiet (fail)
  go_wp2
  go_quiet (fail)
  go_wp2
  go_quiet (fail)
  go_wp2
  go_quiet (fail)
  go_wp2
  go_ret
  exact ⟨rfl, below_drewN HT.out.below _⟩

def NRB (xs ys : List (List Int)) (m i k : Nat) : Prop := ∀ j l, j < m → l < m → rnd xs ys i k j l = 0

set_option maxHeartbeats 1000000 in
theorem noRoundsBetween_any (p : GP) (i k : Nat) (xs ys : List (List Int)) (w : World) (h : GV p w xs ys) (hi : i < p.n) (hk : k < p.n) :
    Calls Try.prog 62 #[.agg #[.slice (some ⟨p.ba, p.oa, none⟩) p.n p.c, .slice (some ⟨p.bb, p.ob, none⟩) p.n p.d], .int .i64 i, .int .i64 k] w (Ret (.bool (pb (NRB xs ys p.m i k))) w) := by
  have HT := Lib.hid (GT.start h)
  have hn3 := h.tx.n3
  have hm3 := h.tx.m3
  clear h
  have k0 := HT.out.c0
  have r1 := HT.out.gv.tx.row i hi
  go_enter Try.func62, Try.ntmps62
  go_wp2
  clear k0 r1
  generalize w.alloc (.cells #[.slice (some ⟨p.ba, p.oa, none⟩) p.n p.c, .slice (some ⟨p.bb, p.ob, none⟩) p.n p.d] 29) = W1 at *
  go_loopw [15] (fun j wr => ∃ a : Nat, a ≤ p.m ∧ j = .int .i64 a ∧ Hid (∀ j l, j < a → l < p.m → rnd xs ys i k j l = 0) ∧ Hid (GT p w wr w.heap.size xs ys)) (fun j _ => p.m - (intOf j).toNat)
  case atStart => exact ⟨0, Nat.zero_le _, rfl, Lib.hid (fun _ _ h => absurd h (by omega)), HT⟩
  case round =>
    clear HT
    obtain ⟨a, ha, rfl, HALL, HT⟩ := hrel
    by_cases hlt : a < p.m
    · have k0 := HT.out.c0
      have r1 := HT.out.gv.tx.row i hi
      go_wp2
      clear k0 r1
      go_loopw [24] (fun l wi => ∃ b : Nat, b ≤ p.m ∧ l = .int .i64 b ∧ Hid (∀ l, l < b → rnd xs ys i k a l = 0) ∧ Hid (GT p w wi w.heap.size xs ys)) (fun l _ => p.m - (intOf l).toNat)
      case atStart => exact ⟨0, Nat.zero_le _, rfl, Lib.hid (fun _ h => absurd h (by omega)), HT⟩
      case round =>
        clear HT
        obtain ⟨b, hb, rfl, HIN, HT⟩ := hrel
        by_cases hbl : b < p.m
        · have k0 := HT.out.c0
          have k1 := HT.out.c1
          go_wp2_with fail
          refine (roundOf_any p i k a b xs ys _ HT.out.gv hi hk hlt hbl).mono ?_
          rintro e w1 ⟨rfl, hb1⟩
          have HT2 := Lib.hid (HT.out.up hb1)
          clear hb1 HT k0 k1
          by_cases hz : rnd xs ys i k a b = 0
          · have hz' : (rnd xs ys i k a b != 0) = false := by simp [hz]
            have HZ := Lib.hid hz
            clear hz
            go_wp2
            go_roundw
            case rel => exact ⟨b + 1, by omega, by go_num, Lib.hid (fun l hl => by
              by_cases hlb : l < b
              · exact HIN.out l hlb
              · obtain rfl : l = b := by omega
                exact HZ.out), HT2⟩
            case measure => simp [intOf]; omega
          · have HV := Lib.hid (pb_false (p := NRB xs ys p.m i k) fun v => hz (v a b hlt hbl))
            have hz' : (rnd xs ys i k a b != 0) = true := by simp [hz]
            clear hz
            go_wp2
            go_ret
            exact ⟨ret_bool HV.out.symm, HT2.out.below⟩
        · go_wp2
          go_roundw
          case rel => exact ⟨a + 1, by omega, by go_num, Lib.hid (fun j l hj hl => by
            by_cases hja : j < a
            · exact HALL.out j l hja hl
            · obtain rfl : j = a := by omega
              exact HIN.out l (by omega)), HT⟩
          case measure => simp [intOf]; omega
    · go_wp2
      go_ret
      exact ⟨ret_bool (pb_true (fun j l hj hl => HALL.out j l (by omega) hl)).symm, HT.out.below⟩

set_option maxHeartbeats 1000000 in
theorem NoRounds_impl (A B : Option Addr) (n c m d : Nat) (xs ys : List (List Int)) (w : World) (hx : IntRows w A n c xs) (hy : IntRows w B m d ys) :
    Calls Try.prog 29 #[.agg #[.slice A n c, .slice B m d]] w (Ret (.bool (pb (NR xs ys))) w) := by
  have hb0 := below_alloc w (.cells #[.slice A n c, .slice B m d] 29)
  have b0 := blk_new w 29 #[.slice A n c, .slice B m d]
  have HB := Lib.hid hb0
  have HK := Lib.hid b0
  have HX := Lib.hid (hx.keep (Keep.below hb0))
  have HY := Lib.hid (hy.keep (Keep.below hb0))
  have HX0 := Lib.hid hx
  have HY0 := Lib.hid hy
  clear hx hy hb0 b0
  go_enter Try.func29, Try.ntmps29
  go_wp2_with fail
  generalize w.alloc (.cells #[.slice A n c, .slice B m d] 29) = W1 at *
  have HC := Lib.hid (ValidGame_impl _ _ _ _ _ _ _ _ _ HX.out HY.out)
  by_cases hv : VG xs ys
  · refine ((pb_true hv) ▸ HC.out).mono ?_
    rintro e w1 ⟨rfl, hb⟩
    have HV := Lib.hid hv
    have hb2 := below_up HB.out hb
    have hk2 := blk_below HK.out hb
    obtain ⟨p, rfl, rfl, rfl, rfl, rfl, rfl, hg⟩ := GV.of HX0.out HY0.out hv
    have HT := Lib.hid (show GT p w w1 w.heap.size xs ys from ⟨hb2, hk2, hg⟩)
    have hn3 := hg.tx.n3
    have hm3 := hg.tx.m3
    have hlx := Lib.hid hg.lx
    have hmx := Lib.hid hg.mx
    clear hb hv hb2 hk2 hg HX HY HX0 HY0 HB HK HC
    have k0 := HT.out.c0
    go_wp2
    clear k0
    go_loopw [11] (fun j wr => ∃ a : Nat, a ≤ p.n ∧ j = .int .i64 a ∧ Hid (∀ i k, i < a → k < p.n → NRB xs ys p.m i k) ∧ Hid (GT p w wr w.heap.size xs ys)) (fun j _ => p.n - (intOf j).toNat)
    case atStart => exact ⟨0, Nat.zero_le _, rfl, Lib.hid (fun _ _ h => absurd h (by omega)), HT⟩
    case round =>
      clear HT
      obtain ⟨a, ha, rfl, HALL, HT⟩ := hrel
      by_cases hlt : a < p.n
      · have k0 := HT.out.c0
        go_wp2
        clear k0
        go_loopw [17] (fun l wi => ∃ b : Nat, b ≤ p.n ∧ l = .int .i64 b ∧ Hid (∀ k, k < b → NRB xs ys p.m a k) ∧ Hid (GT p w wi w.heap.size xs ys)) (fun l _ => p.n - (intOf l).toNat)
        case atStart => exact ⟨0, Nat.zero_le _, rfl, Lib.hid (fun _ h => absurd h (by omega)), HT⟩
        case round =>
          clear HT
          obtain ⟨b, hb, rfl, HIN, HT⟩ := hrel
          by_cases hbl : b < p.n
          · have k0 := HT.out.c0
            have k1 := HT.out.c1
            go_wp2_with fail
            by_cases hz : NRB xs ys p.m a b
            · refine ((pb_true hz) ▸ noRoundsBetween_any p a b xs ys _ HT.out.gv hlt hbl).mono ?_
              rintro e w2 ⟨rfl, hb1⟩
              have HT2 := Lib.hid (HT.out.up hb1)
              have HZ := Lib.hid hz
              clear hb1 HT k0 k1 hz
              go_wp2
              go_roundw
              case rel => exact ⟨b + 1, by omega, by go_num, Lib.hid (fun l hl => by
                by_cases hlb : l < b
                · exact HIN.out l hlb
                · obtain rfl : l = b := by omega
                  exact HZ.out), HT2⟩
              case measure => simp [intOf]; omega
            · refine ((pb_false hz) ▸ noRoundsBetween_any p a b xs ys _ HT.out.gv hlt hbl).mono ?_
              rintro e w2 ⟨rfl, hb1⟩
              have HT2 := Lib.hid (HT.out.up hb1)
              have HZ := Lib.hid (pb_false (p := NR xs ys) fun v => hz fun j l hj hl => v.no a b j l (by rw [hlx.out]; exact hlt) (by rw [hlx.out]; exact hbl) (by rw [hmx.out]; exact hj) (by rw [hmx.out]; exact hl))
              clear hb1 HT k0 k1 hz
              go_wp2
              go_ret
              exact ⟨ret_bool HZ.out.symm, HT2.out.below⟩
          · go_wp2
            go_roundw
            case rel => exact ⟨a + 1, by omega, by go_num, Lib.hid (fun j l hj hl => by
              by_cases hja : j < a
              · exact HALL.out j l hja hl
              · obtain rfl : j = a := by omega
                exact HIN.out l (by omega)), HT⟩
            case measure => simp [intOf]; omega
      · go_wp2
        go_ret
        exact ⟨ret_bool (pb_true ⟨HV.out, fun i k j l hi hk hj hl => HALL.out i k (by rw [hlx.out] at hi; omega) (by rw [hlx.out] at hk; exact hk) j l (by rw [hmx.out] at hj; exact hj) (by rw [hmx.out] at hl; exact hl)⟩).symm, HT.out.below⟩
  · have HZ := Lib.hid (pb_false (p := NR xs ys) fun v => hv v.vg)
    refine ((pb_false hv) ▸ HC.out).mono ?_
    rintro e w1 ⟨rfl, hb⟩
    have HB2 := Lib.hid (below_up HB.out hb)
    clear hb hv HC
    go_wp2
    go_ret
    exact ⟨ret_bool HZ.out.symm, HB2.out⟩

end Go.Proofs.Ytnonbefeomnbpaa

/- The harness of the exact laws: a copy of a game marked; how many numbers it has. -/
namespace Go.Proofs.Ytnonbefeomnbpaa
open Go.RowKit

theorem szR_offs (left : Int) (xs : List (List Int)) (h : 0 ≤ szR left xs) : szR left xs = left - offs xs xs.length := by
  have key : ∀ (xs : List (List Int)) (left : Int), 0 ≤ szR left xs → szR left xs = left - ((xs.map List.length).sum : Nat) := by
    intro xs
    induction xs with
    | nil => intro left _; simp [szR]
    | cons x xs ih =>
      intro left h
      by_cases hn : szI left x.length < 0
      · rw [szR_neg hn] at h; omega
      · rw [szR_pos hn] at h ⊢
        rw [ih _ h]
        have : szI left x.length = left - x.length := by unfold szI at hn ⊢; split <;> simp_all
        rw [this]
        simp
        omega
  have key2 : ∀ k, k ≤ xs.length → offs xs k = (((xs.take k).map List.length).sum : Nat) := by
    intro k
    induction k with
    | zero => intro _; simp [offs]
    | succ k ih =>
      intro hk
      rw [offs, ih (by omega), List.take_succ_eq_append_getElem (by omega), List.map_append, List.sum_append, gr_get (by omega)]
      simp
  rw [key xs left h, key2 _ (Nat.le_refl _), List.take_length]
theorem szRR_offs {left : Int} {xs : List (List Int)} (h : ¬ szRR left xs < 0) : offs xs xs.length ≤ left := by
  unfold szRR at h
  split at h
  · omega
  · rename_i hn
    have := szR_offs _ _ (by omega : 0 ≤ szR (szI left xs.length) xs)
    have h2 : szI left xs.length ≤ left := by unfold szI at hn ⊢; split <;> simp_all; omega
    omega
theorem szG_offs {left : Int} {xs ys : List (List Int)} (h : ¬ szG left xs ys < 0) (h0 : 0 ≤ left) (h1 : left ≤ 1048576) : offs xs xs.length ≤ 1048576 ∧ offs ys ys.length ≤ 1048576 := by
  unfold szG at h
  split at h
  · omega
  · rename_i hn
    split at h
    · omega
    · rename_i hn2
      have := szRR_offs hn
      have := szRR_offs hn2
      have := szRR_le left xs h0 h1
      omega

/-- A game marked: only its own rows have turned, and new blocks are there. -/
def MarkedG (lo hi : Nat) (w : World) (xs ys : List (List Int)) (k : Int) (e : Ending) (w' : World) : Prop :=
  e = .returned (.int .i64 (k + offs xs xs.length + offs ys ys.length)) ∧ ∃ w1, Below w.heap.size w w1 ∧ Touch lo hi w1 w'

def MarkedP (lo hi : Nat) (w : World) (xs ys : List (List Int)) (k : Int) (n m : Nat) (e : Ending) (w' : World) : Prop :=
  e = .returned (.int .i64 (k + offs xs n + offs ys m)) ∧ ∃ w1, Below w.heap.size w w1 ∧ Touch lo hi w1 w'

set_option maxHeartbeats 1000000 in
theorem markGame_any (lo mid hi g g1 g2 n m : Nat) (xs ys : List (List Int)) (k : Int) (w : World) (hx : XS lo mid hi w g g1 g2 n m xs ys) (h0 : 0 ≤ k) (hk : k ≤ 1048576) (h1 : offs xs xs.length ≤ 1048576) (h2 : offs ys ys.length ≤ 1048576) :
    Calls Try.prog 37 #[.agg #[.slice (some ⟨g1, 0, none⟩) n n, .slice (some ⟨g2, 0, none⟩) m m], .int .i64 k] w (MarkedG lo hi w xs ys k) := by
  have hb0 := below_alloc w (.cells #[.slice (some ⟨g1, 0, none⟩) n n, .slice (some ⟨g2, 0, none⟩) m m] 29)
  have b0 := blk_new w 29 #[.slice (some ⟨g1, 0, none⟩) n n, .slice (some ⟨g2, 0, none⟩) m m]
  have HX := Lib.hid (hx.up hb0)
  have HB := Lib.hid hb0
  have HK := Lib.hid b0
  have hle := hx.le
  have hm1 := hx.h1
  have hm2 := hx.h2
  have hlx := hx.rx.len
  have hly := hx.ry.len
  have g1' := offs_ge xs xs.length
  have g2' := offs_ge ys ys.length
  rw [hlx] at h1 g1'
  rw [hly] at h2 g2'
  unfold MarkedG
  rw [hlx, hly]
  clear hx hb0 b0 hlx hly
  have HP : Hid (∀ e w', (e = .returned (.int .i64 (k + offs xs n + offs ys m)) ∧ ∃ w1, Below w.heap.size w w1 ∧ Touch lo hi w1 w') → MarkedP lo hi w xs ys k n m e w') := Lib.hid (fun _ _ h => h)
  suffices h : Calls Try.prog 37 #[.agg #[.slice (some ⟨g1, 0, none⟩) n n, .slice (some ⟨g2, 0, none⟩) m m], .int .i64 k] w (MarkedP lo hi w xs ys k n m) from h
  go_enter Try.func37, Try.ntmps37
  go_wp2_with fail
  generalize w.alloc (.cells #[.slice (some ⟨g1, 0, none⟩) n n, .slice (some ⟨g2, 0, none⟩) m m] 29) = W1 at *
  have HC := Lib.hid (markIntSS_any lo mid g1 _ n n xs k W1 HX.out.rx h0 (by omega))
  refine HC.out.mono ?_
  rintro e w1 ⟨rfl, _, hT⟩
  have hk1 := blk_touch HK.out hT (.inr (by omega))
  have c1 := blk_cell hk1 (i := 1) (v := .slice (some ⟨g2, 0, none⟩) m m) rfl
  have HC2 := Lib.hid (markIntSS_any mid hi g2 _ m m ys (k + offs xs n) w1 (HX.out.ry.touch hT (.inr (Nat.le_refl _))) (by omega) (by omega))
  have HT := Lib.hid hT
  clear hT HC
  go_wp2_with fail
  refine HC2.out.mono ?_
  rintro e w2 ⟨rfl, _, hT2⟩
  have HT2 := Lib.hid hT2
  clear hT2 HC2 c1
  go_wp2
  go_ret
  exact HP.out _ _ ⟨rfl, _, HB.out, (HT.out.mono (Nat.le_refl _) hm2).trans (HT2.out.mono hm1 (Nat.le_refl _))⟩

theorem offs_le {xss : List (List Int)} (h : ∀ r ∈ xss, r.length ≤ 3) : ∀ k, k ≤ xss.length → offs xss k ≤ 3 * k
  | 0, _ => by simp [offs]
  | k + 1, hk => by
    have h1 := offs_le h k (by omega)
    have h2 := h _ (gr_mem (xs := xss) (k := k) (by omega))
    simp only [offs]
    omega

/-- What an exact law on a game with rows as its result knows: its argument, the program's own copy of it, the model's rows, the program's rows. -/
structure Ex (w : World) (A B : Option Addr) (n c m d : Nat) (xs ys : List (List Int)) (lo mid hi g g3 g4 S1 gs : Nat) (As : Option Addr) (cs L1 L2 gg : Nat) (Ag : Option Addr) (cg : Nat) (rs rg : List (List Int)) (W : World) : Prop where
  fg : GS w W A B n c m d xs ys
  fx : XS lo mid hi W g g3 g4 n m xs ys
  fs : OwnR S1 lo W gs As rs.length cs rs
  fr : OwnR L1 L2 W gg Ag rs.length cg rg
  h1 : w.heap.size < lo
  h2 : hi ≤ L1
  h3 : lo ≤ hi
theorem Ex.up {w A B n c m d xs ys lo mid hi g g3 g4 S1 gs As cs L1 L2 gg Ag cg rs rg W W'} (h : Ex w A B n c m d xs ys lo mid hi g g3 g4 S1 gs As cs L1 L2 gg Ag cg rs rg W) (k : Below W.heap.size W W') :
    Ex w A B n c m d xs ys lo mid hi g g3 g4 S1 gs As cs L1 L2 gg Ag cg rs rg W' :=
  ⟨h.fg.up k, h.fx.up k, h.fs.below k, h.fr.below k, h.h1, h.h2, h.h3⟩
theorem Ex.cells {w A B n c m d xs ys lo mid hi g g3 g4 S1 gs As cs L1 L2 gg Ag cg rs rg W} (h : Ex w A B n c m d xs ys lo mid hi g g3 g4 S1 gs As cs L1 L2 gg Ag cg rs rg W) :
    (W.cell? ⟨w.heap.size, 0, none⟩ = some (.slice A n c) ∧ W.cell? ⟨w.heap.size, 1, none⟩ = some (.slice B m d)) ∧ (W.cell? ⟨g, 0, none⟩ = some (.slice (some ⟨g3, 0, none⟩) n n) ∧ W.cell? ⟨g, 1, none⟩ = some (.slice (some ⟨g4, 0, none⟩) m m)) :=
  ⟨⟨h.fg.c0, h.fg.c1⟩, ⟨h.fx.c0, h.fx.c1⟩⟩
/-- .. behind the marks: the copy is no longer asked for. -/
structure Ey (w : World) (A B : Option Addr) (n c m d : Nat) (xs ys : List (List Int)) (lo S1 gs : Nat) (As : Option Addr) (cs L1 L2 gg : Nat) (Ag : Option Addr) (cg : Nat) (rs rg : List (List Int)) (W : World) : Prop where
  fg : GS w W A B n c m d xs ys
  fs : OwnR S1 lo W gs As rs.length cs rs
  fr : OwnR L1 L2 W gg Ag rs.length cg rg
  h1 : w.heap.size < lo
  h2 : lo ≤ L1
theorem Ey.up {w A B n c m d xs ys lo S1 gs As cs L1 L2 gg Ag cg rs rg W W'} (h : Ey w A B n c m d xs ys lo S1 gs As cs L1 L2 gg Ag cg rs rg W) (k : Below W.heap.size W W') : Ey w A B n c m d xs ys lo S1 gs As cs L1 L2 gg Ag cg rs rg W' :=
  ⟨h.fg.up k, h.fs.below k, h.fr.below k, h.h1, h.h2⟩
theorem Ex.mark {w A B n c m d xs ys lo mid hi g g3 g4 S1 gs As cs L1 L2 gg Ag cg rs rg W W1 W2} (h : Ex w A B n c m d xs ys lo mid hi g g3 g4 S1 gs As cs L1 L2 gg Ag cg rs rg W) (k : Below W.heap.size W W1) (t : Touch lo hi W1 W2) :
    Ey w A B n c m d xs ys lo S1 gs As cs L1 L2 gg Ag cg rs rg W2 :=
  ⟨(h.fg.up k).touch t h.h1, (h.fs.below k).touch t (.inl (Nat.le_refl _)), (h.fr.below k).touch t (.inr h.h2), h.h1, Nat.le_trans h.h3 h.h2⟩
theorem Ey.mark {w A B n c m d xs ys lo S1 gs As cs L1 L2 gg Ag cg rs rg rg' W W2} (h : Ey w A B n c m d xs ys lo S1 gs As cs L1 L2 gg Ag cg rs rg W) (t : Touch L1 L2 W W2) (hg : OwnR L1 L2 W2 gg Ag rs.length cg rg') :
    Ey w A B n c m d xs ys lo S1 gs As cs L1 L2 gg Ag cg rs rg' W2 :=
  ⟨h.fg.touch t (Nat.lt_of_lt_of_le h.h1 h.h2), h.fs.touch t (.inl h.h2), hg, h.h1, h.h2⟩
end Go.Proofs.Ytnonbefeomnbpaa

/- What is left over, by the model. -/
namespace Go.Proofs.Ytnonbefeomnbpaa
open Go.RowKit

/-- Two new slices of ints. -/
def NewII (w : World) (xs ys : List Int) (e : Ending) (w' : World) : Prop :=
  ∃ A n c g B m d h, e = .returned (.tuple #[.slice A n c, .slice B m d]) ∧ n = xs.length ∧ m = ys.length ∧ OwnI w.heap.size w'.heap.size w' g A n c xs ∧ OwnI w.heap.size w'.heap.size w' h B m d ys ∧ Below w.heap.size w w'
/-- What LeftOver answers: what is left where a round leaves out nothing more. -/
def LeftO (xs ys : List (List Int)) (w : World) (e : Ending) (w' : World) : Prop :=
  (¬ VG xs ys ∧ NewII w [] [] e w') ∨ VG xs ys ∧ ∃ k, SameS xs.length (gr xs 0).length (loIt xs (flip ys xs.length (gr xs 0).length) xs.length (gr xs 0).length (k + 1)) (loIt xs (flip ys xs.length (gr xs 0).length) xs.length (gr xs 0).length k) ∧
    NewII w (selL (loIt xs (flip ys xs.length (gr xs 0).length) xs.length (gr xs 0).length k).1 xs.length) (selL (loIt xs (flip ys xs.length (gr xs 0).length) xs.length (gr xs 0).length k).2 (gr xs 0).length) e w'
/-- A list of chosen numbers, in memory of its own. -/
structure SelO (lo : Nat) (w : World) (f : Nat → Bool) (N : Nat) (A : Option Addr) (n c g : Nat) : Prop where
  own : OwnI lo w.heap.size w g A n c (selL f N)
  len : n = (selL f N).length
theorem SelO.up {lo w w' f N A n c g} (h : SelO lo w f N A n c g) (k : Below w.heap.size w w') : SelO lo w' f N A n c g := ⟨(h.own.below k).mono (Nat.le_refl _) k.size, h.len⟩
theorem SelO.new {w0 w w' : World} {f N e} (h0 : w0.heap.size ≤ w.heap.size) (h : NewI w (selL f N) e w') : ∃ A n c g, e = .returned (.slice A n c) ∧ SelO w0.heap.size w' f N A n c g ∧ Below w.heap.size w w' := by
  obtain ⟨A, n, c, g, e1, e2, ho, hb⟩ := h
  exact ⟨A, n, c, g, e1, ⟨ho.mono h0 (Nat.le_refl _), e2⟩, hb⟩
theorem SelO.le {lo w f N A n c g} (h : SelO lo w f N A n c g) : n ≤ N := by rw [h.len]; exact selL_len f N
theorem SelO.bd {lo w f N A n c g} (h : SelO lo w f N A n c g) : ∀ x, x < n → 0 ≤ gi (selL f N) x ∧ gi (selL f N) x < N := fun x hx => selL_bd (by rw [← h.len]; exact hx)
theorem gr_flip0 {a : List (List Int)} {n m : Nat} (h : 0 < m) : (gr (flip a n m) 0).length = n := by rw [gr_flip h]; simp

set_option maxRecDepth 100000 in
set_option maxHeartbeats 6400000 in
theorem LeftOver_spec (A B : Option Addr) (n c m d : Nat) (xs ys : List (List Int)) (w : World) (hx : IntRows w A n c xs) (hy : IntRows w B m d ys) :
    Calls Try.prog 42 #[.agg #[.slice A n c, .slice B m d]] w (LeftO xs ys w) := by
  have hb0 := below_alloc w (.cells #[.slice A n c, .slice B m d] 29)
  have b0 := blk_new w 29 #[.slice A n c, .slice B m d]
  have HB := Lib.hid hb0
  have HK := Lib.hid b0
  have HX := Lib.hid (hx.keep (Keep.below hb0))
  have HY := Lib.hid (hy.keep (Keep.below hb0))
  have HX0 := Lib.hid hx
  have HY0 := Lib.hid hy
  clear hx hy hb0 b0
  go_enter Try.func42, Try.ntmps42
  go_wp2_with fail
  generalize w.alloc (.cells #[.slice A n c, .slice B m d] 29) = W1 at *
  have HC := Lib.hid (validGame_any _ _ _ _ _ _ _ _ _ HX.out HY.out)
  by_cases hv : VG xs ys
  · refine ((pb_true hv) ▸ HC.out).mono ?_
    rintro e w1 ⟨rfl, hb⟩
    have hb2 := below_up HB.out hb
    have hk2 := blk_below HK.out hb
    have HYI := Lib.hid (HY.out.keep (Keep.below hb))
    obtain ⟨p, rfl, rfl, rfl, rfl, rfl, rfl, hg⟩ := GV.of HX0.out HY0.out hv
    have HT := Lib.hid (show GT p w w1 w.heap.size xs ys from ⟨hb2, hk2, hg⟩)
    have hn3 := hg.tx.n3
    have hm3 := hg.tx.m3
    have hn1 := hg.tx.n1
    have hm1 := hg.tx.m1
    have HLX := Lib.hid hg.lx
    have HMX := Lib.hid hg.mx
    have HLY := Lib.hid (show ys.length = p.n from HY0.out.len)
    have HMY := Lib.hid (show (gr ys 0).length = p.m by rw [← hv.m, hg.mx])
    have HVG := Lib.hid hv
    have HF := Lib.hid (show VT (flip ys p.n p.m) by have := hv.tb.flip; rw [HLY.out, HMY.out] at this; exact this)
    clear hb hv hb2 hk2 hg HX HY HX0 HY0 HB HK HC
    have c0 := HT.out.c0
    have HU := Lib.hid (upTo_any p.n w1 (by omega))
    go_wp2_with fail
    clear c0
    refine HU.out.mono ?_
    intro e w2 h
    rw [← selL_up] at h
    obtain ⟨A2, n2, c2, g2_, rfl, hs, hb⟩ := SelO.new HT.out.below.size h
    have HS2 := Lib.hid hs
    have HT2 := Lib.hid (HT.out.up hb)
    have HY2 := Lib.hid (HYI.out.keep (Keep.below hb))
    clear h hs hb HU HT HYI
    have c0 := HT2.out.c0
    have r0 := HT2.out.gv.tx.row 0 (by omega)
    simp only [Nat.add_zero] at r0
    have HU := Lib.hid (upTo_any p.m w2 (by omega))
    go_wp2_with fail
    clear c0 r0
    refine HU.out.mono ?_
    intro e w3 h
    rw [← selL_up] at h
    obtain ⟨A3, n3, c3, g3_, rfl, hs, hb⟩ := SelO.new HT2.out.below.size h
    have HS3 := Lib.hid hs
    have HS2b := Lib.hid (HS2.out.up hb)
    have HT3 := Lib.hid (HT2.out.up hb)
    have HY3 := Lib.hid (HY2.out.keep (Keep.below hb))
    clear h hs hb HU HT2 HY2 HS2
    have c1 := HT3.out.c1
    have HU := Lib.hid (turnedS_any (some ⟨p.bb, p.ob, none⟩) p.n p.d p.m ys w3 HY3.out HVG.out.tb.small (by omega) (by have := HVG.out.tb.even; rw [HMY.out] at this; exact this))
    go_wp2_with fail
    clear c1
    refine HU.out.mono ?_
    rintro e w4 ⟨A4, n4, c4, g4, rfl, hn4, ho, hb⟩
    rw [flip_len] at hn4
    subst hn4
    obtain ⟨b4, o4, rb4, ro4, cc4, rfl, ht4⟩ := ho.rows.tab HF.out
    rw [gr_flip0 (by omega)] at ht4
    have HO4 := Lib.hid ht4
    have HS3b := Lib.hid (HS3.out.up hb)
    have HS2c := Lib.hid (HS2b.out.up hb)
    have HT4 := Lib.hid (HT3.out.up hb)
    clear hb HU HT3 HY3 HS2b HS3 ho ht4
    go_wp2
    go_loopw [4, 5] (fun u v wr => ∃ (k : Nat) (A : Option Addr) (n c g : Nat) (B : Option Addr) (m d h : Nat), u = .slice A n c ∧ v = .slice B m d ∧ Hid (SelO w.heap.size wr (loIt xs (flip ys p.n p.m) p.n p.m k).1 p.n A n c g) ∧ Hid (SelO w.heap.size wr (loIt xs (flip ys p.n p.m) p.n p.m k).2 p.m B m d h) ∧ Hid (Below w4.heap.size w4 wr)) (fun u v _ => (match u with | .slice _ k _ => k | _ => 0) + (match v with | .slice _ k _ => k | _ => 0))
    case atStart => exact ⟨0, _, _, _, _, _, _, _, _, rfl, rfl, HS2c, HS3b, Lib.hid (Below.refl _ _)⟩
    case round =>
      clear HS2c HS3b
      obtain ⟨k, A5, n5, c5, g5, A6, n6, c6, g6, rfl, rfl, HS5, HS6, HQ⟩ := hrel
      have HTr := Lib.hid (HT4.out.up HQ.out)
      have HOr := Lib.hid (HO4.out.keep (Keep.below HQ.out))
      have hle5 := HS5.out.le
      have hle6 := HS6.out.le
      obtain ⟨f, hf⟩ : ∃ f, f = (loIt xs (flip ys p.n p.m) p.n p.m k).1 := ⟨_, rfl⟩
      obtain ⟨h, hh⟩ : ∃ h, h = (loIt xs (flip ys p.n p.m) p.n p.m k).2 := ⟨_, rfl⟩
      have HF1 := Lib.hid hf
      have HH1 := Lib.hid hh
      have HN1 := Lib.hid (show (loIt xs (flip ys p.n p.m) p.n p.m (k + 1)).1 = stayF xs f h p.n p.m by rw [hf, hh]; rfl)
      have HN2 := Lib.hid (show (loIt xs (flip ys p.n p.m) p.n p.m (k + 1)).2 = stayF (flip ys p.n p.m) h (stayF xs f h p.n p.m) p.m p.n by rw [hf, hh]; rfl)
      rw [← hf] at HS5
      rw [← hh] at HS6
      clear hf hh
      have c0 := HTr.out.c0
      have HC := Lib.hid (keepRows_any p.ba p.oa p.ra p.pa p.ca p.n p.m p.c xs A5 n5 c5 (selL f p.n) A6 n6 c6 (selL h p.m) wr HTr.out.gv.tx HS5.out.own.ints HS6.out.own.ints HS5.out.bd HS6.out.bd (by omega) (by omega))
      have HE := Lib.hid HS5.out.len
      rw [HE.out, keepL_sel, ← HE.out] at HC
      go_wp2_with fail
      clear c0
      refine HC.out.mono ?_
      intro e w7 hnew
      obtain ⟨A7, n7, c7, g7, rfl, hs, hb⟩ := SelO.new HTr.out.below.size hnew
      have HS7 := Lib.hid hs
      have HS6b := Lib.hid (HS6.out.up hb)
      have HT7 := Lib.hid (HTr.out.up hb)
      have HO7 := Lib.hid (HOr.out.keep (Keep.below hb))
      have HQ7 := Lib.hid (below_up HQ.out hb)
      have hle7 := HS7.out.le
      have HEL5 := Lib.hid HS5.out.len
      clear hnew hs hb HC HTr HOr HQ HS5 HE
      have HC := Lib.hid (keepRows_any b4 o4 rb4 ro4 cc4 p.m p.n c4 (flip ys p.n p.m) A6 n6 c6 (selL h p.m) A7 n7 c7 (selL (stayF xs f h p.n p.m) p.n) w7 HO7.out HS6b.out.own.ints HS7.out.own.ints HS6b.out.bd HS7.out.bd (by omega) (by omega))
      have HE := Lib.hid HS6b.out.len
      rw [HE.out, keepL_sel, ← HE.out] at HC
      go_wp2_with fail
      refine HC.out.mono ?_
      intro e w8 hnew
      obtain ⟨A8, n8, c8, g8, rfl, hs, hb⟩ := SelO.new HT7.out.below.size hnew
      have HS8 := Lib.hid hs
      have HS7b := Lib.hid (HS7.out.up hb)
      have HQ8 := Lib.hid (below_up HQ7.out hb)
      have HB8 := Lib.hid (HT7.out.up hb).below
      have hle8 := HS8.out.le
      have HEL6 := Lib.hid HE.out
      have HEL7 := Lib.hid HS7.out.len
      have HEL8 := Lib.hid HS8.out.len
      clear hnew hs hb HC HT7 HO7 HQ7 HS7 HE HS6b
      have HL := Lib.hid (lo_same (a := xs) (b := flip ys p.n p.m) (n := p.n) (m := p.m) (s := (f, h)))
      have HL2 := Lib.hid (lo_less (a := xs) (b := flip ys p.n p.m) (n := p.n) (m := p.m) (s := (f, h)))
      simp only [loStep] at HL HL2
      rw [← HEL5.out, ← HEL6.out, ← HEL7.out, ← HEL8.out] at HL HL2
      rw [← HN1.out] at HS7b
      rw [← HN2.out] at HS8
      have hsum : ((n7 : Int) + (n8 : Int) == (n5 : Int) + (n6 : Int)) = decide (n7 + n8 = n5 + n6) := by
        rw [Bool.eq_iff_iff, beq_iff_eq, decide_eq_true_iff]; omega
      by_cases he : n7 + n8 = n5 + n6
      · have hd : ((n7 : Int) + (n8 : Int) == (n5 : Int) + (n6 : Int)) = true := by rw [beq_iff_eq]; omega
        have HSM := Lib.hid (HL.out he)
        clear hsum he HL HL2
        go_wp2
        go_ret2
        refine .inr ⟨HVG.out, k + 1, ?_, A7, n7, c7, g7, A8, n8, c8, g8, rfl, ?_, ?_, ?_, ?_, HB8.out⟩
        · rw [HLX.out, HMX.out]
          have h0 : SameS p.n p.m (loIt xs (flip ys p.n p.m) p.n p.m (k + 1)) (loIt xs (flip ys p.n p.m) p.n p.m k) := by
            refine ⟨fun i hi => ?_, fun j hj => ?_⟩
            · rw [HN1.out, ← HF1.out]; exact HSM.out.1 i hi
            · rw [HN2.out, ← HH1.out]; exact HSM.out.2 j hj
          exact loStep_congr h0
        · rw [HLX.out, HMX.out]; exact HS7b.out.len
        · rw [HLX.out, HMX.out]; exact HS8.out.len
        · rw [HLX.out, HMX.out]; exact HS7b.out.own
        · rw [HLX.out, HMX.out]; exact HS8.out.own
      · have hd : ((n7 : Int) + (n8 : Int) == (n5 : Int) + (n6 : Int)) = false := by rw [beq_eq_false_iff_ne]; omega
        have hlt := HL2.out he
        clear hsum HL HL2
        go_wp2
        go_roundw
        case rel => exact ⟨k + 1, A7, n7, c7, g7, A8, n8, c8, g8, rfl, rfl, HS7b, HS8, HQ8⟩
        case measure => simpa using hlt
  · refine ((pb_false hv) ▸ HC.out).mono ?_
    rintro e w1 ⟨rfl, hb⟩
    have HB2 := Lib.hid (below_up HB.out hb)
    have HVG := Lib.hid hv
    clear hb hv HX HY HX0 HY0 HB HK HC
    go_wp2
    go_ret2
    exact .inl ⟨HVG.out, none, 0, 0, 0, none, 0, 0, 0, rfl, rfl, rfl, OwnI.nil _ _ _ _, OwnI.nil _ _ _ _, HB2.out⟩
end Go.Proofs.Ytnonbefeomnbpaa

/- A region that ends in one frame but for some slots, whatever the order: walked on once. -/
namespace Go.Proofs.Ytnonbefeomnbpaa
open Go.RowKit

/-- A frame with other values in some slots. -/
def frmL (a : Act) : List Nat → List Value → Act
  | d :: ds, u :: us => frmL (a.put (some d) u) ds us
  | _, _ => a
/-- At the end of a region: the frame but for some slots, and F of these and of the world. -/
def PutQ (a : Act) (ds : List Nat) (F : List Value → World → Prop) : Exit → Act → World → Prop
  | .normal, b, v => ∃ us, b = frmL a ds us ∧ F us v
  | _, _, _ => False
theorem PutQ.mk {a b : Act} {ds : List Nat} {F : List Value → World → Prop} {v : World} (us : List Value) (h : b = frmL a ds us) (f : F us v) : PutQ a ds F .normal b v := ⟨us, h, f⟩
theorem region_put {P : Program} {c : Code} {Q : Exit → Act → World → Prop} {a : Act} {w : World} (ds : List Nat) (F : List Value → World → Prop) (h : c.wp P (PutQ a ds F) a w) (k : ∀ us v, F us v → Q .normal (frmL a ds us) v) : c.wp P Q a w :=
  Code.wp_mono (fun e b v h => by
    cases e <;> first | exact (h : False).elim | (obtain ⟨us, rfl, hf⟩ := (h : ∃ us, b = frmL a ds us ∧ F us v); exact k us v hf)) h
end Go.Proofs.Ytnonbefeomnbpaa

/- A region that draws its order, by an invariant: each operation is run once, whatever has come up before it. -/
namespace Go.Proofs.Ytnonbefeomnbpaa
open Go.RowKit

/-- Operation j has come up. -/
def On (L : Array Bool) (j : Nat) : Prop := L.getD j false = true
theorem On.of_set {L : Array Bool} {i j : Nat} (h : On (L.setIfInBounds i true) j) (hne : i ≠ j) : On L j := by
  unfold On at *; rwa [getD_set_ne false hne] at h
theorem On.old {L : Array Bool} {i j : Nat} (h : On L j) : On (L.setIfInBounds i true) j := by
  unfold On at *; exact getD_set_true h
theorem On.not_start {n j : Nat} (h : On (Array.replicate n false) j) : False := by
  unfold On at h
  rcases Nat.lt_or_ge j n with h' | h'
  · simp [h'] at h
  · simp [h'] at h
/-- What an operation waits for. -/
def waitsOn (ops : Array Oper) (i : Nat) : List Nat :=
  match ops[i]? with
  | some o => (o.after.toList.filter (Region.binds .any)).map (·.on)
  | none => []
def earlierB (ops : Array Oper) : Bool := (List.range ops.size).all fun i => (waitsOn ops i).all fun j => decide (j < i)
theorem mem_waits {ops : Array Oper} {i : Nat} {o : Oper} (ho : ops[i]? = some o) {e : Edge} (he : e ∈ o.after) (hb : Region.binds .any e = true) : e.on ∈ waitsOn ops i := by
  unfold waitsOn; rw [ho]; exact List.mem_map.2 ⟨e, List.mem_filter.2 ⟨by simpa using he, hb⟩, rfl⟩
theorem waits_mem {ops : Array Oper} {i j : Nat} {o : Oper} (ho : ops[i]? = some o) (h : j ∈ waitsOn ops i) : ∃ e ∈ o.after, Region.binds .any e = true ∧ e.on = j := by
  unfold waitsOn at h; rw [ho] at h
  obtain ⟨e, he, hj⟩ := List.mem_map.1 h
  obtain ⟨h1, h2⟩ := List.mem_filter.1 he
  exact ⟨e, by simpa using h1, h2, hj⟩

section
variable {P : Program} {ops : Array Oper} {Q : Exit → Act → World → Prop} {I : Array Bool → Act → World → Prop}
/-- The operation i, run in whatever state the invariant allows. -/
def StepI (P : Program) (ops : Array Oper) (Q : Exit → Act → World → Prop) (I : Array Bool → Act → World → Prop) (i : Nat) : Prop :=
  ∀ L a w, I L a w → ¬ On L i → On (L.setIfInBounds i true) i → (∀ j ∈ waitsOn ops i, On L j) → wpOp P ops Q i (fun a' w' => I (L.setIfInBounds i true) a' w') a w
def StepsI (P : Program) (ops : Array Oper) (Q : Exit → Act → World → Prop) (I : Array Bool → Act → World → Prop) (rs : List Nat) : Prop := ∀ i ∈ rs, StepI P ops Q I i
theorem StepsI.nil : StepsI P ops Q I [] := fun _ h => by cases h
theorem StepsI.cons {i : Nat} {o : Oper} {ws rs : List Nat} (ho : ops[i]? = some o) (hw : waitsOn ops i = ws)
    (h : ∀ L a w, I L a w → ¬ On L i → On (L.setIfInBounds i true) i → (∀ j ∈ ws, On L j) → ∀ K' : Act → World → Prop, Shut (∀ a w, I (L.setIfInBounds i true) a w → K' a w) → if Region.wanted o (yielded ops a.tmps) = true then Oper.wp P o a w K' Q else K' (a.put o.dst undef) w)
    (hs : StepsI P ops Q I rs) : StepsI P ops Q I (i :: rs) := fun j hj => by
  rcases List.mem_cons.1 hj with rfl | hj
  · intro L a w hI hn hi hL
    rw [hw] at hL
    exact wpOp_step ho (fun K' hK => h L a w hI hn hi hL K' hK)
  · exact hs j hj

theorem wpAny_inv (hs : ∀ i, i < ops.size → StepI P ops Q I i) (he : earlierB ops = true) (hend : ∀ L a w, (∀ i, i < ops.size → On L i) → I L a w → Q .normal a w) :
    ∀ (fuel : Nat) (L : Array Bool) (a : Act) (w : World), L.size = ops.size → L.toList.countP (fun b => !b) ≤ fuel → I L a w → wpAny P .any ops Q fuel L a w := by
  have hall : ∀ L : Array Bool, L.size = ops.size → Region.ready .any ops L = [] → ∀ i, i < ops.size → On L i := by
    intro L hL hr i
    induction i using Nat.strongRecOn with
    | _ i ih =>
      intro hi
      apply Classical.byContradiction
      intro hn
      have ho : ops[i]? = some ops[i] := Array.getElem?_eq_getElem hi
      have hmem : i ∈ Region.ready .any ops L := by
        rw [mem_ready]
        refine ⟨?_, ops[i], ho, fun e hee hb => ?_⟩
        · have hiL : i < L.size := by omega
          unfold On at hn
          simp only [Array.getD_eq_getD_getElem?, Array.getElem?_eq_getElem hiL, Option.getD_some] at hn ⊢
          cases hx : L[i] with
          | true => exact absurd hx hn
          | false => rfl
        · have hm := mem_waits ho hee hb
          have hlt : e.on < i := by
            unfold earlierB at he
            have h1 := List.all_eq_true.1 he i (List.mem_range.2 hi)
            have h2 := List.all_eq_true.1 h1 _ hm
            simpa using h2
          exact ih e.on hlt (by omega)
      rw [hr] at hmem
      cases hmem
  intro fuel
  induction fuel with
  | zero =>
    intro L a w hL hc hI
    have hon : ∀ i, i < ops.size → On L i := fun i hi => by
      have hiL : i < L.size := by omega
      have h0 : L.toList.countP (fun b => !b) = 0 := by omega
      rw [List.countP_eq_zero] at h0
      have := h0 L[i] (by simp)
      unfold On
      simp only [Array.getD_eq_getD_getElem?, Array.getElem?_eq_getElem hiL, Option.getD_some]
      simpa using this
    refine ⟨?_, hend L a w hon hI⟩
    cases hr : Region.ready .any ops L with
    | nil => rfl
    | cons i rs =>
      have hi : i ∈ Region.ready .any ops L := by rw [hr]; simp
      obtain ⟨h0, o, ho, _⟩ := mem_ready.1 hi
      have hlt : i < ops.size := (Array.getElem?_eq_some_iff.1 ho).1
      have h1 := hon i hlt
      have hiL : i < L.size := by omega
      unfold On at h1
      simp only [Array.getD_eq_getD_getElem?, Array.getElem?_eq_getElem hiL, Option.getD_some] at h0 h1
      rw [h0] at h1; cases h1
  | succ fuel ih =>
    intro L a w hL hc hI
    refine ⟨fun hr => hend L a w (hall L hL hr) hI, fun i hi => ?_⟩
    obtain ⟨h0, o, ho, hw⟩ := mem_ready.1 hi
    have hlt : i < ops.size := (Array.getElem?_eq_some_iff.1 ho).1
    have hiL : i < L.size := by omega
    refine wpOp_mono (fun a' w' h => ih _ a' w' (by simpa using hL) ?_ h) (hs i hlt L a w hI ?_ ?_ (fun j hj => ?_))
    · have hb : L[i] = false := by simpa [Array.getD_eq_getD_getElem?, Array.getElem?_eq_getElem hiL] using h0
      rw [Array.toList_setIfInBounds, List.countP_set (by simpa using hiL)]
      have h1 : 0 < L.toList.countP (fun b => !b) := List.countP_pos_iff.2 ⟨L[i], by simp, by simp [hb]⟩
      have h2 : (if (!L.toList[i]'(by simpa using hiL)) = true then 1 else 0) = 1 := by simp [hb]
      have h3 : (if (!true) = true then 1 else 0) = 0 := by simp
      rw [h2, h3]
      omega
    · unfold On
      simp only [Array.getD_eq_getD_getElem?, Array.getElem?_eq_getElem hiL, Option.getD_some] at h0 ⊢
      rw [h0]; decide
    · unfold On
      simp [hiL]
    · obtain ⟨e, he1, he2, rfl⟩ := waits_mem ho hj
      exact hw e he1 he2

theorem wp_region_inv {id : Nat} {a : Act} {w : World} {rs : List Nat} (I : Array Bool → Act → World → Prop) (hm : P.follows .mixedOrders = true) (h0 : I (Array.replicate ops.size false) a w.drew)
    (hr : List.range ops.size = rs) (he : earlierB ops = true) (hs : StepsI P ops Q I rs) (hend : ∀ L a w, (∀ i, i ∈ rs → On L i) → I L a w → Q .normal a w) : (Code.region id ops true).wp P Q a w :=
  wp_region_any hm (wpAny_inv (I := I) (fun i hi => hs i (by rw [← hr]; exact List.mem_range.2 hi)) he (fun L a w h => hend L a w (fun i hi => h i (by rw [← hr] at hi; exact List.mem_range.1 hi))) ops.size _ a _ (by simp)
    (by rw [Array.toList_replicate]; exact Nat.le_trans List.countP_le_length (by simp)) h0)
end
/-- A frame with other values in some slots, and what is known of these and of the world. -/
def FI (a0 : Act) (ds : List Nat) (J : Array Bool → List Value → World → Prop) (L : Array Bool) (a : Act) (w : World) : Prop := ∃ us, a = frmL a0 ds us ∧ J L us w
theorem wp_region_invF {P : Program} {ops : Array Oper} {Q : Exit → Act → World → Prop} {id : Nat} {a : Act} {w : World} {rs : List Nat} (ds : List Nat) (J : Array Bool → List Value → World → Prop) (hm : P.follows .mixedOrders = true)
    (h0 : ∃ us, a = frmL a ds us ∧ J (Array.replicate ops.size false) us w.drew)
    (hr : List.range ops.size = rs) (he : earlierB ops = true) (hs : StepsI P ops Q (FI a ds J) rs) (hend : ∀ L us w, (∀ i, i ∈ rs → On L i) → J L us w → Q .normal (frmL a ds us) w) : (Code.region id ops true).wp P Q a w :=
  wp_region_inv (FI a ds J) hm h0 hr he hs (fun L a' w h ⟨us, e, hJ⟩ => by subst e; exact hend L us w h hJ)
end Go.Proofs.Ytnonbefeomnbpaa

/- What is left over: the program's marks and the sets of LO2. Plain. -/
namespace Go.Proofs.Ytnonbefeomnbpaa

/-- f below n, and nothing behind. -/
def cutF (f : Nat → Bool) (n : Nat) : Nat → Bool := fun i => decide (i < n) && f i
theorem bs3_congr {f g : Nat → Bool} (h : ∀ i, i < 3 → f i = g i) : bs3 f = bs3 g := by unfold bs3; rw [h 0 (by omega), h 1 (by omega), h 2 (by omega)]
theorem cut_all (n : Nat) : bs3 (cutF (fun _ => true) n) = bs3 fun j => decide (j < n) := bs3_congr fun i _ => by simp [cutF]
theorem cut_sel {f : Nat → Bool} {n : Nat} (hn : n ≤ 3) : selL (cutF f n) 3 = selL f n := by
  have : n = 0 ∨ n = 1 ∨ n = 2 ∨ n = 3 := by omega
  rcases this with rfl | rfl | rfl | rfl <;> simp [selL, cutF, List.range_succ, List.filter_cons]
theorem BM_cut {a : List (List Int)} {f h : Nat → Bool} {n m i : Nat} (hn : n ≤ 3) (hm : m ≤ 3) (hi : i < n) (F : Nat → Nat → Int) (hF : ∀ r j, r < n → j < m → F r j = g2 a r j) : BM F (cutF f n) (cutF h m) i 3 ↔ BT a f h n m i := by
  constructor
  · rintro ⟨r, _, hr, hl⟩
    simp only [cutF, Bool.and_eq_true, decide_eq_true_eq] at hr
    exact ⟨r, hr.1, hr.2, fun y hy hh => by have := hl y (by omega) (by simp only [cutF, Bool.and_eq_true, decide_eq_true_eq]; exact ⟨hy, hh⟩); rwa [hF i y hi hy, hF r y hr.1 hy] at this⟩
  · rintro ⟨r, h1, h2, h3⟩
    refine ⟨r, by omega, by simp only [cutF, Bool.and_eq_true, decide_eq_true_eq]; exact ⟨h1, h2⟩, fun y _ hy => ?_⟩
    simp only [cutF, Bool.and_eq_true, decide_eq_true_eq] at hy
    rw [hF i y hi hy.1, hF r y h1 hy.1]
    exact h3 y hy.1 hy.2
theorem st_cut {a : List (List Int)} {f h : Nat → Bool} {n m : Nat} (hn : n ≤ 3) (hm : m ≤ 3) (F : Nat → Nat → Int) (hF : ∀ r j, r < n → j < m → F r j = g2 a r j) : bs3 (stM F (cutF f n) (cutF h m)) = bs3 (cutF (stayF a f h n m) n) := by
  apply bs3_congr
  intro i _
  unfold stM
  by_cases hi : i < n
  · rw [pb_congr (BM_cut (f := f) (h := h) hn hm hi F hF)]
    simp [cutF, stayF, hi]
  · simp [cutF, hi]
theorem cut_same {f g : Nat → Bool} {n : Nat} (hn : n ≤ 3) : bs3 (cutF f n) = bs3 (cutF g n) ↔ ∀ i, i < n → f i = g i := by
  constructor
  · intro e i hi
    have h1 := bs3_get (cutF f n) (show i < 3 by omega)
    have h2 := bs3_get (cutF g n) (show i < 3 by omega)
    rw [e, h2] at h1
    simpa [cutF, hi, eq_comm] using h1
  · intro h
    apply bs3_congr
    intro i _
    by_cases hi : i < n
    · simp [cutF, hi, h i hi]
    · simp [cutF, hi]
end Go.Proofs.Ytnonbefeomnbpaa

/- LeftOver, by the program. -/
namespace Go.Proofs.Ytnonbefeomnbpaa
open Go.RowKit

structure R4 (p : GP) (w0 : World) (xs ys : List (List Int)) (f1 f2 : Nat → Nat → Int) (q4 q5 : Nat) (L : Array Bool) (u20 u21 u22 u23 u24 u25 u26 u27 u28 u29 u6 u7 : Value) (q6 : Nat) (q7 : Nat) (g6 : Nat → Bool) (g7 : Nat → Bool) (W : World) : Prop where
  gt : GT p w0 W w0.heap.size xs ys
  k4 : Blk W q4 65 (cs9 f1)
  k5 : Blk W q5 65 (cs9 f2)
  h0 : On L 0 → u20 = .pointer (some ⟨w0.heap.size, 0, none⟩)
  h1 : On L 1 → u21 = .slice (some ⟨p.ba, p.oa, none⟩) p.n p.c
  h2 : On L 2 → u22 = .int .i64 p.n
  h3 : On L 3 → u23 = .agg (bs3 fun j => decide (j < p.n))
  h4 : On L 4 → u24 = .pointer (some ⟨w0.heap.size, 0, none⟩)
  h5 : On L 5 → u25 = .slice (some ⟨p.ba, p.oa, none⟩) p.n p.c
  h6 : On L 6 → u26 = .pointer (some ⟨p.ba, p.oa, none⟩)
  h7 : On L 7 → u27 = .slice (some ⟨p.ra 0, p.pa 0, none⟩) p.m (p.ca 0)
  h8 : On L 8 → u28 = .int .i64 p.m
  h9 : On L 9 → u29 = .agg (bs3 fun j => decide (j < p.m))
  h10 : On L 10 → u6 = .pointer (some ⟨q6, 0, none⟩) ∧ w0.heap.size < q6 ∧ q4 ≠ q6 ∧ q5 ≠ q6 ∧ Blk W q6 68 (bs3 g6)
  h11 : On L 11 → u7 = .pointer (some ⟨q7, 0, none⟩) ∧ w0.heap.size < q7 ∧ q4 ≠ q7 ∧ q5 ≠ q7 ∧ Blk W q7 68 (bs3 g7)
  hne : On L 10 → On L 11 → q6 ≠ q7
  h12 : On L 12 → On L 10 ∧ Blk W q6 68 (bs3 fun j => decide (j < p.n))
  h13 : On L 13 → On L 11 ∧ Blk W q7 68 (bs3 fun j => decide (j < p.m))
theorem R4.up {p w0 xs ys f1 f2 q4 q5 L u20 u21 u22 u23 u24 u25 u26 u27 u28 u29 u6 u7 q6 q7 g6 g7 W W'} (Hy : R4 p w0 xs ys f1 f2 q4 q5 L u20 u21 u22 u23 u24 u25 u26 u27 u28 u29 u6 u7 q6 q7 g6 g7 W) (k : Below W.heap.size W W') : R4 p w0 xs ys f1 f2 q4 q5 L u20 u21 u22 u23 u24 u25 u26 u27 u28 u29 u6 u7 q6 q7 g6 g7 W' :=
  ⟨Hy.gt.up k, blk_below Hy.k4 k, blk_below Hy.k5 k, Hy.h0, Hy.h1, Hy.h2, Hy.h3, Hy.h4, Hy.h5, Hy.h6, Hy.h7, Hy.h8, Hy.h9, fun o => let ⟨a, b, c, d, r⟩ := (Hy.h10 o); ⟨a, b, c, d, blk_below r k⟩, fun o => let ⟨a, b, c, d, r⟩ := (Hy.h11 o); ⟨a, b, c, d, blk_below r k⟩, Hy.hne, fun o => (Hy.h12 o).imp id (fun r => blk_below r k), fun o => (Hy.h13 o).imp id (fun r => blk_below r k)⟩
structure R8 (w0 : World) (q6 q7 : Nat) (f h : Nat → Bool) (L : Array Bool) (u46 u47 u48 u49 u2 u3 : Value) (A1 : Option Addr) (n1 : Nat) (c1 : Nat) (g1 : Nat) (A2 : Option Addr) (n2 : Nat) (c2 : Nat) (g2 : Nat) (W : World) : Prop where
  bl : Below w0.heap.size w0 W
  k6 : Blk W q6 68 (bs3 f)
  k7 : Blk W q7 68 (bs3 h)
  h0 : On L 0 → u46 = .agg (bs3 f)
  h1 : On L 1 → u47 = .slice A1 n1 c1 ∧ SelO w0.heap.size W f 3 A1 n1 c1 g1
  h2 : On L 2 → u48 = .agg (bs3 h)
  h3 : On L 3 → u49 = .slice A2 n2 c2 ∧ SelO w0.heap.size W h 3 A2 n2 c2 g2
  hd : On L 3 → On L 1 ∧ (0 < n1 → 0 < n2 → g1 ≠ g2)
  h4 : On L 4 → On L 1 ∧ u2 = .slice A1 n1 c1
  h5 : On L 5 → On L 3 ∧ u3 = .slice A2 n2 c2
theorem R8.up {w0 q6 q7 f h L u46 u47 u48 u49 u2 u3 A1 n1 c1 g1 A2 n2 c2 g2 W W'} (Hy : R8 w0 q6 q7 f h L u46 u47 u48 u49 u2 u3 A1 n1 c1 g1 A2 n2 c2 g2 W) (k : Below W.heap.size W W') : R8 w0 q6 q7 f h L u46 u47 u48 u49 u2 u3 A1 n1 c1 g1 A2 n2 c2 g2 W' :=
  ⟨below_up Hy.bl k, blk_below Hy.k6 k, blk_below Hy.k7 k, Hy.h0, fun o => (Hy.h1 o).imp id (fun r => r.up k), Hy.h2, fun o => (Hy.h3 o).imp id (fun r => r.up k), Hy.hd, Hy.h4, Hy.h5⟩
structure R9 (w0 : World) (q4 q5 q6 q7 q8 q9 : Nat) (F1 F2 : Nat → Nat → Int) (f' h' : Nat → Bool) (L : Array Bool) (u50 u51 : Value) (g6 : Nat → Bool) (g7 : Nat → Bool) (W : World) : Prop where
  bl : Below w0.heap.size w0 W
  k4 : Blk W q4 65 (cs9 F1)
  k5 : Blk W q5 65 (cs9 F2)
  k6 : Blk W q6 68 (bs3 g6)
  k7 : Blk W q7 68 (bs3 g7)
  k8 : Blk W q8 68 (bs3 f')
  k9 : Blk W q9 68 (bs3 h')
  h0 : On L 0 → u50 = .agg (bs3 f')
  h1 : On L 1 → u51 = .agg (bs3 h')
  h2 : On L 2 → Blk W q6 68 (bs3 f')
  h3 : On L 3 → Blk W q7 68 (bs3 h')
theorem R9.up {w0 q4 q5 q6 q7 q8 q9 F1 F2 f' h' L u50 u51 g6 g7 W W'} (Hy : R9 w0 q4 q5 q6 q7 q8 q9 F1 F2 f' h' L u50 u51 g6 g7 W) (k : Below W.heap.size W W') : R9 w0 q4 q5 q6 q7 q8 q9 F1 F2 f' h' L u50 u51 g6 g7 W' :=
  ⟨below_up Hy.bl k, blk_below Hy.k4 k, blk_below Hy.k5 k, blk_below Hy.k6 k, blk_below Hy.k7 k, blk_below Hy.k8 k, blk_below Hy.k9 k, Hy.h0, Hy.h1, fun o => blk_below (Hy.h2 o) k, fun o => blk_below (Hy.h3 o) k⟩
/-- Two new slices of ints, apart. -/
def NewIX (w : World) (xs ys : List Int) (e : Ending) (w' : World) : Prop :=
  ∃ A n c g B m d h, e = .returned (.tuple #[.slice A n c, .slice B m d]) ∧ n = xs.length ∧ m = ys.length ∧ OwnI w.heap.size w'.heap.size w' g A n c xs ∧ OwnI w.heap.size w'.heap.size w' h B m d ys ∧ Below w.heap.size w w' ∧ (0 < n → 0 < m → g ≠ h)
/-- What LeftOver answers, in memory that is apart. -/
def LeftX (xs ys : List (List Int)) (w : World) (e : Ending) (w' : World) : Prop :=
  (¬ VG xs ys ∧ NewIX w [] [] e w') ∨ VG xs ys ∧ ∃ k, SameS xs.length (gr xs 0).length (loIt xs (flip ys xs.length (gr xs 0).length) xs.length (gr xs 0).length (k + 1)) (loIt xs (flip ys xs.length (gr xs 0).length) xs.length (gr xs 0).length k) ∧
    NewIX w (selL (loIt xs (flip ys xs.length (gr xs 0).length) xs.length (gr xs 0).length k).1 xs.length) (selL (loIt xs (flip ys xs.length (gr xs 0).length) xs.length (gr xs 0).length k).2 (gr xs 0).length) e w'
/-- The lists that are left over. -/
def LoIs (xs ys : List (List Int)) (R C : List Int) : Prop :=
  (¬ VG xs ys ∧ R = [] ∧ C = []) ∨ VG xs ys ∧ ∃ k, SameS xs.length (gr xs 0).length (loIt xs (flip ys xs.length (gr xs 0).length) xs.length (gr xs 0).length (k + 1)) (loIt xs (flip ys xs.length (gr xs 0).length) xs.length (gr xs 0).length k) ∧
    R = selL (loIt xs (flip ys xs.length (gr xs 0).length) xs.length (gr xs 0).length k).1 xs.length ∧ C = selL (loIt xs (flip ys xs.length (gr xs 0).length) xs.length (gr xs 0).length k).2 (gr xs 0).length
theorem LeftX.lists {xs ys w e w'} (h : LeftX xs ys w e w') : ∃ R C, LoIs xs ys R C ∧ NewIX w R C e w' := by
  rcases h with ⟨hv, hn⟩ | ⟨hv, k, hs, hn⟩
  · exact ⟨_, _, .inl ⟨hv, rfl, rfl⟩, hn⟩
  · exact ⟨_, _, .inr ⟨hv, k, hs, rfl, rfl⟩, hn⟩
theorem LeftO.lists {xs ys w e w'} (h : LeftO xs ys w e w') : ∃ R C, LoIs xs ys R C ∧ NewII w R C e w' := by
  rcases h with ⟨hv, hn⟩ | ⟨hv, k, hs, hn⟩
  · exact ⟨_, _, .inl ⟨hv, rfl, rfl⟩, hn⟩
  · exact ⟨_, _, .inr ⟨hv, k, hs, rfl, rfl⟩, hn⟩
theorem LoIs.one {xs ys R C R' C'} (h' : LoIs xs ys R' C') (h : LoIs xs ys R C) : R' = R ∧ C' = C := by
  rcases h with ⟨hv, rfl, rfl⟩ | ⟨hv, k, hs, rfl, rfl⟩
  · rcases h' with ⟨_, rfl, rfl⟩ | ⟨hv', _⟩
    · exact ⟨rfl, rfl⟩
    · exact absurd hv' hv
  · rcases h' with ⟨hv', _⟩ | ⟨_, l, hs', rfl, rfl⟩
    · exact absurd hv hv'
    · have e := loIt_one hs' hs
      exact ⟨selL_congr e.1, selL_congr e.2⟩
theorem LoIs.le {xs ys R C} (h : LoIs xs ys R C) : R.length ≤ 3 ∧ C.length ≤ 3 := by
  rcases h with ⟨_, rfl, rfl⟩ | ⟨hv, k, _, rfl, rfl⟩
  · simp
  · have h1 := selL_len (loIt xs (flip ys xs.length (gr xs 0).length) xs.length (gr xs 0).length k).1 xs.length
    have h2 := selL_len (loIt xs (flip ys xs.length (gr xs 0).length) xs.length (gr xs 0).length k).2 (gr xs 0).length
    have h3 := hv.ta.n3
    have h4 := hv.ta.m3
    omega
/-- The round k of leaving out: the tables and the marks. -/
structure LS (w : World) (xs ys : List (List Int)) (n m : Nat) (F1 F2 : Nat → Nat → Int) (q4 q5 q6 q7 k : Nat) (W : World) : Prop where
  up : Below w.heap.size w W
  k4 : Blk W q4 65 (cs9 F1)
  k5 : Blk W q5 65 (cs9 F2)
  k6 : Blk W q6 68 (bs3 (cutF (loIt xs (flip ys n m) n m k).1 n))
  k7 : Blk W q7 68 (bs3 (cutF (loIt xs (flip ys n m) n m k).2 m))
theorem LS.next {w xs ys n m F1 F2 q4 q5 q6 q7 k W W'} (h : LS w xs ys n m F1 F2 q4 q5 q6 q7 k W) (b : Below W.heap.size W W') : LS w xs ys n m F1 F2 q4 q5 q6 q7 k W' :=
  ⟨below_up h.up b, blk_below h.k4 b, blk_below h.k5 b, blk_below h.k6 b, blk_below h.k7 b⟩
/-- How many of three marks are set. -/
def tB (v : Option Value) : Nat := match v with | some (.bool true) => 1 | _ => 0
def mB (W : World) (q : Nat) : Nat := tB (W.cell? ⟨q, 0, none⟩) + tB (W.cell? ⟨q, 1, none⟩) + tB (W.cell? ⟨q, 2, none⟩)
theorem tB_bool (b : Bool) : tB (some (.bool b)) = b.toNat := by cases b <;> rfl
theorem mB_blk {W q t f} (h : Blk W q t (bs3 f)) : mB W q = (selL f 3).length := by
  have c0 := blk_cell h (i := 0) (v := .bool (f 0)) rfl
  have c1 := blk_cell h (i := 1) (v := .bool (f 1)) rfl
  have c2 := blk_cell h (i := 2) (v := .bool (f 2)) rfl
  unfold mB
  rw [c0, c1, c2, tB_bool, tB_bool, tB_bool]
  have e : (selL f 3).length = ((List.range 3).filter f).length := by simp [selL]
  rw [e]
  simp only [List.range_succ, List.range_zero, List.nil_append, List.filter_append, List.filter_cons, List.filter_nil, List.length_append]
  cases f 0 <;> cases f 1 <;> cases f 2 <;> rfl
theorem cut3 {f g : Nat → Bool} {n : Nat} (hn : n ≤ 3) (h0 : cutF f n 0 = cutF g n 0) (h1 : cutF f n 1 = cutF g n 1) (h2 : cutF f n 2 = cutF g n 2) (i : Nat) (hi : i < n) : f i = g i := by
  have : i = 0 ∨ i = 1 ∨ i = 2 := by omega
  rcases this with rfl | rfl | rfl
  · simpa [cutF, hi] using h0
  · simpa [cutF, hi] using h1
  · simpa [cutF, hi] using h2
theorem cut3' {f g : Nat → Bool} {n : Nat} (h : ∀ i, i < n → f i = g i) : cutF f n 0 = cutF g n 0 ∧ cutF f n 1 = cutF g n 1 ∧ cutF f n 2 = cutF g n 2 := by
  have e : ∀ i, cutF f n i = cutF g n i := fun i => by
    unfold cutF
    by_cases hi : i < n
    · simp [hi, h i hi]
    · simp [hi]
  exact ⟨e 0, e 1, e 2⟩
theorem eqb_op (f g : Nat → Bool) (w : World) : (binOp .eql 68 (.agg (bs3 f)) (.agg (bs3 g))).run Try.prog w = .ok (.bool (decide (f 0 = g 0 ∧ f 1 = g 1 ∧ f 2 = g 2))) w := by
  unfold bs3
  cases f 0 <;> cases f 1 <;> cases f 2 <;> cases g 0 <;> cases g 1 <;> cases g 2 <;> kernel_rfl
/-- The two tables as arrays under way. -/
structure R3 (p : GP) (w0 : World) (xs ys : List (List Int)) (f1 f2 : Nat → Nat → Int) (L : Array Bool) (u13 u14 u15 u16 u17 u18 u19 u4 u5 : Value) (q4 q5 : Nat) (g4 g5 : Nat → Nat → Int) (W : World) : Prop where
  gt : GT p w0 W w0.heap.size xs ys
  h0 : On L 0 → u13 = .pointer (some ⟨w0.heap.size, 0, none⟩)
  h1 : On L 1 → u14 = .slice (some ⟨p.ba, p.oa, none⟩) p.n p.c
  h2 : On L 2 → u15 = .agg (cs9 f1)
  h3 : On L 3 → u16 = .pointer (some ⟨w0.heap.size, 1, none⟩)
  h4 : On L 4 → u17 = .slice (some ⟨p.bb, p.ob, none⟩) p.n p.d
  h5 : On L 5 → On L 6 ∨ ∃ g, u18 = .slice (some ⟨g, 0, none⟩) p.m p.m ∧ IntRows W (some ⟨g, 0, none⟩) p.m p.m (flip ys p.n p.m)
  h6 : On L 6 → u19 = .agg (cs9 f2)
  h7 : On L 7 → u4 = .pointer (some ⟨q4, 0, none⟩) ∧ w0.heap.size < q4 ∧ Blk W q4 65 (cs9 g4)
  h8 : On L 8 → u5 = .pointer (some ⟨q5, 0, none⟩) ∧ w0.heap.size < q5 ∧ Blk W q5 65 (cs9 g5)
  hne : On L 7 → On L 8 → q4 ≠ q5
  h9 : On L 9 → On L 7 ∧ Blk W q4 65 (cs9 f1)
  h10 : On L 10 → On L 8 ∧ Blk W q5 65 (cs9 f2)
theorem R3.up {p w0 xs ys f1 f2 L u13 u14 u15 u16 u17 u18 u19 u4 u5 q4 q5 g4 g5 W W'} (h : R3 p w0 xs ys f1 f2 L u13 u14 u15 u16 u17 u18 u19 u4 u5 q4 q5 g4 g5 W) (k : Below W.heap.size W W') : R3 p w0 xs ys f1 f2 L u13 u14 u15 u16 u17 u18 u19 u4 u5 q4 q5 g4 g5 W' :=
  ⟨h.gt.up k, h.h0, h.h1, h.h2, h.h3, h.h4, fun o => (h.h5 o).imp id (fun ⟨g, e, r⟩ => ⟨g, e, r.keep (Keep.below k)⟩), h.h6, fun o => let ⟨a, b, r⟩ := h.h7 o; ⟨a, b, blk_below r k⟩, fun o => let ⟨a, b, r⟩ := h.h8 o; ⟨a, b, blk_below r k⟩, h.hne, fun o => (h.h9 o).imp id (fun r => blk_below r k), fun o => (h.h10 o).imp id (fun r => blk_below r k)⟩
set_option maxRecDepth 100000 in
set_option maxHeartbeats 1600000 in
theorem LeftOver_impl (A B : Option Addr) (n c m d : Nat) (xs ys : List (List Int)) (w : World) (hx : IntRows w A n c xs) (hy : IntRows w B m d ys) :
    Calls Try.prog 43 #[.agg #[.slice A n c, .slice B m d]] w (LeftX xs ys w) := by
  have hb0 := below_alloc w (.cells #[.slice A n c, .slice B m d] 29)
  have b0 := blk_new w 29 #[.slice A n c, .slice B m d]
  have HB := Lib.hid hb0
  have HK := Lib.hid b0
  have HX := Lib.hid (hx.keep (Keep.below hb0))
  have HY := Lib.hid (hy.keep (Keep.below hb0))
  have HX0 := Lib.hid hx
  have HY0 := Lib.hid hy
  have c0 := blk_cell b0 (i := 0) (v := .slice A n c) rfl
  have c1 := blk_cell b0 (i := 1) (v := .slice B m d) rfl
  clear hx hy hb0 b0
  go_enter Try.func43, Try.ntmps43
  go_wp2_with fail
  generalize w.alloc (.cells #[.slice A n c, .slice B m d] 29) = W1 at *
  have HC := Lib.hid (ValidGame_impl _ _ _ _ _ _ _ _ _ HX.out HY.out)
  by_cases hv : VG xs ys
  · refine ((pb_true hv) ▸ HC.out).mono ?_
    rintro e w1 ⟨rfl, hb⟩
    have HV := Lib.hid hv
    have hb2 := below_up HB.out hb
    have hk2 := blk_below HK.out hb
    obtain ⟨p, rfl, rfl, rfl, rfl, rfl, rfl, hg⟩ := GV.of HX0.out HY0.out hv
    have HT := Lib.hid (show GT p w w1 w.heap.size xs ys from ⟨hb2, hk2, hg⟩)
    have HF := Lib.hid (show VT (flip ys p.n p.m) by have := hv.tb.flip; rw [show ys.length = p.n from HY0.out.len, show (gr ys 0).length = p.m by rw [← hv.m, hg.mx]] at this; exact this)
    have HFM := Lib.hid (show (gr (flip ys p.n p.m) 0).length = p.n from gr_flip0 hg.tx.m1)
    clear hb hv hb2 hk2 hg HX HY HX0 HY0 HB HK HC c0 c1
    go_wp2
    refine wp_region_invF (rs := [0, 1, 2, 3, 4, 5, 6, 7, 8, 9, 10]) [13, 14, 15, 16, 17, 18, 19, 4, 5] (fun L us W => ∃ u13 u14 u15 u16 u17 u18 u19 u4 u5 q4 q5 g4 g5, us = [u13, u14, u15, u16, u17, u18, u19, u4, u5] ∧ R3 p w xs ys (full9 xs p.n p.m) (full9 (flip ys p.n p.m) p.m p.n) L u13 u14 u15 u16 u17 u18 u19 u4 u5 q4 q5 g4 g5 W) (by kernel_rfl) ?_ (by kernel_rfl) (by kernel_rfl) ?_ ?_
    · refine ⟨[undef, undef, undef, undef, undef, undef, undef, undef, undef], ?_, undef, undef, undef, undef, undef, undef, undef, undef, undef, 0, 0, fun _ _ => 0, fun _ _ => 0, rfl, ?_⟩
      · simp only [frmL, Act.put, List.setIfInBounds_toArray, List.set_cons_zero, List.set_cons_succ]
      exact ⟨HT.out.qu ⟨1, rfl⟩, fun o => o.not_start.elim, fun o => o.not_start.elim, fun o => o.not_start.elim, fun o => o.not_start.elim, fun o => o.not_start.elim, fun o => o.not_start.elim, fun o => o.not_start.elim, fun o => o.not_start.elim, fun o => o.not_start.elim, fun o _ => o.not_start.elim, fun o => o.not_start.elim, fun o => o.not_start.elim⟩
    · refine StepsI.cons (i := 0) (ws := []) rfl (by kernel_rfl) (fun L a W hI hno hon hw K hK => ?_) ?_
      · obtain ⟨_, rfl, u13, u14, u15, u16, u17, u18, u19, u4, u5, q4, q5, g4, g5, rfl, H⟩ := hI
        simp only [List.getElem_toArray, List.getElem_cons_zero, frmL, Act.put, List.setIfInBounds_toArray, List.set_cons_zero, List.set_cons_succ]
        go_simp
        have HN := H
        refine hK.out _ _ ⟨[.pointer (some ⟨w.heap.size, 0, none⟩), u14, u15, u16, u17, u18, u19, u4, u5], ?_, .pointer (some ⟨w.heap.size, 0, none⟩), u14, u15, u16, u17, u18, u19, u4, u5, q4, q5, g4, g5, rfl, ?_⟩
        · simp only [frmL, Act.put, List.setIfInBounds_toArray, List.set_cons_zero, List.set_cons_succ]
        · exact ⟨HN.gt, fun _ => rfl, fun o => HN.h1 (o.of_set (by decide)), fun o => HN.h2 (o.of_set (by decide)), fun o => HN.h3 (o.of_set (by decide)), fun o => HN.h4 (o.of_set (by decide)), fun o => (HN.h5 (o.of_set (by decide))).imp On.old id, fun o => HN.h6 (o.of_set (by decide)), fun o => HN.h7 (o.of_set (by decide)), fun o => HN.h8 (o.of_set (by decide)), fun o o2 => HN.hne (o.of_set (by decide)) (o2.of_set (by decide)), fun o => (HN.h9 (o.of_set (by decide))).imp On.old id, fun o => (HN.h10 (o.of_set (by decide))).imp On.old id⟩
      refine StepsI.cons (i := 1) (ws := [0]) rfl (by kernel_rfl) (fun L a W hI hno hon hw K hK => ?_) ?_
      · obtain ⟨_, rfl, u13, u14, u15, u16, u17, u18, u19, u4, u5, q4, q5, g4, g5, rfl, H⟩ := hI
        obtain rfl := H.h0 (hw 0 (by simp))
        simp only [List.getElem_toArray, List.getElem_cons_zero, List.getElem_cons_succ, frmL, Act.put, List.setIfInBounds_toArray, List.set_cons_zero, List.set_cons_succ]
        have c0 := blk_cell H.gt.box (i := 0) rfl
        go_simp
        have HN := H
        refine hK.out _ _ ⟨[.pointer (some ⟨w.heap.size, 0, none⟩), .slice (some ⟨p.ba, p.oa, none⟩) p.n p.c, u15, u16, u17, u18, u19, u4, u5], ?_, .pointer (some ⟨w.heap.size, 0, none⟩), .slice (some ⟨p.ba, p.oa, none⟩) p.n p.c, u15, u16, u17, u18, u19, u4, u5, q4, q5, g4, g5, rfl, ?_⟩
        · simp only [frmL, Act.put, List.setIfInBounds_toArray, List.set_cons_zero, List.set_cons_succ]
        · exact ⟨HN.gt, fun o => HN.h0 (o.of_set (by decide)), fun _ => rfl, fun o => HN.h2 (o.of_set (by decide)), fun o => HN.h3 (o.of_set (by decide)), fun o => HN.h4 (o.of_set (by decide)), fun o => (HN.h5 (o.of_set (by decide))).imp On.old id, fun o => HN.h6 (o.of_set (by decide)), fun o => HN.h7 (o.of_set (by decide)), fun o => HN.h8 (o.of_set (by decide)), fun o o2 => HN.hne (o.of_set (by decide)) (o2.of_set (by decide)), fun o => (HN.h9 (o.of_set (by decide))).imp On.old id, fun o => (HN.h10 (o.of_set (by decide))).imp On.old id⟩
      refine StepsI.cons (i := 2) (ws := [1]) rfl (by kernel_rfl) (fun L a W hI hno hon hw K hK => ?_) ?_
      · obtain ⟨_, rfl, u13, u14, u15, u16, u17, u18, u19, u4, u5, q4, q5, g4, g5, rfl, H⟩ := hI
        obtain rfl := H.h1 (hw 1 (by simp))
        simp only [List.getElem_toArray, List.getElem_cons_zero, List.getElem_cons_succ, frmL, Act.put, List.setIfInBounds_toArray, List.set_cons_zero, List.set_cons_succ]
        go_simp
        go_wp2_with (go_at_call 70; (with_reducible refine (cellsOf_any _ _ _ _ _ _ _ _ xs W H.gt.gv.tx).mono ?_); rintro e w9 ⟨rfl, hb⟩)
        have HN := H.up hb
        refine hK.out _ _ ⟨[u13, .slice (some ⟨p.ba, p.oa, none⟩) p.n p.c, .agg (cs9 (full9 xs p.n p.m)), u16, u17, u18, u19, u4, u5], ?_, u13, .slice (some ⟨p.ba, p.oa, none⟩) p.n p.c, .agg (cs9 (full9 xs p.n p.m)), u16, u17, u18, u19, u4, u5, q4, q5, g4, g5, rfl, ?_⟩
        · simp only [frmL, Act.put, List.setIfInBounds_toArray, List.set_cons_zero, List.set_cons_succ]
        · exact ⟨HN.gt, fun o => HN.h0 (o.of_set (by decide)), fun o => HN.h1 (o.of_set (by decide)), fun _ => rfl, fun o => HN.h3 (o.of_set (by decide)), fun o => HN.h4 (o.of_set (by decide)), fun o => (HN.h5 (o.of_set (by decide))).imp On.old id, fun o => HN.h6 (o.of_set (by decide)), fun o => HN.h7 (o.of_set (by decide)), fun o => HN.h8 (o.of_set (by decide)), fun o o2 => HN.hne (o.of_set (by decide)) (o2.of_set (by decide)), fun o => (HN.h9 (o.of_set (by decide))).imp On.old id, fun o => (HN.h10 (o.of_set (by decide))).imp On.old id⟩
      refine StepsI.cons (i := 3) (ws := []) rfl (by kernel_rfl) (fun L a W hI hno hon hw K hK => ?_) ?_
      · obtain ⟨_, rfl, u13, u14, u15, u16, u17, u18, u19, u4, u5, q4, q5, g4, g5, rfl, H⟩ := hI
        simp only [List.getElem_toArray, List.getElem_cons_zero, List.getElem_cons_succ, frmL, Act.put, List.setIfInBounds_toArray, List.set_cons_zero, List.set_cons_succ]
        go_simp
        have HN := H
        refine hK.out _ _ ⟨[u13, u14, u15, .pointer (some ⟨w.heap.size, 1, none⟩), u17, u18, u19, u4, u5], ?_, u13, u14, u15, .pointer (some ⟨w.heap.size, 1, none⟩), u17, u18, u19, u4, u5, q4, q5, g4, g5, rfl, ?_⟩
        · simp only [frmL, Act.put, List.setIfInBounds_toArray, List.set_cons_zero, List.set_cons_succ]
        · exact ⟨HN.gt, fun o => HN.h0 (o.of_set (by decide)), fun o => HN.h1 (o.of_set (by decide)), fun o => HN.h2 (o.of_set (by decide)), fun _ => rfl, fun o => HN.h4 (o.of_set (by decide)), fun o => (HN.h5 (o.of_set (by decide))).imp On.old id, fun o => HN.h6 (o.of_set (by decide)), fun o => HN.h7 (o.of_set (by decide)), fun o => HN.h8 (o.of_set (by decide)), fun o o2 => HN.hne (o.of_set (by decide)) (o2.of_set (by decide)), fun o => (HN.h9 (o.of_set (by decide))).imp On.old id, fun o => (HN.h10 (o.of_set (by decide))).imp On.old id⟩
      refine StepsI.cons (i := 4) (ws := [3]) rfl (by kernel_rfl) (fun L a W hI hno hon hw K hK => ?_) ?_
      · obtain ⟨_, rfl, u13, u14, u15, u16, u17, u18, u19, u4, u5, q4, q5, g4, g5, rfl, H⟩ := hI
        obtain rfl := H.h3 (hw 3 (by simp))
        simp only [List.getElem_toArray, List.getElem_cons_zero, List.getElem_cons_succ, frmL, Act.put, List.setIfInBounds_toArray, List.set_cons_zero, List.set_cons_succ]
        have c0 := blk_cell H.gt.box (i := 1) rfl
        go_simp
        have HN := H
        refine hK.out _ _ ⟨[u13, u14, u15, .pointer (some ⟨w.heap.size, 1, none⟩), .slice (some ⟨p.bb, p.ob, none⟩) p.n p.d, u18, u19, u4, u5], ?_, u13, u14, u15, .pointer (some ⟨w.heap.size, 1, none⟩), .slice (some ⟨p.bb, p.ob, none⟩) p.n p.d, u18, u19, u4, u5, q4, q5, g4, g5, rfl, ?_⟩
        · simp only [frmL, Act.put, List.setIfInBounds_toArray, List.set_cons_zero, List.set_cons_succ]
        · exact ⟨HN.gt, fun o => HN.h0 (o.of_set (by decide)), fun o => HN.h1 (o.of_set (by decide)), fun o => HN.h2 (o.of_set (by decide)), fun o => HN.h3 (o.of_set (by decide)), fun _ => rfl, fun o => (HN.h5 (o.of_set (by decide))).imp On.old id, fun o => HN.h6 (o.of_set (by decide)), fun o => HN.h7 (o.of_set (by decide)), fun o => HN.h8 (o.of_set (by decide)), fun o o2 => HN.hne (o.of_set (by decide)) (o2.of_set (by decide)), fun o => (HN.h9 (o.of_set (by decide))).imp On.old id, fun o => (HN.h10 (o.of_set (by decide))).imp On.old id⟩
      refine StepsI.cons (i := 5) (ws := [4, 2]) rfl (by kernel_rfl) (fun L a W hI hno hon hw K hK => ?_) ?_
      · obtain ⟨_, rfl, u13, u14, u15, u16, u17, u18, u19, u4, u5, q4, q5, g4, g5, rfl, H⟩ := hI
        obtain rfl := H.h4 (hw 4 (by simp))
        simp only [List.getElem_toArray, List.getElem_cons_zero, List.getElem_cons_succ, frmL, Act.put, List.setIfInBounds_toArray, List.set_cons_zero, List.set_cons_succ]
        go_simp
        go_wp2_with (go_at_call 57; (with_reducible refine (turned_any _ _ _ _ _ _ _ _ ys W H.gt.gv.ty).mono ?_); rintro e w9 ⟨rfl, hown, hb, -⟩)
        have HN := H.up hb
        refine hK.out _ _ ⟨[u13, u14, u15, u16, .slice (some ⟨p.bb, p.ob, none⟩) p.n p.d, .slice (some ⟨W.heap.size, 0, none⟩) p.m p.m, u19, u4, u5], ?_, u13, u14, u15, u16, .slice (some ⟨p.bb, p.ob, none⟩) p.n p.d, .slice (some ⟨W.heap.size, 0, none⟩) p.m p.m, u19, u4, u5, q4, q5, g4, g5, rfl, ?_⟩
        · simp only [frmL, Act.put, List.setIfInBounds_toArray, List.set_cons_zero, List.set_cons_succ]
        · exact ⟨HN.gt, fun o => HN.h0 (o.of_set (by decide)), fun o => HN.h1 (o.of_set (by decide)), fun o => HN.h2 (o.of_set (by decide)), fun o => HN.h3 (o.of_set (by decide)), fun o => HN.h4 (o.of_set (by decide)), fun _ => .inr ⟨_, rfl, hown.rows⟩, fun o => HN.h6 (o.of_set (by decide)), fun o => HN.h7 (o.of_set (by decide)), fun o => HN.h8 (o.of_set (by decide)), fun o o2 => HN.hne (o.of_set (by decide)) (o2.of_set (by decide)), fun o => (HN.h9 (o.of_set (by decide))).imp On.old id, fun o => (HN.h10 (o.of_set (by decide))).imp On.old id⟩
      refine StepsI.cons (i := 6) (ws := [5, 5]) rfl (by kernel_rfl) (fun L a W hI hno hon hw K hK => ?_) ?_
      · obtain ⟨_, rfl, u13, u14, u15, u16, u17, u18, u19, u4, u5, q4, q5, g4, g5, rfl, H⟩ := hI
        obtain ⟨g, rfl, hr⟩ : ∃ g, u18 = .slice (some ⟨g, 0, none⟩) p.m p.m ∧ IntRows W (some ⟨g, 0, none⟩) p.m p.m (flip ys p.n p.m) := by rcases H.h5 (hw 5 (by simp)) with h | h; exact absurd h hno; exact h
        obtain ⟨b9, o9, rb9, ro9, cc9, e9, tab⟩ := hr.tab HF.out
        rw [HFM.out] at tab
        rw [e9] at H
        rw [e9]
        clear e9 hr
        simp only [List.getElem_toArray, List.getElem_cons_zero, List.getElem_cons_succ, frmL, Act.put, List.setIfInBounds_toArray, List.set_cons_zero, List.set_cons_succ]
        go_simp
        go_wp2_with (go_at_call 70; (with_reducible refine (cellsOf_any _ _ _ _ _ _ _ _ (flip ys p.n p.m) W tab).mono ?_); rintro e w9 ⟨rfl, hb⟩)
        have HN := H.up hb
        refine hK.out _ _ ⟨[u13, u14, u15, u16, u17, .slice (some ⟨b9, o9, none⟩) p.m p.m, .agg (cs9 (full9 (flip ys p.n p.m) p.m p.n)), u4, u5], ?_, u13, u14, u15, u16, u17, .slice (some ⟨b9, o9, none⟩) p.m p.m, .agg (cs9 (full9 (flip ys p.n p.m) p.m p.n)), u4, u5, q4, q5, g4, g5, rfl, ?_⟩
        · simp only [frmL, Act.put, List.setIfInBounds_toArray, List.set_cons_zero, List.set_cons_succ]
        · exact ⟨HN.gt, fun o => HN.h0 (o.of_set (by decide)), fun o => HN.h1 (o.of_set (by decide)), fun o => HN.h2 (o.of_set (by decide)), fun o => HN.h3 (o.of_set (by decide)), fun o => HN.h4 (o.of_set (by decide)), fun _ => .inl hon, fun _ => rfl, fun o => HN.h7 (o.of_set (by decide)), fun o => HN.h8 (o.of_set (by decide)), fun o o2 => HN.hne (o.of_set (by decide)) (o2.of_set (by decide)), fun o => (HN.h9 (o.of_set (by decide))).imp On.old id, fun o => (HN.h10 (o.of_set (by decide))).imp On.old id⟩
      refine StepsI.cons (i := 7) (ws := []) rfl (by kernel_rfl) (fun L a W hI hno hon hw K hK => ?_) ?_
      · obtain ⟨_, rfl, u13, u14, u15, u16, u17, u18, u19, u4, u5, q4, q5, g4, g5, rfl, H⟩ := hI
        simp only [List.getElem_toArray, List.getElem_cons_zero, List.getElem_cons_succ, frmL, Act.put, List.setIfInBounds_toArray, List.set_cons_zero, List.set_cons_succ]
        go_simp
        have HN := H.up (below_alloc W (.cells (cs9 fun _ _ => 0) 65))
        refine hK.out _ _ ⟨[u13, u14, u15, u16, u17, u18, u19, .pointer (some ⟨W.heap.size, 0, none⟩), u5], ?_, u13, u14, u15, u16, u17, u18, u19, .pointer (some ⟨W.heap.size, 0, none⟩), u5, W.heap.size, q5, fun _ _ => 0, g5, rfl, ?_⟩
        · simp only [frmL, Act.put, List.setIfInBounds_toArray, List.set_cons_zero, List.set_cons_succ]
        · exact ⟨HN.gt, fun o => HN.h0 (o.of_set (by decide)), fun o => HN.h1 (o.of_set (by decide)), fun o => HN.h2 (o.of_set (by decide)), fun o => HN.h3 (o.of_set (by decide)), fun o => HN.h4 (o.of_set (by decide)), fun o => (HN.h5 (o.of_set (by decide))).imp On.old id, fun o => HN.h6 (o.of_set (by decide)), fun _ => ⟨rfl, blk_lt H.gt.box, blk_new _ _ _⟩, fun o => HN.h8 (o.of_set (by decide)), fun _ o2 => by obtain ⟨_, _, r⟩ := H.h8 (o2.of_set (by decide)); exact Nat.ne_of_gt (blk_lt r), fun o => absurd (H.h9 (o.of_set (by decide))).1 hno, fun o => (HN.h10 (o.of_set (by decide))).imp On.old id⟩
      refine StepsI.cons (i := 8) (ws := []) rfl (by kernel_rfl) (fun L a W hI hno hon hw K hK => ?_) ?_
      · obtain ⟨_, rfl, u13, u14, u15, u16, u17, u18, u19, u4, u5, q4, q5, g4, g5, rfl, H⟩ := hI
        simp only [List.getElem_toArray, List.getElem_cons_zero, List.getElem_cons_succ, frmL, Act.put, List.setIfInBounds_toArray, List.set_cons_zero, List.set_cons_succ]
        go_simp
        have HN := H.up (below_alloc W (.cells (cs9 fun _ _ => 0) 65))
        refine hK.out _ _ ⟨[u13, u14, u15, u16, u17, u18, u19, u4, .pointer (some ⟨W.heap.size, 0, none⟩)], ?_, u13, u14, u15, u16, u17, u18, u19, u4, .pointer (some ⟨W.heap.size, 0, none⟩), q4, W.heap.size, g4, fun _ _ => 0, rfl, ?_⟩
        · simp only [frmL, Act.put, List.setIfInBounds_toArray, List.set_cons_zero, List.set_cons_succ]
        · exact ⟨HN.gt, fun o => HN.h0 (o.of_set (by decide)), fun o => HN.h1 (o.of_set (by decide)), fun o => HN.h2 (o.of_set (by decide)), fun o => HN.h3 (o.of_set (by decide)), fun o => HN.h4 (o.of_set (by decide)), fun o => (HN.h5 (o.of_set (by decide))).imp On.old id, fun o => HN.h6 (o.of_set (by decide)), fun o => HN.h7 (o.of_set (by decide)), fun _ => ⟨rfl, blk_lt H.gt.box, blk_new _ _ _⟩, fun o2 _ => by obtain ⟨_, _, r⟩ := H.h7 (o2.of_set (by decide)); exact Nat.ne_of_lt (blk_lt r), fun o => (HN.h9 (o.of_set (by decide))).imp On.old id, fun o => absurd (H.h10 (o.of_set (by decide))).1 hno⟩
      refine StepsI.cons (i := 9) (ws := [7, 2, 6, 0, 1, 2, 7, 8]) rfl (by kernel_rfl) (fun L a W hI hno hon hw K hK => ?_) ?_
      · obtain ⟨_, rfl, u13, u14, u15, u16, u17, u18, u19, u4, u5, q4, q5, g4, g5, rfl, H⟩ := hI
        have e2 := H.h2 (hw 2 (by simp))
        have h7 := H.h7 (hw 7 (by simp))
        have e4 := h7.1
        have hq4 := h7.2.1
        have hb4 := h7.2.2
        clear h7
        simp only [List.getElem_toArray, List.getElem_cons_zero, List.getElem_cons_succ, frmL, Act.put, List.setIfInBounds_toArray, List.set_cons_zero, List.set_cons_succ]
        have HSZ : Hid ((Try.prog.info? 65).map (·.size) = some (cs9 (full9 xs p.n p.m)).size) := Lib.hid (by show _ = some 9; kernel_rfl)
        have HS1 : Hid ((cs9 (full9 xs p.n p.m)).all (·.oneCell') = true) := Lib.hid (by simp [cs9, Value.oneCell'])
        rw [if_pos (by rfl)]
        refine wp_store_row 65 _ _ rfl q4 (cs9 (full9 xs p.n p.m)) e4 e2 65 (cs9 g4) hb4 HSZ.out rfl HS1.out ?_
        have HN := H
        refine hK.out _ _ ⟨[u13, u14, u15, u16, u17, u18, u19, u4, u5], ?_, u13, u14, u15, u16, u17, u18, u19, u4, u5, q4, q5, full9 xs p.n p.m, g5, rfl, ?_⟩
        · simp only [frmL, Act.put, List.setIfInBounds_toArray, List.set_cons_zero, List.set_cons_succ]
        · exact ⟨H.gt.up2 (below_row (Below.refl (w.heap.size + 1) W) (by omega) _) (by omega) (Nat.lt_succ_self _), fun o => HN.h0 (o.of_set (by decide)), fun o => HN.h1 (o.of_set (by decide)), fun o => HN.h2 (o.of_set (by decide)), fun o => HN.h3 (o.of_set (by decide)), fun o => HN.h4 (o.of_set (by decide)), fun _ => .inl (hw 6 (by simp)).old, fun o => HN.h6 (o.of_set (by decide)), fun _ => ⟨e4, hq4, blk_row hb4 _⟩, fun o => by obtain ⟨a, b, r⟩ := H.h8 (o.of_set (by decide)); exact ⟨a, b, blk_row_other r _ (fun e => H.hne (hw 7 (by simp)) (o.of_set (by decide)) e.symm)⟩, fun o o2 => HN.hne (o.of_set (by decide)) (o2.of_set (by decide)), fun _ => ⟨(hw 7 (by simp)).old, blk_row hb4 _⟩, fun o => by obtain ⟨a, r⟩ := H.h10 (o.of_set (by decide)); exact ⟨a.old, blk_row_other r _ (fun e => H.hne (hw 7 (by simp)) a e.symm)⟩⟩
      refine StepsI.cons (i := 10) (ws := [8, 6, 9, 0, 1, 2, 3, 4, 5, 6, 7, 8, 9]) rfl (by kernel_rfl) (fun L a W hI hno hon hw K hK => ?_) ?_
      · obtain ⟨_, rfl, u13, u14, u15, u16, u17, u18, u19, u4, u5, q4, q5, g4, g5, rfl, H⟩ := hI
        have e2 := H.h6 (hw 6 (by simp))
        have h8 := H.h8 (hw 8 (by simp))
        have e4 := h8.1
        have hq5 := h8.2.1
        have hb5 := h8.2.2
        clear h8
        simp only [List.getElem_toArray, List.getElem_cons_zero, List.getElem_cons_succ, frmL, Act.put, List.setIfInBounds_toArray, List.set_cons_zero, List.set_cons_succ]
        have HSZ : Hid ((Try.prog.info? 65).map (·.size) = some (cs9 (full9 (flip ys p.n p.m) p.m p.n)).size) := Lib.hid (by show _ = some 9; kernel_rfl)
        have HS1 : Hid ((cs9 (full9 (flip ys p.n p.m) p.m p.n)).all (·.oneCell') = true) := Lib.hid (by simp [cs9, Value.oneCell'])
        rw [if_pos (by rfl)]
        refine wp_store_row 65 _ _ rfl q5 (cs9 (full9 (flip ys p.n p.m) p.m p.n)) e4 e2 65 (cs9 g5) hb5 HSZ.out rfl HS1.out ?_
        have HN := H
        refine hK.out _ _ ⟨[u13, u14, u15, u16, u17, u18, u19, u4, u5], ?_, u13, u14, u15, u16, u17, u18, u19, u4, u5, q4, q5, g4, full9 (flip ys p.n p.m) p.m p.n, rfl, ?_⟩
        · simp only [frmL, Act.put, List.setIfInBounds_toArray, List.set_cons_zero, List.set_cons_succ]
        · exact ⟨H.gt.up2 (below_row (Below.refl (w.heap.size + 1) W) (by omega) _) (by omega) (Nat.lt_succ_self _), fun o => HN.h0 (o.of_set (by decide)), fun o => HN.h1 (o.of_set (by decide)), fun o => HN.h2 (o.of_set (by decide)), fun o => HN.h3 (o.of_set (by decide)), fun o => HN.h4 (o.of_set (by decide)), fun _ => .inl (hw 6 (by simp)).old, fun o => HN.h6 (o.of_set (by decide)), fun o => by obtain ⟨a, b, r⟩ := H.h7 (o.of_set (by decide)); exact ⟨a, b, blk_row_other r _ (fun e => H.hne (o.of_set (by decide)) (hw 8 (by simp)) e)⟩, fun _ => ⟨e4, hq5, blk_row hb5 _⟩, fun o o2 => HN.hne (o.of_set (by decide)) (o2.of_set (by decide)), fun o => by obtain ⟨a, r⟩ := H.h9 (o.of_set (by decide)); exact ⟨a.old, blk_row_other r _ (fun e => H.hne a (hw 8 (by simp)) e)⟩, fun _ => ⟨(hw 8 (by simp)).old, blk_row hb5 _⟩⟩
      exact StepsI.nil
      --sorry
    · rintro L us W hL ⟨u13, u14, u15, u16, u17, u18, u19, u4, u5, q4, q5, g4, g5, rfl, H⟩
      have GT4 := Lib.hid H.gt
      have h7 := H.h7 (hL 7 (by simp))
      have h8 := H.h8 (hL 8 (by simp))
      have hq4 := h7.2.1
      have hq5 := h8.2.1
      have HNE := Lib.hid (H.hne (hL 7 (by simp)) (hL 8 (by simp)))
      have K4 := Lib.hid (H.h9 (hL 9 (by simp))).2
      have K5 := Lib.hid (H.h10 (hL 10 (by simp))).2
      obtain rfl := h7.1
      obtain rfl := h8.1
      clear H h7 h8 hL
      simp only [frmL, Act.put, List.setIfInBounds_toArray, List.set_cons_zero, List.set_cons_succ]
      have hn3 := GT4.out.gv0.tx.n3
      have hm3 := GT4.out.gv0.tx.m3
      have hn1 := GT4.out.gv0.tx.n1
      have hm1 := GT4.out.gv0.tx.m1
      go_wp2
      refine wp_region_invF (rs := [0, 1, 2, 3, 4, 5, 6, 7, 8, 9, 10, 11, 12, 13]) [20, 21, 22, 23, 24, 25, 26, 27, 28, 29, 6, 7] (fun L us W => ∃ u20 u21 u22 u23 u24 u25 u26 u27 u28 u29 u6 u7 q6 q7 g6 g7, us = [u20, u21, u22, u23, u24, u25, u26, u27, u28, u29, u6, u7] ∧ R4 p w xs ys (full9 xs p.n p.m) (full9 (flip ys p.n p.m) p.m p.n) q4 q5 L u20 u21 u22 u23 u24 u25 u26 u27 u28 u29 u6 u7 q6 q7 g6 g7 W) (by kernel_rfl) ?_ (by kernel_rfl) (by kernel_rfl) ?_ ?_
      · refine ⟨[undef, undef, undef, undef, undef, undef, undef, undef, undef, undef, undef, undef], ?_, undef, undef, undef, undef, undef, undef, undef, undef, undef, undef, undef, undef, 0, 0, fun _ => false, fun _ => false, rfl, ?_⟩
        · simp only [frmL, Act.put, List.setIfInBounds_toArray, List.set_cons_zero, List.set_cons_succ]
        exact ⟨GT4.out.qu ⟨1, rfl⟩, K4.out, K5.out, fun o => o.not_start.elim, fun o => o.not_start.elim, fun o => o.not_start.elim, fun o => o.not_start.elim, fun o => o.not_start.elim, fun o => o.not_start.elim, fun o => o.not_start.elim, fun o => o.not_start.elim, fun o => o.not_start.elim, fun o => o.not_start.elim, fun o => o.not_start.elim, fun o => o.not_start.elim, fun o _ => o.not_start.elim, fun o => o.not_start.elim, fun o => o.not_start.elim⟩
      · refine StepsI.cons (i := 0) (ws := []) rfl (by kernel_rfl) (fun L a W hI hno hon hw K hK => ?_) ?_
        · obtain ⟨_, rfl, u20, u21, u22, u23, u24, u25, u26, u27, u28, u29, u6, u7, q6, q7, g6, g7, rfl, H⟩ := hI
          simp only [List.getElem_toArray, List.getElem_cons_zero, frmL, Act.put, List.setIfInBounds_toArray, List.set_cons_zero, List.set_cons_succ]
          go_simp
          have HN := H
          refine hK.out _ _ ⟨[.pointer (some ⟨w.heap.size, 0, none⟩), u21, u22, u23, u24, u25, u26, u27, u28, u29, u6, u7], ?_, .pointer (some ⟨w.heap.size, 0, none⟩), u21, u22, u23, u24, u25, u26, u27, u28, u29, u6, u7, q6, q7, g6, g7, rfl, ?_⟩
          · simp only [frmL, Act.put, List.setIfInBounds_toArray, List.set_cons_zero, List.set_cons_succ]
          · exact ⟨HN.gt, HN.k4, HN.k5, fun _ => rfl, fun o => HN.h1 (o.of_set (by decide)), fun o => HN.h2 (o.of_set (by decide)), fun o => HN.h3 (o.of_set (by decide)), fun o => HN.h4 (o.of_set (by decide)), fun o => HN.h5 (o.of_set (by decide)), fun o => HN.h6 (o.of_set (by decide)), fun o => HN.h7 (o.of_set (by decide)), fun o => HN.h8 (o.of_set (by decide)), fun o => HN.h9 (o.of_set (by decide)), fun o => HN.h10 (o.of_set (by decide)), fun o => HN.h11 (o.of_set (by decide)), fun o o2 => HN.hne (o.of_set (by decide)) (o2.of_set (by decide)), fun o => (HN.h12 (o.of_set (by decide))).imp On.old id, fun o => (HN.h13 (o.of_set (by decide))).imp On.old id⟩
        refine StepsI.cons (i := 1) (ws := [0]) rfl (by kernel_rfl) (fun L a W hI hno hon hw K hK => ?_) ?_
        · obtain ⟨_, rfl, u20, u21, u22, u23, u24, u25, u26, u27, u28, u29, u6, u7, q6, q7, g6, g7, rfl, H⟩ := hI
          obtain rfl := H.h0 (hw 0 (by simp))
          simp only [List.getElem_toArray, List.getElem_cons_zero, List.getElem_cons_succ, frmL, Act.put, List.setIfInBounds_toArray, List.set_cons_zero, List.set_cons_succ]
          have c0 := blk_cell H.gt.box (i := 0) rfl
          go_simp
          have HN := H
          refine hK.out _ _ ⟨[.pointer (some ⟨w.heap.size, 0, none⟩), .slice (some ⟨p.ba, p.oa, none⟩) p.n p.c, u22, u23, u24, u25, u26, u27, u28, u29, u6, u7], ?_, .pointer (some ⟨w.heap.size, 0, none⟩), .slice (some ⟨p.ba, p.oa, none⟩) p.n p.c, u22, u23, u24, u25, u26, u27, u28, u29, u6, u7, q6, q7, g6, g7, rfl, ?_⟩
          · simp only [frmL, Act.put, List.setIfInBounds_toArray, List.set_cons_zero, List.set_cons_succ]
          · exact ⟨HN.gt, HN.k4, HN.k5, fun o => HN.h0 (o.of_set (by decide)), fun _ => rfl, fun o => HN.h2 (o.of_set (by decide)), fun o => HN.h3 (o.of_set (by decide)), fun o => HN.h4 (o.of_set (by decide)), fun o => HN.h5 (o.of_set (by decide)), fun o => HN.h6 (o.of_set (by decide)), fun o => HN.h7 (o.of_set (by decide)), fun o => HN.h8 (o.of_set (by decide)), fun o => HN.h9 (o.of_set (by decide)), fun o => HN.h10 (o.of_set (by decide)), fun o => HN.h11 (o.of_set (by decide)), fun o o2 => HN.hne (o.of_set (by decide)) (o2.of_set (by decide)), fun o => (HN.h12 (o.of_set (by decide))).imp On.old id, fun o => (HN.h13 (o.of_set (by decide))).imp On.old id⟩
        refine StepsI.cons (i := 2) (ws := [1]) rfl (by kernel_rfl) (fun L a W hI hno hon hw K hK => ?_) ?_
        · obtain ⟨_, rfl, u20, u21, u22, u23, u24, u25, u26, u27, u28, u29, u6, u7, q6, q7, g6, g7, rfl, H⟩ := hI
          obtain rfl := H.h1 (hw 1 (by simp))
          simp only [List.getElem_toArray, List.getElem_cons_zero, List.getElem_cons_succ, frmL, Act.put, List.setIfInBounds_toArray, List.set_cons_zero, List.set_cons_succ]
          go_simp
          have HN := H
          refine hK.out _ _ ⟨[u20, .slice (some ⟨p.ba, p.oa, none⟩) p.n p.c, .int .i64 p.n, u23, u24, u25, u26, u27, u28, u29, u6, u7], ?_, u20, .slice (some ⟨p.ba, p.oa, none⟩) p.n p.c, .int .i64 p.n, u23, u24, u25, u26, u27, u28, u29, u6, u7, q6, q7, g6, g7, rfl, ?_⟩
          · simp only [frmL, Act.put, List.setIfInBounds_toArray, List.set_cons_zero, List.set_cons_succ]
          · exact ⟨HN.gt, HN.k4, HN.k5, fun o => HN.h0 (o.of_set (by decide)), fun o => HN.h1 (o.of_set (by decide)), fun _ => rfl, fun o => HN.h3 (o.of_set (by decide)), fun o => HN.h4 (o.of_set (by decide)), fun o => HN.h5 (o.of_set (by decide)), fun o => HN.h6 (o.of_set (by decide)), fun o => HN.h7 (o.of_set (by decide)), fun o => HN.h8 (o.of_set (by decide)), fun o => HN.h9 (o.of_set (by decide)), fun o => HN.h10 (o.of_set (by decide)), fun o => HN.h11 (o.of_set (by decide)), fun o o2 => HN.hne (o.of_set (by decide)) (o2.of_set (by decide)), fun o => (HN.h12 (o.of_set (by decide))).imp On.old id, fun o => (HN.h13 (o.of_set (by decide))).imp On.old id⟩
        refine StepsI.cons (i := 3) (ws := [2]) rfl (by kernel_rfl) (fun L a W hI hno hon hw K hK => ?_) ?_
        · obtain ⟨_, rfl, u20, u21, u22, u23, u24, u25, u26, u27, u28, u29, u6, u7, q6, q7, g6, g7, rfl, H⟩ := hI
          obtain rfl := H.h2 (hw 2 (by simp))
          simp only [List.getElem_toArray, List.getElem_cons_zero, List.getElem_cons_succ, frmL, Act.put, List.setIfInBounds_toArray, List.set_cons_zero, List.set_cons_succ]
          go_simp
          go_wp2_with (go_at_call 71; (with_reducible refine (allMarks_any p.n W hn3).mono ?_); rintro e w9 ⟨rfl, hb⟩)
          have HN := H.up hb
          refine hK.out _ _ ⟨[u20, u21, .int .i64 p.n, .agg (bs3 fun j => decide (j < p.n)), u24, u25, u26, u27, u28, u29, u6, u7], ?_, u20, u21, .int .i64 p.n, .agg (bs3 fun j => decide (j < p.n)), u24, u25, u26, u27, u28, u29, u6, u7, q6, q7, g6, g7, rfl, ?_⟩
          · simp only [frmL, Act.put, List.setIfInBounds_toArray, List.set_cons_zero, List.set_cons_succ]
          · exact ⟨HN.gt, HN.k4, HN.k5, fun o => HN.h0 (o.of_set (by decide)), fun o => HN.h1 (o.of_set (by decide)), fun o => HN.h2 (o.of_set (by decide)), fun _ => rfl, fun o => HN.h4 (o.of_set (by decide)), fun o => HN.h5 (o.of_set (by decide)), fun o => HN.h6 (o.of_set (by decide)), fun o => HN.h7 (o.of_set (by decide)), fun o => HN.h8 (o.of_set (by decide)), fun o => HN.h9 (o.of_set (by decide)), fun o => HN.h10 (o.of_set (by decide)), fun o => HN.h11 (o.of_set (by decide)), fun o o2 => HN.hne (o.of_set (by decide)) (o2.of_set (by decide)), fun o => (HN.h12 (o.of_set (by decide))).imp On.old id, fun o => (HN.h13 (o.of_set (by decide))).imp On.old id⟩
        refine StepsI.cons (i := 4) (ws := []) rfl (by kernel_rfl) (fun L a W hI hno hon hw K hK => ?_) ?_
        · obtain ⟨_, rfl, u20, u21, u22, u23, u24, u25, u26, u27, u28, u29, u6, u7, q6, q7, g6, g7, rfl, H⟩ := hI
          simp only [List.getElem_toArray, List.getElem_cons_zero, List.getElem_cons_succ, frmL, Act.put, List.setIfInBounds_toArray, List.set_cons_zero, List.set_cons_succ]
          go_simp
          have HN := H
          refine hK.out _ _ ⟨[u20, u21, u22, u23, .pointer (some ⟨w.heap.size, 0, none⟩), u25, u26, u27, u28, u29, u6, u7], ?_, u20, u21, u22, u23, .pointer (some ⟨w.heap.size, 0, none⟩), u25, u26, u27, u28, u29, u6, u7, q6, q7, g6, g7, rfl, ?_⟩
          · simp only [frmL, Act.put, List.setIfInBounds_toArray, List.set_cons_zero, List.set_cons_succ]
          · exact ⟨HN.gt, HN.k4, HN.k5, fun o => HN.h0 (o.of_set (by decide)), fun o => HN.h1 (o.of_set (by decide)), fun o => HN.h2 (o.of_set (by decide)), fun o => HN.h3 (o.of_set (by decide)), fun _ => rfl, fun o => HN.h5 (o.of_set (by decide)), fun o => HN.h6 (o.of_set (by decide)), fun o => HN.h7 (o.of_set (by decide)), fun o => HN.h8 (o.of_set (by decide)), fun o => HN.h9 (o.of_set (by decide)), fun o => HN.h10 (o.of_set (by decide)), fun o => HN.h11 (o.of_set (by decide)), fun o o2 => HN.hne (o.of_set (by decide)) (o2.of_set (by decide)), fun o => (HN.h12 (o.of_set (by decide))).imp On.old id, fun o => (HN.h13 (o.of_set (by decide))).imp On.old id⟩
        refine StepsI.cons (i := 5) (ws := [4]) rfl (by kernel_rfl) (fun L a W hI hno hon hw K hK => ?_) ?_
        · obtain ⟨_, rfl, u20, u21, u22, u23, u24, u25, u26, u27, u28, u29, u6, u7, q6, q7, g6, g7, rfl, H⟩ := hI
          obtain rfl := H.h4 (hw 4 (by simp))
          simp only [List.getElem_toArray, List.getElem_cons_zero, List.getElem_cons_succ, frmL, Act.put, List.setIfInBounds_toArray, List.set_cons_zero, List.set_cons_succ]
          have c0 := blk_cell H.gt.box (i := 0) rfl
          go_simp
          have HN := H
          refine hK.out _ _ ⟨[u20, u21, u22, u23, .pointer (some ⟨w.heap.size, 0, none⟩), .slice (some ⟨p.ba, p.oa, none⟩) p.n p.c, u26, u27, u28, u29, u6, u7], ?_, u20, u21, u22, u23, .pointer (some ⟨w.heap.size, 0, none⟩), .slice (some ⟨p.ba, p.oa, none⟩) p.n p.c, u26, u27, u28, u29, u6, u7, q6, q7, g6, g7, rfl, ?_⟩
          · simp only [frmL, Act.put, List.setIfInBounds_toArray, List.set_cons_zero, List.set_cons_succ]
          · exact ⟨HN.gt, HN.k4, HN.k5, fun o => HN.h0 (o.of_set (by decide)), fun o => HN.h1 (o.of_set (by decide)), fun o => HN.h2 (o.of_set (by decide)), fun o => HN.h3 (o.of_set (by decide)), fun o => HN.h4 (o.of_set (by decide)), fun _ => rfl, fun o => HN.h6 (o.of_set (by decide)), fun o => HN.h7 (o.of_set (by decide)), fun o => HN.h8 (o.of_set (by decide)), fun o => HN.h9 (o.of_set (by decide)), fun o => HN.h10 (o.of_set (by decide)), fun o => HN.h11 (o.of_set (by decide)), fun o o2 => HN.hne (o.of_set (by decide)) (o2.of_set (by decide)), fun o => (HN.h12 (o.of_set (by decide))).imp On.old id, fun o => (HN.h13 (o.of_set (by decide))).imp On.old id⟩
        refine StepsI.cons (i := 6) (ws := [5]) rfl (by kernel_rfl) (fun L a W hI hno hon hw K hK => ?_) ?_
        · obtain ⟨_, rfl, u20, u21, u22, u23, u24, u25, u26, u27, u28, u29, u6, u7, q6, q7, g6, g7, rfl, H⟩ := hI
          obtain rfl := H.h5 (hw 5 (by simp))
          simp only [List.getElem_toArray, List.getElem_cons_zero, List.getElem_cons_succ, frmL, Act.put, List.setIfInBounds_toArray, List.set_cons_zero, List.set_cons_succ]
          have hn0 : (0 : Int) < (p.n : Int) := by omega
          have hn0' : 0 < p.n := by omega
          go_simp
          have HN := H
          refine hK.out _ _ ⟨[u20, u21, u22, u23, u24, .slice (some ⟨p.ba, p.oa, none⟩) p.n p.c, .pointer (some ⟨p.ba, p.oa, none⟩), u27, u28, u29, u6, u7], ?_, u20, u21, u22, u23, u24, .slice (some ⟨p.ba, p.oa, none⟩) p.n p.c, .pointer (some ⟨p.ba, p.oa, none⟩), u27, u28, u29, u6, u7, q6, q7, g6, g7, rfl, ?_⟩
          · simp only [frmL, Act.put, List.setIfInBounds_toArray, List.set_cons_zero, List.set_cons_succ]
          · exact ⟨HN.gt, HN.k4, HN.k5, fun o => HN.h0 (o.of_set (by decide)), fun o => HN.h1 (o.of_set (by decide)), fun o => HN.h2 (o.of_set (by decide)), fun o => HN.h3 (o.of_set (by decide)), fun o => HN.h4 (o.of_set (by decide)), fun o => HN.h5 (o.of_set (by decide)), fun _ => rfl, fun o => HN.h7 (o.of_set (by decide)), fun o => HN.h8 (o.of_set (by decide)), fun o => HN.h9 (o.of_set (by decide)), fun o => HN.h10 (o.of_set (by decide)), fun o => HN.h11 (o.of_set (by decide)), fun o o2 => HN.hne (o.of_set (by decide)) (o2.of_set (by decide)), fun o => (HN.h12 (o.of_set (by decide))).imp On.old id, fun o => (HN.h13 (o.of_set (by decide))).imp On.old id⟩
        refine StepsI.cons (i := 7) (ws := [6]) rfl (by kernel_rfl) (fun L a W hI hno hon hw K hK => ?_) ?_
        · obtain ⟨_, rfl, u20, u21, u22, u23, u24, u25, u26, u27, u28, u29, u6, u7, q6, q7, g6, g7, rfl, H⟩ := hI
          obtain rfl := H.h6 (hw 6 (by simp))
          simp only [List.getElem_toArray, List.getElem_cons_zero, List.getElem_cons_succ, frmL, Act.put, List.setIfInBounds_toArray, List.set_cons_zero, List.set_cons_succ]
          have r0 := H.gt.gv.tx.row 0 (by omega)
          simp only [Nat.add_zero] at r0
          go_simp
          have HN := H
          refine hK.out _ _ ⟨[u20, u21, u22, u23, u24, u25, .pointer (some ⟨p.ba, p.oa, none⟩), .slice (some ⟨p.ra 0, p.pa 0, none⟩) p.m (p.ca 0), u28, u29, u6, u7], ?_, u20, u21, u22, u23, u24, u25, .pointer (some ⟨p.ba, p.oa, none⟩), .slice (some ⟨p.ra 0, p.pa 0, none⟩) p.m (p.ca 0), u28, u29, u6, u7, q6, q7, g6, g7, rfl, ?_⟩
          · simp only [frmL, Act.put, List.setIfInBounds_toArray, List.set_cons_zero, List.set_cons_succ]
          · exact ⟨HN.gt, HN.k4, HN.k5, fun o => HN.h0 (o.of_set (by decide)), fun o => HN.h1 (o.of_set (by decide)), fun o => HN.h2 (o.of_set (by decide)), fun o => HN.h3 (o.of_set (by decide)), fun o => HN.h4 (o.of_set (by decide)), fun o => HN.h5 (o.of_set (by decide)), fun o => HN.h6 (o.of_set (by decide)), fun _ => rfl, fun o => HN.h8 (o.of_set (by decide)), fun o => HN.h9 (o.of_set (by decide)), fun o => HN.h10 (o.of_set (by decide)), fun o => HN.h11 (o.of_set (by decide)), fun o o2 => HN.hne (o.of_set (by decide)) (o2.of_set (by decide)), fun o => (HN.h12 (o.of_set (by decide))).imp On.old id, fun o => (HN.h13 (o.of_set (by decide))).imp On.old id⟩
        refine StepsI.cons (i := 8) (ws := [7]) rfl (by kernel_rfl) (fun L a W hI hno hon hw K hK => ?_) ?_
        · obtain ⟨_, rfl, u20, u21, u22, u23, u24, u25, u26, u27, u28, u29, u6, u7, q6, q7, g6, g7, rfl, H⟩ := hI
          obtain rfl := H.h7 (hw 7 (by simp))
          simp only [List.getElem_toArray, List.getElem_cons_zero, List.getElem_cons_succ, frmL, Act.put, List.setIfInBounds_toArray, List.set_cons_zero, List.set_cons_succ]
          go_simp
          have HN := H
          refine hK.out _ _ ⟨[u20, u21, u22, u23, u24, u25, u26, .slice (some ⟨p.ra 0, p.pa 0, none⟩) p.m (p.ca 0), .int .i64 p.m, u29, u6, u7], ?_, u20, u21, u22, u23, u24, u25, u26, .slice (some ⟨p.ra 0, p.pa 0, none⟩) p.m (p.ca 0), .int .i64 p.m, u29, u6, u7, q6, q7, g6, g7, rfl, ?_⟩
          · simp only [frmL, Act.put, List.setIfInBounds_toArray, List.set_cons_zero, List.set_cons_succ]
          · exact ⟨HN.gt, HN.k4, HN.k5, fun o => HN.h0 (o.of_set (by decide)), fun o => HN.h1 (o.of_set (by decide)), fun o => HN.h2 (o.of_set (by decide)), fun o => HN.h3 (o.of_set (by decide)), fun o => HN.h4 (o.of_set (by decide)), fun o => HN.h5 (o.of_set (by decide)), fun o => HN.h6 (o.of_set (by decide)), fun o => HN.h7 (o.of_set (by decide)), fun _ => rfl, fun o => HN.h9 (o.of_set (by decide)), fun o => HN.h10 (o.of_set (by decide)), fun o => HN.h11 (o.of_set (by decide)), fun o o2 => HN.hne (o.of_set (by decide)) (o2.of_set (by decide)), fun o => (HN.h12 (o.of_set (by decide))).imp On.old id, fun o => (HN.h13 (o.of_set (by decide))).imp On.old id⟩
        refine StepsI.cons (i := 9) (ws := [8, 3]) rfl (by kernel_rfl) (fun L a W hI hno hon hw K hK => ?_) ?_
        · obtain ⟨_, rfl, u20, u21, u22, u23, u24, u25, u26, u27, u28, u29, u6, u7, q6, q7, g6, g7, rfl, H⟩ := hI
          obtain rfl := H.h8 (hw 8 (by simp))
          simp only [List.getElem_toArray, List.getElem_cons_zero, List.getElem_cons_succ, frmL, Act.put, List.setIfInBounds_toArray, List.set_cons_zero, List.set_cons_succ]
          go_simp
          go_wp2_with (go_at_call 71; (with_reducible refine (allMarks_any p.m W hm3).mono ?_); rintro e w9 ⟨rfl, hb⟩)
          have HN := H.up hb
          refine hK.out _ _ ⟨[u20, u21, u22, u23, u24, u25, u26, u27, .int .i64 p.m, .agg (bs3 fun j => decide (j < p.m)), u6, u7], ?_, u20, u21, u22, u23, u24, u25, u26, u27, .int .i64 p.m, .agg (bs3 fun j => decide (j < p.m)), u6, u7, q6, q7, g6, g7, rfl, ?_⟩
          · simp only [frmL, Act.put, List.setIfInBounds_toArray, List.set_cons_zero, List.set_cons_succ]
          · exact ⟨HN.gt, HN.k4, HN.k5, fun o => HN.h0 (o.of_set (by decide)), fun o => HN.h1 (o.of_set (by decide)), fun o => HN.h2 (o.of_set (by decide)), fun o => HN.h3 (o.of_set (by decide)), fun o => HN.h4 (o.of_set (by decide)), fun o => HN.h5 (o.of_set (by decide)), fun o => HN.h6 (o.of_set (by decide)), fun o => HN.h7 (o.of_set (by decide)), fun o => HN.h8 (o.of_set (by decide)), fun _ => rfl, fun o => HN.h10 (o.of_set (by decide)), fun o => HN.h11 (o.of_set (by decide)), fun o o2 => HN.hne (o.of_set (by decide)) (o2.of_set (by decide)), fun o => (HN.h12 (o.of_set (by decide))).imp On.old id, fun o => (HN.h13 (o.of_set (by decide))).imp On.old id⟩
        refine StepsI.cons (i := 10) (ws := []) rfl (by kernel_rfl) (fun L a W hI hno hon hw K hK => ?_) ?_
        · obtain ⟨_, rfl, u20, u21, u22, u23, u24, u25, u26, u27, u28, u29, u6, u7, q6, q7, g6, g7, rfl, H⟩ := hI
          simp only [List.getElem_toArray, List.getElem_cons_zero, List.getElem_cons_succ, frmL, Act.put, List.setIfInBounds_toArray, List.set_cons_zero, List.set_cons_succ]
          go_simp
          have HN := H.up (below_alloc W (.cells (bs3 fun _ => false) 68))
          refine hK.out _ _ ⟨[u20, u21, u22, u23, u24, u25, u26, u27, u28, u29, .pointer (some ⟨W.heap.size, 0, none⟩), u7], ?_, u20, u21, u22, u23, u24, u25, u26, u27, u28, u29, .pointer (some ⟨W.heap.size, 0, none⟩), u7, W.heap.size, q7, fun _ => false, g7, rfl, ?_⟩
          · simp only [frmL, Act.put, List.setIfInBounds_toArray, List.set_cons_zero, List.set_cons_succ]
          · exact ⟨HN.gt, HN.k4, HN.k5, fun o => HN.h0 (o.of_set (by decide)), fun o => HN.h1 (o.of_set (by decide)), fun o => HN.h2 (o.of_set (by decide)), fun o => HN.h3 (o.of_set (by decide)), fun o => HN.h4 (o.of_set (by decide)), fun o => HN.h5 (o.of_set (by decide)), fun o => HN.h6 (o.of_set (by decide)), fun o => HN.h7 (o.of_set (by decide)), fun o => HN.h8 (o.of_set (by decide)), fun o => HN.h9 (o.of_set (by decide)), fun _ => ⟨rfl, blk_lt H.gt.box, Nat.ne_of_lt (blk_lt H.k4), Nat.ne_of_lt (blk_lt H.k5), blk_new _ _ _⟩, fun o => HN.h11 (o.of_set (by decide)), fun _ o2 => by obtain ⟨_, _, _, _, r⟩ := H.h11 (o2.of_set (by decide)); exact Nat.ne_of_gt (blk_lt r), fun o => absurd (H.h12 (o.of_set (by decide))).1 hno, fun o => (HN.h13 (o.of_set (by decide))).imp On.old id⟩
        refine StepsI.cons (i := 11) (ws := []) rfl (by kernel_rfl) (fun L a W hI hno hon hw K hK => ?_) ?_
        · obtain ⟨_, rfl, u20, u21, u22, u23, u24, u25, u26, u27, u28, u29, u6, u7, q6, q7, g6, g7, rfl, H⟩ := hI
          simp only [List.getElem_toArray, List.getElem_cons_zero, List.getElem_cons_succ, frmL, Act.put, List.setIfInBounds_toArray, List.set_cons_zero, List.set_cons_succ]
          go_simp
          have HN := H.up (below_alloc W (.cells (bs3 fun _ => false) 68))
          refine hK.out _ _ ⟨[u20, u21, u22, u23, u24, u25, u26, u27, u28, u29, u6, .pointer (some ⟨W.heap.size, 0, none⟩)], ?_, u20, u21, u22, u23, u24, u25, u26, u27, u28, u29, u6, .pointer (some ⟨W.heap.size, 0, none⟩), q6, W.heap.size, g6, fun _ => false, rfl, ?_⟩
          · simp only [frmL, Act.put, List.setIfInBounds_toArray, List.set_cons_zero, List.set_cons_succ]
          · exact ⟨HN.gt, HN.k4, HN.k5, fun o => HN.h0 (o.of_set (by decide)), fun o => HN.h1 (o.of_set (by decide)), fun o => HN.h2 (o.of_set (by decide)), fun o => HN.h3 (o.of_set (by decide)), fun o => HN.h4 (o.of_set (by decide)), fun o => HN.h5 (o.of_set (by decide)), fun o => HN.h6 (o.of_set (by decide)), fun o => HN.h7 (o.of_set (by decide)), fun o => HN.h8 (o.of_set (by decide)), fun o => HN.h9 (o.of_set (by decide)), fun o => HN.h10 (o.of_set (by decide)), fun _ => ⟨rfl, blk_lt H.gt.box, Nat.ne_of_lt (blk_lt H.k4), Nat.ne_of_lt (blk_lt H.k5), blk_new _ _ _⟩, fun o2 _ => by obtain ⟨_, _, _, _, r⟩ := H.h10 (o2.of_set (by decide)); exact Nat.ne_of_lt (blk_lt r), fun o => (HN.h12 (o.of_set (by decide))).imp On.old id, fun o => absurd (H.h13 (o.of_set (by decide))).1 hno⟩
        refine StepsI.cons (i := 12) (ws := [10, 3, 9, 0, 1, 2, 3, 10, 11]) rfl (by kernel_rfl) (fun L a W hI hno hon hw K hK => ?_) ?_
        · obtain ⟨_, rfl, u20, u21, u22, u23, u24, u25, u26, u27, u28, u29, u6, u7, q6, q7, g6, g7, rfl, H⟩ := hI
          have e2 := H.h3 (hw 3 (by simp))
          have h7 := H.h10 (hw 10 (by simp))
          have e4 := h7.1
          have hq6 := h7.2.1
          have h46 := h7.2.2.1
          have h56 := h7.2.2.2.1
          have hb6 := h7.2.2.2.2
          clear h7
          simp only [List.getElem_toArray, List.getElem_cons_zero, List.getElem_cons_succ, frmL, Act.put, List.setIfInBounds_toArray, List.set_cons_zero, List.set_cons_succ]
          have HSZ : Hid ((Try.prog.info? 68).map (·.size) = some (bs3 (fun j => decide (j < p.n))).size) := Lib.hid (by show _ = some 3; kernel_rfl)
          have HS1 : Hid ((bs3 (fun j => decide (j < p.n))).all (·.oneCell') = true) := Lib.hid (by simp [bs3, Value.oneCell'])
          rw [if_pos (by rfl)]
          refine wp_store_row 68 _ _ rfl q6 (bs3 (fun j => decide (j < p.n))) e4 e2 68 (bs3 g6) hb6 HSZ.out rfl HS1.out ?_
          have HN := H
          refine hK.out _ _ ⟨[u20, u21, u22, u23, u24, u25, u26, u27, u28, u29, u6, u7], ?_, u20, u21, u22, u23, u24, u25, u26, u27, u28, u29, u6, u7, q6, q7, fun j => decide (j < p.n), g7, rfl, ?_⟩
          · simp only [frmL, Act.put, List.setIfInBounds_toArray, List.set_cons_zero, List.set_cons_succ]
          · exact ⟨H.gt.up2 (below_row (Below.refl (w.heap.size + 1) W) (by omega) _) (by omega) (Nat.lt_succ_self _), blk_row_other H.k4 _ h46, blk_row_other H.k5 _ h56, fun o => HN.h0 (o.of_set (by decide)), fun o => HN.h1 (o.of_set (by decide)), fun o => HN.h2 (o.of_set (by decide)), fun o => HN.h3 (o.of_set (by decide)), fun o => HN.h4 (o.of_set (by decide)), fun o => HN.h5 (o.of_set (by decide)), fun o => HN.h6 (o.of_set (by decide)), fun o => HN.h7 (o.of_set (by decide)), fun o => HN.h8 (o.of_set (by decide)), fun o => HN.h9 (o.of_set (by decide)), fun _ => ⟨e4, hq6, h46, h56, blk_row hb6 _⟩, fun o => by obtain ⟨a, b, c, d, r⟩ := H.h11 (o.of_set (by decide)); exact ⟨a, b, c, d, blk_row_other r _ (fun e => H.hne (hw 10 (by simp)) (o.of_set (by decide)) e.symm)⟩, fun o o2 => HN.hne (o.of_set (by decide)) (o2.of_set (by decide)), fun _ => ⟨(hw 10 (by simp)).old, blk_row hb6 _⟩, fun o => by obtain ⟨a, r⟩ := H.h13 (o.of_set (by decide)); exact ⟨a.old, blk_row_other r _ (fun e => H.hne (hw 10 (by simp)) a e.symm)⟩⟩
        refine StepsI.cons (i := 13) (ws := [11, 9, 12, 0, 1, 2, 3, 4, 5, 6, 7, 8, 9, 10, 11, 12]) rfl (by kernel_rfl) (fun L a W hI hno hon hw K hK => ?_) ?_
        · obtain ⟨_, rfl, u20, u21, u22, u23, u24, u25, u26, u27, u28, u29, u6, u7, q6, q7, g6, g7, rfl, H⟩ := hI
          have e2 := H.h9 (hw 9 (by simp))
          have h7 := H.h11 (hw 11 (by simp))
          have e4 := h7.1
          have hq6 := h7.2.1
          have h46 := h7.2.2.1
          have h56 := h7.2.2.2.1
          have hb6 := h7.2.2.2.2
          clear h7
          simp only [List.getElem_toArray, List.getElem_cons_zero, List.getElem_cons_succ, frmL, Act.put, List.setIfInBounds_toArray, List.set_cons_zero, List.set_cons_succ]
          have HSZ : Hid ((Try.prog.info? 68).map (·.size) = some (bs3 (fun j => decide (j < p.m))).size) := Lib.hid (by show _ = some 3; kernel_rfl)
          have HS1 : Hid ((bs3 (fun j => decide (j < p.m))).all (·.oneCell') = true) := Lib.hid (by simp [bs3, Value.oneCell'])
          rw [if_pos (by rfl)]
          refine wp_store_row 68 _ _ rfl q7 (bs3 (fun j => decide (j < p.m))) e4 e2 68 (bs3 g7) hb6 HSZ.out rfl HS1.out ?_
          have HN := H
          refine hK.out _ _ ⟨[u20, u21, u22, u23, u24, u25, u26, u27, u28, u29, u6, u7], ?_, u20, u21, u22, u23, u24, u25, u26, u27, u28, u29, u6, u7, q6, q7, g6, fun j => decide (j < p.m), rfl, ?_⟩
          · simp only [frmL, Act.put, List.setIfInBounds_toArray, List.set_cons_zero, List.set_cons_succ]
          · exact ⟨H.gt.up2 (below_row (Below.refl (w.heap.size + 1) W) (by omega) _) (by omega) (Nat.lt_succ_self _), blk_row_other H.k4 _ h46, blk_row_other H.k5 _ h56, fun o => HN.h0 (o.of_set (by decide)), fun o => HN.h1 (o.of_set (by decide)), fun o => HN.h2 (o.of_set (by decide)), fun o => HN.h3 (o.of_set (by decide)), fun o => HN.h4 (o.of_set (by decide)), fun o => HN.h5 (o.of_set (by decide)), fun o => HN.h6 (o.of_set (by decide)), fun o => HN.h7 (o.of_set (by decide)), fun o => HN.h8 (o.of_set (by decide)), fun o => HN.h9 (o.of_set (by decide)), fun o => by obtain ⟨a, b, c, d, r⟩ := H.h10 (o.of_set (by decide)); exact ⟨a, b, c, d, blk_row_other r _ (fun e => H.hne (o.of_set (by decide)) (hw 11 (by simp)) e)⟩, fun _ => ⟨e4, hq6, h46, h56, blk_row hb6 _⟩, fun o o2 => HN.hne (o.of_set (by decide)) (o2.of_set (by decide)), fun o => by obtain ⟨a, r⟩ := H.h12 (o.of_set (by decide)); exact ⟨a.old, blk_row_other r _ (fun e => H.hne a (hw 11 (by simp)) e)⟩, fun _ => ⟨(hw 11 (by simp)).old, blk_row hb6 _⟩⟩
        exact StepsI.nil
      · rintro L us W hL ⟨u20, u21, u22, u23, u24, u25, u26, u27, u28, u29, u6, u7, q6, q7, g6, g7, rfl, H⟩
        have h10 := H.h10 (hL 10 (by simp))
        have h11 := H.h11 (hL 11 (by simp))
        have hq6 := h10.2.1
        have hq7 := h11.2.1
        have HN46 := Lib.hid h10.2.2.1
        have HN56 := Lib.hid h10.2.2.2.1
        have HN47 := Lib.hid h11.2.2.1
        have HN57 := Lib.hid h11.2.2.2.1
        have HN67 := Lib.hid (H.hne (hL 10 (by simp)) (hL 11 (by simp)))
        have HL0 := Lib.hid (show LS w xs ys p.n p.m (full9 xs p.n p.m) (full9 (flip ys p.n p.m) p.m p.n) q4 q5 q6 q7 0 W from ⟨H.gt.below, H.k4, H.k5, by have := (H.h12 (hL 12 (by simp))).2; rw [← cut_all] at this; exact this, by have := (H.h13 (hL 13 (by simp))).2; rw [← cut_all] at this; exact this⟩)
        obtain rfl := h10.1
        obtain rfl := h11.1
        clear H h10 h11 hL K4 K5
        simp only [frmL, Act.put, List.setIfInBounds_toArray, List.set_cons_zero, List.set_cons_succ]
        have HFF1 := Lib.hid (fun r j (hr : r < p.n) (hj : j < p.m) => show full9 xs p.n p.m r j = g2 xs r j from if_pos ⟨hr, hj⟩)
        have HFF2 := Lib.hid (fun r j (hr : r < p.m) (hj : j < p.n) => show full9 (flip ys p.n p.m) p.m p.n r j = g2 (flip ys p.n p.m) r j from if_pos ⟨hr, hj⟩)
        have HS9 : Hid (∀ F, (Try.prog.info? 65).map (·.size) = some (cs9 F).size) := Lib.hid (fun F => by show _ = some 9; kernel_rfl)
        have HS3 : Hid (∀ F, (Try.prog.info? 68).map (·.size) = some (bs3 F).size) := Lib.hid (fun F => by show _ = some 3; kernel_rfl)
        have HO3 : Hid (∀ F, (bs3 F).all (·.oneCell') = true) := Lib.hid (fun F => by simp [bs3, Value.oneCell'])
        generalize full9 xs p.n p.m = F1 at *
        generalize full9 (flip ys p.n p.m) p.m p.n = F2 at *
        go_wp2
        go_loopw [8] (fun _ wr => ∃ k : Nat, Hid (LS w xs ys p.n p.m F1 F2 q4 q5 q6 q7 k wr)) (fun _ wr => mB wr q6 + mB wr q7)
        case atStart => exact ⟨0, HL0⟩
        case round =>
          clear HL0
          obtain ⟨k, HL⟩ := hrel
          have HM : Hid (mB wr q6 + mB wr q7 = (selL (loIt xs (flip ys p.n p.m) p.n p.m k).1 p.n).length + (selL (loIt xs (flip ys p.n p.m) p.n p.m k).2 p.m).length) := Lib.hid (by rw [mB_blk HL.out.k6, mB_blk HL.out.k7, cut_sel hn3, cut_sel hm3])
          have HB0 := Lib.hid HL.out.up
          have K4 := Lib.hid HL.out.k4
          have K5 := Lib.hid HL.out.k5
          have K6 := Lib.hid HL.out.k6
          have K7 := Lib.hid HL.out.k7
          have HG1 := Lib.hid (st_cut (a := xs) (f := (loIt xs (flip ys p.n p.m) p.n p.m k).1) (h := (loIt xs (flip ys p.n p.m) p.n p.m k).2) hn3 hm3 F1 HFF1.out)
          have HG2 := Lib.hid (st_cut (a := flip ys p.n p.m) (f := (loIt xs (flip ys p.n p.m) p.n p.m k).2) (h := stayF xs (loIt xs (flip ys p.n p.m) p.n p.m k).1 (loIt xs (flip ys p.n p.m) p.n p.m k).2 p.n p.m) hm3 hn3 F2 HFF2.out)
          have HI1 : Hid ((loIt xs (flip ys p.n p.m) p.n p.m (k + 1)).1 = stayF xs (loIt xs (flip ys p.n p.m) p.n p.m k).1 (loIt xs (flip ys p.n p.m) p.n p.m k).2 p.n p.m) := Lib.hid rfl
          have HI2 : Hid ((loIt xs (flip ys p.n p.m) p.n p.m (k + 1)).2 = stayF (flip ys p.n p.m) (loIt xs (flip ys p.n p.m) p.n p.m k).2 (loIt xs (flip ys p.n p.m) p.n p.m (k + 1)).1 p.m p.n) := Lib.hid rfl
          rw [← HI1.out] at HG1 HG2
          rw [← HI2.out] at HG2
          clear HI1 HI2 HL
          obtain ⟨f, hf⟩ : ∃ f, f = cutF (loIt xs (flip ys p.n p.m) p.n p.m k).1 p.n := ⟨_, rfl⟩
          obtain ⟨h, hh⟩ : ∃ h, h = cutF (loIt xs (flip ys p.n p.m) p.n p.m k).2 p.m := ⟨_, rfl⟩
          obtain ⟨f', hf'⟩ : ∃ f', f' = cutF (loIt xs (flip ys p.n p.m) p.n p.m (k + 1)).1 p.n := ⟨_, rfl⟩
          obtain ⟨h', hh'⟩ : ∃ h', h' = cutF (loIt xs (flip ys p.n p.m) p.n p.m (k + 1)).2 p.m := ⟨_, rfl⟩
          rw [← hf] at K6 HG1
          rw [← hh] at K7 HG1 HG2
          rw [← hf'] at HG1 HG2
          rw [← hh'] at HG2
          have Hf := Lib.hid hf
          have Hh := Lib.hid hh
          have Hf' := Lib.hid hf'
          have Hh' := Lib.hid hh'
          clear hf hh hf' hh'
          have HU1 := Lib.hid (fun W => HG1.out ▸ unbeaten_any F1 f h W)
          have HU2 := Lib.hid (fun W => HG2.out ▸ unbeaten_any F2 h f' W)
          go_wp2_with (first | (refine wpList_load_row rfl 65 _ rfl q4 rfl 65 (cs9 F1) (0, 0) _ K4.out und_cells rfl (HS9.out _) ?_) | (refine wpList_load_row rfl 65 _ rfl q5 rfl 65 (cs9 F2) (0, 0) _ K5.out und_cells rfl (HS9.out _) ?_) | (refine wpList_load_row rfl 68 _ rfl q6 rfl 68 (bs3 f) (0, 0) _ K6.out und_marks rfl (HS3.out _) ?_) | (refine wpList_load_row rfl 68 _ rfl q7 rfl 68 (bs3 h) (0, 0) _ K7.out und_marks rfl (HS3.out _) ?_) | fail)
          refine (HU1.out _).mono ?_
          rintro e w5 ⟨rfl, hb⟩
          have hq := HB0.out.size
          have HB5 := Lib.hid (below_up HB0.out hb)
          have L4 := Lib.hid (blk_below K4.out hb)
          have L5 := Lib.hid (blk_below K5.out hb)
          have L6 := Lib.hid (blk_below K6.out hb)
          have L7 := Lib.hid (blk_below K7.out hb)
          clear hb HB0 K4 K5 K6 K7 HU1
          have M4 := Lib.hid (blk_row_other (blk_old L4.out (.cells #[.bool false, .bool false, .bool false] 68)) (bs3 f') (Nat.ne_of_lt (blk_lt L4.out)))
          have M5 := Lib.hid (blk_row_other (blk_old L5.out (.cells #[.bool false, .bool false, .bool false] 68)) (bs3 f') (Nat.ne_of_lt (blk_lt L5.out)))
          have M6 := Lib.hid (blk_row_other (blk_old L6.out (.cells #[.bool false, .bool false, .bool false] 68)) (bs3 f') (Nat.ne_of_lt (blk_lt L6.out)))
          have M7 := Lib.hid (blk_row_other (blk_old L7.out (.cells #[.bool false, .bool false, .bool false] 68)) (bs3 f') (Nat.ne_of_lt (blk_lt L7.out)))
          have M8 := Lib.hid (blk_row (blk_new w5 68 #[.bool false, .bool false, .bool false]) (bs3 f'))
          have HB6 := Lib.hid (below_row (below_up HB5.out (below_alloc w5 (.cells #[.bool false, .bool false, .bool false] 68))) (g := w5.heap.size) HB5.out.size (bs3 f'))
          have HLTq8 := Lib.hid (And.intro (blk_lt L6.out) (blk_lt L7.out))
          clear L4 L5 L6 L7 HB5
          go_wp2_with (first | (refine wpList_store_row rfl 68 _ _ rfl w5.heap.size (bs3 f') rfl rfl 68 (bs3 fun _ => false) (blk_new w5 68 (bs3 fun _ => false)) (HS3.out _) rfl (HO3.out _) ?_) | (refine wpList_load_row rfl 65 _ rfl q4 rfl 65 (cs9 F1) (0, 0) _ M4.out und_cells rfl (HS9.out _) ?_) | (refine wpList_load_row rfl 65 _ rfl q5 rfl 65 (cs9 F2) (0, 0) _ M5.out und_cells rfl (HS9.out _) ?_) | (refine wpList_load_row rfl 68 _ rfl q6 rfl 68 (bs3 f) (0, 0) _ M6.out und_marks rfl (HS3.out _) ?_) | (refine wpList_load_row rfl 68 _ rfl q7 rfl 68 (bs3 h) (0, 0) _ M7.out und_marks rfl (HS3.out _) ?_) | (refine wpList_load_row rfl 68 _ rfl w5.heap.size rfl 68 (bs3 f') (0, 0) _ M8.out und_marks rfl (HS3.out _) ?_) | fail)
          generalize hW : (w5.alloc (.cells #[.bool false, .bool false, .bool false] 68)).setRow w5.heap.size (bs3 f') = W6 at *
          clear hW
          generalize w5.heap.size = q8 at *
          refine (HU2.out _).mono ?_
          rintro e w7 ⟨rfl, hb⟩
          have HB7 := Lib.hid (below_up HB6.out hb)
          have L4 := Lib.hid (blk_below M4.out hb)
          have L5 := Lib.hid (blk_below M5.out hb)
          have L6 := Lib.hid (blk_below M6.out hb)
          have L7 := Lib.hid (blk_below M7.out hb)
          have L8 := Lib.hid (blk_below M8.out hb)
          clear hb HB6 M4 M5 M6 M7 M8 HU2
          have M4 := Lib.hid (blk_row_other (blk_old L4.out (.cells #[.bool false, .bool false, .bool false] 68)) (bs3 h') (Nat.ne_of_lt (blk_lt L4.out)))
          have M5 := Lib.hid (blk_row_other (blk_old L5.out (.cells #[.bool false, .bool false, .bool false] 68)) (bs3 h') (Nat.ne_of_lt (blk_lt L5.out)))
          have M6 := Lib.hid (blk_row_other (blk_old L6.out (.cells #[.bool false, .bool false, .bool false] 68)) (bs3 h') (Nat.ne_of_lt (blk_lt L6.out)))
          have M7 := Lib.hid (blk_row_other (blk_old L7.out (.cells #[.bool false, .bool false, .bool false] 68)) (bs3 h') (Nat.ne_of_lt (blk_lt L7.out)))
          have M8 := Lib.hid (blk_row_other (blk_old L8.out (.cells #[.bool false, .bool false, .bool false] 68)) (bs3 h') (Nat.ne_of_lt (blk_lt L8.out)))
          have M9 := Lib.hid (blk_row (blk_new w7 68 #[.bool false, .bool false, .bool false]) (bs3 h'))
          have HB8 := Lib.hid (below_row (below_up HB7.out (below_alloc w7 (.cells #[.bool false, .bool false, .bool false] 68))) (g := w7.heap.size) HB7.out.size (bs3 h'))
          have HLTq9 := Lib.hid (And.intro (blk_lt L6.out) (blk_lt L7.out))
          clear L4 L5 L6 L7 L8 HB7
          have HE1 := eqb_op f' f
          have HE2 := eqb_op h' h
          simp only [bs3] at HE1 HE2
          have M6_0 := blk_cell M6.out (i := 0) (v := .bool (f 0)) rfl
          have M6_1 := blk_cell M6.out (i := 1) (v := .bool (f 1)) rfl
          have M6_2 := blk_cell M6.out (i := 2) (v := .bool (f 2)) rfl
          have M7_0 := blk_cell M7.out (i := 0) (v := .bool (h 0)) rfl
          have M7_1 := blk_cell M7.out (i := 1) (v := .bool (h 1)) rfl
          have M7_2 := blk_cell M7.out (i := 2) (v := .bool (h 2)) rfl
          have M8_0 := blk_cell M8.out (i := 0) (v := .bool (f' 0)) rfl
          have M8_1 := blk_cell M8.out (i := 1) (v := .bool (f' 1)) rfl
          have M8_2 := blk_cell M8.out (i := 2) (v := .bool (f' 2)) rfl
          have M9_0 := blk_cell M9.out (i := 0) (v := .bool (h' 0)) rfl
          have M9_1 := blk_cell M9.out (i := 1) (v := .bool (h' 1)) rfl
          have M9_2 := blk_cell M9.out (i := 2) (v := .bool (h' 2)) rfl
          by_cases hs1 : f' 0 = f 0 ∧ f' 1 = f 1 ∧ f' 2 = f 2
          · have hd1 : decide (f' 0 = f 0 ∧ f' 1 = f 1 ∧ f' 2 = f 2) = true := decide_eq_true hs1
            rw [hd1] at HE1
            by_cases hs2 : h' 0 = h 0 ∧ h' 1 = h 1 ∧ h' 2 = h 2
            · have hd2 : decide (h' 0 = h 0 ∧ h' 1 = h 1 ∧ h' 2 = h 2) = true := decide_eq_true hs2
              rw [hd2] at HE2
              have HSM := Lib.hid (And.intro hs1 hs2)
              clear hd1 hd2 hs1 hs2
              go_wp2_with (refine wpList_store_row rfl 68 _ _ rfl w7.heap.size (bs3 h') rfl rfl 68 (bs3 fun _ => false) (blk_new w7 68 (bs3 fun _ => false)) (HS3.out _) rfl (HO3.out _) ?_)
              clear HE1 HE2 M6_0 M6_1 M6_2 M7_0 M7_1 M7_2 M8_0 M8_1 M8_2 M9_0 M9_1 M9_2
              generalize hW : (w7.alloc (.cells #[.bool false, .bool false, .bool false] 68)).setRow w7.heap.size (bs3 h') = W8 at *
              clear hW
              generalize w7.heap.size = q9 at *
              refine wp_region_invF (rs := [0, 1, 2, 3, 4, 5]) [46, 47, 48, 49, 2, 3] (fun L us W => ∃ u46 u47 u48 u49 u2 u3 A1 n1 c1 g1 A2 n2 c2 g2, us = [u46, u47, u48, u49, u2, u3] ∧ R8 w q6 q7 f h L u46 u47 u48 u49 u2 u3 A1 n1 c1 g1 A2 n2 c2 g2 W) (by kernel_rfl) ?_ (by kernel_rfl) (by kernel_rfl) ?_ ?_
              · refine ⟨[u46, u47, u48, u49, u2, u3], ?_, u46, u47, u48, u49, u2, u3, none, 0, 0, 0, none, 0, 0, 0, rfl, ?_⟩
                · simp only [frmL, Act.put, List.setIfInBounds_toArray, List.set_cons_zero, List.set_cons_succ]
                exact ⟨below_drewN HB8.out 1, blk_quiet M6.out ⟨1, rfl⟩, blk_quiet M7.out ⟨1, rfl⟩, fun o => o.not_start.elim, fun o => o.not_start.elim, fun o => o.not_start.elim, fun o => o.not_start.elim, fun o => o.not_start.elim, fun o => o.not_start.elim, fun o => o.not_start.elim⟩
              · refine StepsI.cons (i := 0) (ws := []) rfl (by kernel_rfl) (fun L a W hI hno hon hw K hK => ?_) ?_
                · obtain ⟨_, rfl, u46, u47, u48, u49, u2, u3, A1, n1, c1, g1, A2, n2, c2, g2, rfl, H⟩ := hI
                  simp only [List.getElem_toArray, List.getElem_cons_zero, frmL, Act.put, List.setIfInBounds_toArray, List.set_cons_zero, List.set_cons_succ]
                  rw [if_pos (by rfl)]
                  refine wp_load_row 68 _ rfl q6 rfl 68 (bs3 f) (0, 0) _ H.k6 und_marks rfl (HS3.out _) ?_
                  simp only [Act.put, List.setIfInBounds_toArray, List.set_cons_zero, List.set_cons_succ]
                  have HN := H
                  refine hK.out _ _ ⟨[.agg (bs3 f), u47, u48, u49, u2, u3], ?_, .agg (bs3 f), u47, u48, u49, u2, u3, A1, n1, c1, g1, A2, n2, c2, g2, rfl, ?_⟩
                  · simp only [frmL, Act.put, List.setIfInBounds_toArray, List.set_cons_zero, List.set_cons_succ]
                  · exact ⟨HN.bl, HN.k6, HN.k7, fun _ => rfl, fun o => HN.h1 (o.of_set (by decide)), fun o => HN.h2 (o.of_set (by decide)), fun o => HN.h3 (o.of_set (by decide)), fun o => (HN.hd (o.of_set (by decide))).imp On.old id, fun o => (HN.h4 (o.of_set (by decide))).imp On.old id, fun o => (HN.h5 (o.of_set (by decide))).imp On.old id⟩
                refine StepsI.cons (i := 1) (ws := [0]) rfl (by kernel_rfl) (fun L a W hI hno hon hw K hK => ?_) ?_
                · obtain ⟨_, rfl, u46, u47, u48, u49, u2, u3, A1, n1, c1, g1, A2, n2, c2, g2, rfl, H⟩ := hI
                  have e0 := H.h0 (hw 0 (by simp))
                  subst e0
                  simp only [List.getElem_toArray, List.getElem_cons_zero, List.getElem_cons_succ, frmL, Act.put, List.setIfInBounds_toArray, List.set_cons_zero, List.set_cons_succ]
                  go_simp
                  go_wp2_with (go_at_call 73; (with_reducible refine (marked_any f W).mono ?_); intro e w9 hnew; obtain ⟨A9, n9, c9, g9, rfl, hl9, ho9, hb⟩ := hnew; have HL9 := Lib.hid hl9; clear hl9)
                  have hs := SelO.mk (ho9.mono H.bl.size (Nat.le_refl _)) HL9.out
                  have HN := H.up hb
                  refine hK.out _ _ ⟨[.agg (bs3 f), .slice A9 n9 c9, u48, u49, u2, u3], ?_, .agg (bs3 f), .slice A9 n9 c9, u48, u49, u2, u3, A9, n9, c9, g9, A2, n2, c2, g2, rfl, ?_⟩
                  · simp only [frmL, Act.put, List.setIfInBounds_toArray, List.set_cons_zero, List.set_cons_succ]
                  · exact ⟨HN.bl, HN.k6, HN.k7, fun o => HN.h0 (o.of_set (by decide)), fun _ => ⟨rfl, hs⟩, fun o => HN.h2 (o.of_set (by decide)), fun o => HN.h3 (o.of_set (by decide)), fun o => absurd (H.hd (o.of_set (by decide))).1 hno, fun o => absurd (H.h4 (o.of_set (by decide))).1 hno, fun o => (HN.h5 (o.of_set (by decide))).imp On.old id⟩
                refine StepsI.cons (i := 2) (ws := []) rfl (by kernel_rfl) (fun L a W hI hno hon hw K hK => ?_) ?_
                · obtain ⟨_, rfl, u46, u47, u48, u49, u2, u3, A1, n1, c1, g1, A2, n2, c2, g2, rfl, H⟩ := hI
                  simp only [List.getElem_toArray, List.getElem_cons_zero, List.getElem_cons_succ, frmL, Act.put, List.setIfInBounds_toArray, List.set_cons_zero, List.set_cons_succ]
                  rw [if_pos (by rfl)]
                  refine wp_load_row 68 _ rfl q7 rfl 68 (bs3 h) (0, 0) _ H.k7 und_marks rfl (HS3.out _) ?_
                  simp only [Act.put, List.setIfInBounds_toArray, List.set_cons_zero, List.set_cons_succ]
                  have HN := H
                  refine hK.out _ _ ⟨[u46, u47, .agg (bs3 h), u49, u2, u3], ?_, u46, u47, .agg (bs3 h), u49, u2, u3, A1, n1, c1, g1, A2, n2, c2, g2, rfl, ?_⟩
                  · simp only [frmL, Act.put, List.setIfInBounds_toArray, List.set_cons_zero, List.set_cons_succ]
                  · exact ⟨HN.bl, HN.k6, HN.k7, fun o => HN.h0 (o.of_set (by decide)), fun o => HN.h1 (o.of_set (by decide)), fun _ => rfl, fun o => HN.h3 (o.of_set (by decide)), fun o => (HN.hd (o.of_set (by decide))).imp On.old id, fun o => (HN.h4 (o.of_set (by decide))).imp On.old id, fun o => (HN.h5 (o.of_set (by decide))).imp On.old id⟩
                refine StepsI.cons (i := 3) (ws := [2, 1]) rfl (by kernel_rfl) (fun L a W hI hno hon hw K hK => ?_) ?_
                · obtain ⟨_, rfl, u46, u47, u48, u49, u2, u3, A1, n1, c1, g1, A2, n2, c2, g2, rfl, H⟩ := hI
                  have e0 := H.h2 (hw 2 (by simp))
                  subst e0
                  simp only [List.getElem_toArray, List.getElem_cons_zero, List.getElem_cons_succ, frmL, Act.put, List.setIfInBounds_toArray, List.set_cons_zero, List.set_cons_succ]
                  go_simp
                  go_wp2_with (go_at_call 73; (with_reducible refine (marked_any h W).mono ?_); intro e w9 hnew; obtain ⟨A9, n9, c9, g9, rfl, hl9, ho9, hb⟩ := hnew; have HL9 := Lib.hid hl9; clear hl9)
                  have hs := SelO.mk (ho9.mono H.bl.size (Nat.le_refl _)) HL9.out
                  have HN := H.up hb
                  refine hK.out _ _ ⟨[u46, u47, .agg (bs3 h), .slice A9 n9 c9, u2, u3], ?_, u46, u47, .agg (bs3 h), .slice A9 n9 c9, u2, u3, A1, n1, c1, g1, A9, n9, c9, g9, rfl, ?_⟩
                  · simp only [frmL, Act.put, List.setIfInBounds_toArray, List.set_cons_zero, List.set_cons_succ]
                  · exact ⟨HN.bl, HN.k6, HN.k7, fun o => HN.h0 (o.of_set (by decide)), fun o => HN.h1 (o.of_set (by decide)), fun o => HN.h2 (o.of_set (by decide)), fun _ => ⟨rfl, hs⟩, fun _ => ⟨(hw 1 (by simp)).old, fun hp1 hp2 => by have q1 := (H.h1 (hw 1 (by simp))).2.own.lt hp1; obtain ⟨_, _, q2, _⟩ := ho9.own hp2; omega⟩, fun o => (HN.h4 (o.of_set (by decide))).imp On.old id, fun o => absurd (H.h5 (o.of_set (by decide))).1 hno⟩
                refine StepsI.cons (i := 4) (ws := [1, 3, 0, 1]) rfl (by kernel_rfl) (fun L a W hI hno hon hw K hK => ?_) ?_
                · obtain ⟨_, rfl, u46, u47, u48, u49, u2, u3, A1, n1, c1, g1, A2, n2, c2, g2, rfl, H⟩ := hI
                  simp only [List.getElem_toArray, List.getElem_cons_zero, List.getElem_cons_succ, frmL, Act.put, List.setIfInBounds_toArray, List.set_cons_zero, List.set_cons_succ]
                  go_simp
                  have HN := H
                  refine hK.out _ _ ⟨[u46, u47, u48, u49, u47, u3], ?_, u46, u47, u48, u49, u47, u3, A1, n1, c1, g1, A2, n2, c2, g2, rfl, ?_⟩
                  · simp only [frmL, Act.put, List.setIfInBounds_toArray, List.set_cons_zero, List.set_cons_succ]
                  · exact ⟨HN.bl, HN.k6, HN.k7, fun o => HN.h0 (o.of_set (by decide)), fun o => HN.h1 (o.of_set (by decide)), fun o => HN.h2 (o.of_set (by decide)), fun o => HN.h3 (o.of_set (by decide)), fun o => (HN.hd (o.of_set (by decide))).imp On.old id, fun _ => ⟨(hw 1 (by simp)).old, (H.h1 (hw 1 (by simp))).1⟩, fun o => (HN.h5 (o.of_set (by decide))).imp On.old id⟩
                refine StepsI.cons (i := 5) (ws := [3, 4, 0, 1, 2, 3, 4]) rfl (by kernel_rfl) (fun L a W hI hno hon hw K hK => ?_) ?_
                · obtain ⟨_, rfl, u46, u47, u48, u49, u2, u3, A1, n1, c1, g1, A2, n2, c2, g2, rfl, H⟩ := hI
                  simp only [List.getElem_toArray, List.getElem_cons_zero, List.getElem_cons_succ, frmL, Act.put, List.setIfInBounds_toArray, List.set_cons_zero, List.set_cons_succ]
                  go_simp
                  have HN := H
                  refine hK.out _ _ ⟨[u46, u47, u48, u49, u2, u49], ?_, u46, u47, u48, u49, u2, u49, A1, n1, c1, g1, A2, n2, c2, g2, rfl, ?_⟩
                  · simp only [frmL, Act.put, List.setIfInBounds_toArray, List.set_cons_zero, List.set_cons_succ]
                  · exact ⟨HN.bl, HN.k6, HN.k7, fun o => HN.h0 (o.of_set (by decide)), fun o => HN.h1 (o.of_set (by decide)), fun o => HN.h2 (o.of_set (by decide)), fun o => HN.h3 (o.of_set (by decide)), fun o => (HN.hd (o.of_set (by decide))).imp On.old id, fun o => (HN.h4 (o.of_set (by decide))).imp On.old id, fun _ => ⟨(hw 3 (by simp)).old, (H.h3 (hw 3 (by simp))).1⟩⟩
                exact StepsI.nil
              · rintro L us W hL ⟨u46, u47, u48, u49, u2, u3, A1, n1, c1, g1, A2, n2, c2, g2, rfl, H⟩
                have h4 := (H.h4 (hL 4 (by simp))).2
                have h5 := (H.h5 (hL 5 (by simp))).2
                have HS1 := Lib.hid (H.h1 (hL 1 (by simp))).2
                have HS2 := Lib.hid (H.h3 (hL 3 (by simp))).2
                have HBL := Lib.hid H.bl
                have HD := Lib.hid (H.hd (hL 3 (by simp))).2
                have hn1' := HS1.out.own.ints.max
                subst h4
                subst h5
                clear H hL
                have HLX := Lib.hid GT4.out.gv0.lx
                have HMX := Lib.hid GT4.out.gv0.mx
                have HE := Lib.hid (show LeftX xs ys w (.returned (.tuple #[.slice A1 n1 c1, .slice A2 n2 c2])) W from by
                  refine .inr ⟨HV.out, k, ?_, ?_⟩
                  · rw [HLX.out, HMX.out]
                    obtain ⟨⟨a0, a1, a2⟩, b0, b1, b2⟩ := HSM.out
                    rw [Hf.out, Hf'.out] at a0 a1 a2
                    rw [Hh.out, Hh'.out] at b0 b1 b2
                    exact ⟨fun i hi => cut3 hn3 a0 a1 a2 i hi, fun i hi => cut3 hm3 b0 b1 b2 i hi⟩
                  · rw [HLX.out, HMX.out]
                    have e1 := HS1.out
                    have e2 := HS2.out
                    have l1 := e1.len
                    have l2 := e2.len
                    have o1 := e1.own
                    have o2 := e2.own
                    rw [Hf.out, cut_sel hn3] at l1 o1
                    rw [Hh.out, cut_sel hm3] at l2 o2
                    exact ⟨_, _, _, g1, _, _, _, g2, rfl, l1, l2, o1, o2, HBL.out, HD.out⟩)
                clear HS1 HS2 HBL HD
                go_wp2
                simp only [frmL, Act.put, List.setIfInBounds_toArray, List.set_cons_zero, List.set_cons_succ]
                go_wp2
                go_ret2
                exact HE.out
            · have hd2 : decide (h' 0 = h 0 ∧ h' 1 = h 1 ∧ h' 2 = h 2) = false := decide_eq_false hs2
              rw [hd2] at HE2
              have HNS := Lib.hid (show ¬ ((f' 0 = f 0 ∧ f' 1 = f 1 ∧ f' 2 = f 2) ∧ h' 0 = h 0 ∧ h' 1 = h 1 ∧ h' 2 = h 2) from fun e => hs2 e.2)
              clear hd1 hd2 hs1 hs2
              go_wp2_with (refine wpList_store_row rfl 68 _ _ rfl w7.heap.size (bs3 h') rfl rfl 68 (bs3 fun _ => false) (blk_new w7 68 (bs3 fun _ => false)) (HS3.out _) rfl (HO3.out _) ?_)
              clear HE1 HE2 M6_0 M6_1 M6_2 M7_0 M7_1 M7_2 M8_0 M8_1 M8_2 M9_0 M9_1 M9_2
              generalize hW : (w7.alloc (.cells #[.bool false, .bool false, .bool false] 68)).setRow w7.heap.size (bs3 h') = W8 at *
              clear hW
              generalize w7.heap.size = q9 at *
              refine wp_region_invF (rs := [0, 1, 2, 3]) [50, 51] (fun L us W => ∃ u50 u51 g6 g7, us = [u50, u51] ∧ R9 w q4 q5 q6 q7 q8 q9 F1 F2 f' h' L u50 u51 g6 g7 W) (by kernel_rfl) ?_ (by kernel_rfl) (by kernel_rfl) ?_ ?_
              · refine ⟨[u50, u51], ?_, u50, u51, f, h, rfl, ?_⟩
                · simp only [frmL, Act.put, List.setIfInBounds_toArray, List.set_cons_zero, List.set_cons_succ]
                exact ⟨below_drewN HB8.out 1, blk_quiet M4.out ⟨1, rfl⟩, blk_quiet M5.out ⟨1, rfl⟩, blk_quiet M6.out ⟨1, rfl⟩, blk_quiet M7.out ⟨1, rfl⟩, blk_quiet M8.out ⟨1, rfl⟩, blk_quiet M9.out ⟨1, rfl⟩, fun o => o.not_start.elim, fun o => o.not_start.elim, fun o => o.not_start.elim, fun o => o.not_start.elim⟩
              · refine StepsI.cons (i := 0) (ws := []) rfl (by kernel_rfl) (fun L a W hI hno hon hw K hK => ?_) ?_
                · obtain ⟨_, rfl, u50, u51, g6, g7, rfl, H⟩ := hI
                  simp only [List.getElem_toArray, List.getElem_cons_zero, frmL, Act.put, List.setIfInBounds_toArray, List.set_cons_zero, List.set_cons_succ]
                  rw [if_pos (by rfl)]
                  refine wp_load_row 68 _ rfl q8 rfl 68 (bs3 f') (0, 0) _ H.k8 und_marks rfl (HS3.out _) ?_
                  simp only [Act.put, List.setIfInBounds_toArray, List.set_cons_zero, List.set_cons_succ]
                  have HN := H
                  refine hK.out _ _ ⟨[.agg (bs3 f'), u51], ?_, .agg (bs3 f'), u51, g6, g7, rfl, ?_⟩
                  · simp only [frmL, Act.put, List.setIfInBounds_toArray, List.set_cons_zero, List.set_cons_succ]
                  · exact ⟨HN.bl, HN.k4, HN.k5, HN.k6, HN.k7, HN.k8, HN.k9, fun _ => rfl, fun o => HN.h1 (o.of_set (by decide)), fun o => HN.h2 (o.of_set (by decide)), fun o => HN.h3 (o.of_set (by decide))⟩
                refine StepsI.cons (i := 1) (ws := []) rfl (by kernel_rfl) (fun L a W hI hno hon hw K hK => ?_) ?_
                · obtain ⟨_, rfl, u50, u51, g6, g7, rfl, H⟩ := hI
                  simp only [List.getElem_toArray, List.getElem_cons_zero, List.getElem_cons_succ, frmL, Act.put, List.setIfInBounds_toArray, List.set_cons_zero, List.set_cons_succ]
                  rw [if_pos (by rfl)]
                  refine wp_load_row 68 _ rfl q9 rfl 68 (bs3 h') (0, 0) _ H.k9 und_marks rfl (HS3.out _) ?_
                  simp only [Act.put, List.setIfInBounds_toArray, List.set_cons_zero, List.set_cons_succ]
                  have HN := H
                  refine hK.out _ _ ⟨[u50, .agg (bs3 h')], ?_, u50, .agg (bs3 h'), g6, g7, rfl, ?_⟩
                  · simp only [frmL, Act.put, List.setIfInBounds_toArray, List.set_cons_zero, List.set_cons_succ]
                  · exact ⟨HN.bl, HN.k4, HN.k5, HN.k6, HN.k7, HN.k8, HN.k9, fun o => HN.h0 (o.of_set (by decide)), fun _ => rfl, fun o => HN.h2 (o.of_set (by decide)), fun o => HN.h3 (o.of_set (by decide))⟩
                refine StepsI.cons (i := 2) (ws := [0, 0]) rfl (by kernel_rfl) (fun L a W hI hno hon hw K hK => ?_) ?_
                · obtain ⟨_, rfl, u50, u51, g6, g7, rfl, H⟩ := hI
                  have e2 := H.h0 (hw 0 (by simp))
                  simp only [List.getElem_toArray, List.getElem_cons_zero, List.getElem_cons_succ, frmL, Act.put, List.setIfInBounds_toArray, List.set_cons_zero, List.set_cons_succ]
                  rw [if_pos (by rfl)]
                  refine wp_store_row 68 _ _ rfl q6 (bs3 f') rfl e2 68 (bs3 g6) H.k6 (HS3.out _) rfl (HO3.out _) ?_
                  have HN := H
                  refine hK.out _ _ ⟨[u50, u51], ?_, u50, u51, f', g7, rfl, ?_⟩
                  · simp only [frmL, Act.put, List.setIfInBounds_toArray, List.set_cons_zero, List.set_cons_succ]
                  · exact ⟨below_row H.bl (by omega) _, blk_row_other H.k4 _ HN46.out, blk_row_other H.k5 _ HN56.out, blk_row H.k6 _, blk_row_other H.k7 _ (fun e => HN67.out e.symm), blk_row_other H.k8 _ (by have := HLTq8.out; omega), blk_row_other H.k9 _ (by have := HLTq9.out; omega), fun o => HN.h0 (o.of_set (by decide)), fun o => HN.h1 (o.of_set (by decide)), fun _ => blk_row H.k6 _, fun o => blk_row_other (H.h3 (o.of_set (by decide))) _ (fun e => HN67.out e.symm)⟩
                refine StepsI.cons (i := 3) (ws := [1, 2, 0, 1, 2]) rfl (by kernel_rfl) (fun L a W hI hno hon hw K hK => ?_) ?_
                · obtain ⟨_, rfl, u50, u51, g6, g7, rfl, H⟩ := hI
                  have e2 := H.h1 (hw 1 (by simp))
                  simp only [List.getElem_toArray, List.getElem_cons_zero, List.getElem_cons_succ, frmL, Act.put, List.setIfInBounds_toArray, List.set_cons_zero, List.set_cons_succ]
                  rw [if_pos (by rfl)]
                  refine wp_store_row 68 _ _ rfl q7 (bs3 h') rfl e2 68 (bs3 g7) H.k7 (HS3.out _) rfl (HO3.out _) ?_
                  have HN := H
                  refine hK.out _ _ ⟨[u50, u51], ?_, u50, u51, g6, h', rfl, ?_⟩
                  · simp only [frmL, Act.put, List.setIfInBounds_toArray, List.set_cons_zero, List.set_cons_succ]
                  · exact ⟨below_row H.bl (by omega) _, blk_row_other H.k4 _ HN47.out, blk_row_other H.k5 _ HN57.out, blk_row_other H.k6 _ HN67.out, blk_row H.k7 _, blk_row_other H.k8 _ (by have := HLTq8.out; omega), blk_row_other H.k9 _ (by have := HLTq9.out; omega), fun o => HN.h0 (o.of_set (by decide)), fun o => HN.h1 (o.of_set (by decide)), fun o => blk_row_other (H.h2 (o.of_set (by decide))) _ HN67.out, fun _ => blk_row H.k7 _⟩
                exact StepsI.nil
              · rintro L us W hL ⟨u50, u51, g6, g7, rfl, H⟩
                have HZ := Lib.hid (show LS w xs ys p.n p.m F1 F2 q4 q5 q6 q7 (k + 1) W from ⟨H.bl, H.k4, H.k5, by rw [← Hf'.out]; exact H.h2 (hL 2 (by simp)), by rw [← Hh'.out]; exact H.h3 (hL 3 (by simp))⟩)
                have HMM : Hid (mB W q6 + mB W q7 < mB wr q6 + mB wr q7) := Lib.hid (by
                  rw [HM.out, mB_blk HZ.out.k6, mB_blk HZ.out.k7, cut_sel hn3, cut_sel hm3]
                  refine lo_less (fun e => HNS.out ?_)
                  have hsm := lo_same e
                  rw [Hf.out, Hf'.out, Hh.out, Hh'.out]
                  exact ⟨cut3' hsm.1, cut3' hsm.2⟩)
                clear H hL
                go_wp2
                simp only [frmL, Act.put, List.setIfInBounds_toArray, List.set_cons_zero, List.set_cons_succ]
                go_wp2
                go_roundw
                case rel => exact ⟨k + 1, HZ⟩
                case measure => exact HMM.out
          · have hd1 : decide (f' 0 = f 0 ∧ f' 1 = f 1 ∧ f' 2 = f 2) = false := decide_eq_false hs1
            rw [hd1] at HE1
            have HNS := Lib.hid (show ¬ ((f' 0 = f 0 ∧ f' 1 = f 1 ∧ f' 2 = f 2) ∧ h' 0 = h 0 ∧ h' 1 = h 1 ∧ h' 2 = h 2) from fun e => hs1 e.1)
            clear hd1 hs1 HE2
            go_wp2_with (refine wpList_store_row rfl 68 _ _ rfl w7.heap.size (bs3 h') rfl rfl 68 (bs3 fun _ => false) (blk_new w7 68 (bs3 fun _ => false)) (HS3.out _) rfl (HO3.out _) ?_)
            clear HE1 M6_0 M6_1 M6_2 M7_0 M7_1 M7_2 M8_0 M8_1 M8_2 M9_0 M9_1 M9_2
            generalize hW : (w7.alloc (.cells #[.bool false, .bool false, .bool false] 68)).setRow w7.heap.size (bs3 h') = W8 at *
            clear hW
            generalize w7.heap.size = q9 at *
            refine wp_region_invF (rs := [0, 1, 2, 3]) [50, 51] (fun L us W => ∃ u50 u51 g6 g7, us = [u50, u51] ∧ R9 w q4 q5 q6 q7 q8 q9 F1 F2 f' h' L u50 u51 g6 g7 W) (by kernel_rfl) ?_ (by kernel_rfl) (by kernel_rfl) ?_ ?_
            · refine ⟨[u50, u51], ?_, u50, u51, f, h, rfl, ?_⟩
              · simp only [frmL, Act.put, List.setIfInBounds_toArray, List.set_cons_zero, List.set_cons_succ]
              exact ⟨below_drewN HB8.out 1, blk_quiet M4.out ⟨1, rfl⟩, blk_quiet M5.out ⟨1, rfl⟩, blk_quiet M6.out ⟨1, rfl⟩, blk_quiet M7.out ⟨1, rfl⟩, blk_quiet M8.out ⟨1, rfl⟩, blk_quiet M9.out ⟨1, rfl⟩, fun o => o.not_start.elim, fun o => o.not_start.elim, fun o => o.not_start.elim, fun o => o.not_start.elim⟩
            · refine StepsI.cons (i := 0) (ws := []) rfl (by kernel_rfl) (fun L a W hI hno hon hw K hK => ?_) ?_
              · obtain ⟨_, rfl, u50, u51, g6, g7, rfl, H⟩ := hI
                simp only [List.getElem_toArray, List.getElem_cons_zero, frmL, Act.put, List.setIfInBounds_toArray, List.set_cons_zero, List.set_cons_succ]
                rw [if_pos (by rfl)]
                refine wp_load_row 68 _ rfl q8 rfl 68 (bs3 f') (0, 0) _ H.k8 und_marks rfl (HS3.out _) ?_
                simp only [Act.put, List.setIfInBounds_toArray, List.set_cons_zero, List.set_cons_succ]
                have HN := H
                refine hK.out _ _ ⟨[.agg (bs3 f'), u51], ?_, .agg (bs3 f'), u51, g6, g7, rfl, ?_⟩
                · simp only [frmL, Act.put, List.setIfInBounds_toArray, List.set_cons_zero, List.set_cons_succ]
                · exact ⟨HN.bl, HN.k4, HN.k5, HN.k6, HN.k7, HN.k8, HN.k9, fun _ => rfl, fun o => HN.h1 (o.of_set (by decide)), fun o => HN.h2 (o.of_set (by decide)), fun o => HN.h3 (o.of_set (by decide))⟩
              refine StepsI.cons (i := 1) (ws := []) rfl (by kernel_rfl) (fun L a W hI hno hon hw K hK => ?_) ?_
              · obtain ⟨_, rfl, u50, u51, g6, g7, rfl, H⟩ := hI
                simp only [List.getElem_toArray, List.getElem_cons_zero, List.getElem_cons_succ, frmL, Act.put, List.setIfInBounds_toArray, List.set_cons_zero, List.set_cons_succ]
                rw [if_pos (by rfl)]
                refine wp_load_row 68 _ rfl q9 rfl 68 (bs3 h') (0, 0) _ H.k9 und_marks rfl (HS3.out _) ?_
                simp only [Act.put, List.setIfInBounds_toArray, List.set_cons_zero, List.set_cons_succ]
                have HN := H
                refine hK.out _ _ ⟨[u50, .agg (bs3 h')], ?_, u50, .agg (bs3 h'), g6, g7, rfl, ?_⟩
                · simp only [frmL, Act.put, List.setIfInBounds_toArray, List.set_cons_zero, List.set_cons_succ]
                · exact ⟨HN.bl, HN.k4, HN.k5, HN.k6, HN.k7, HN.k8, HN.k9, fun o => HN.h0 (o.of_set (by decide)), fun _ => rfl, fun o => HN.h2 (o.of_set (by decide)), fun o => HN.h3 (o.of_set (by decide))⟩
              refine StepsI.cons (i := 2) (ws := [0, 0]) rfl (by kernel_rfl) (fun L a W hI hno hon hw K hK => ?_) ?_
              · obtain ⟨_, rfl, u50, u51, g6, g7, rfl, H⟩ := hI
                have e2 := H.h0 (hw 0 (by simp))
                simp only [List.getElem_toArray, List.getElem_cons_zero, List.getElem_cons_succ, frmL, Act.put, List.setIfInBounds_toArray, List.set_cons_zero, List.set_cons_succ]
                rw [if_pos (by rfl)]
                refine wp_store_row 68 _ _ rfl q6 (bs3 f') rfl e2 68 (bs3 g6) H.k6 (HS3.out _) rfl (HO3.out _) ?_
                have HN := H
                refine hK.out _ _ ⟨[u50, u51], ?_, u50, u51, f', g7, rfl, ?_⟩
                · simp only [frmL, Act.put, List.setIfInBounds_toArray, List.set_cons_zero, List.set_cons_succ]
                · exact ⟨below_row H.bl (by omega) _, blk_row_other H.k4 _ HN46.out, blk_row_other H.k5 _ HN56.out, blk_row H.k6 _, blk_row_other H.k7 _ (fun e => HN67.out e.symm), blk_row_other H.k8 _ (by have := HLTq8.out; omega), blk_row_other H.k9 _ (by have := HLTq9.out; omega), fun o => HN.h0 (o.of_set (by decide)), fun o => HN.h1 (o.of_set (by decide)), fun _ => blk_row H.k6 _, fun o => blk_row_other (H.h3 (o.of_set (by decide))) _ (fun e => HN67.out e.symm)⟩
              refine StepsI.cons (i := 3) (ws := [1, 2, 0, 1, 2]) rfl (by kernel_rfl) (fun L a W hI hno hon hw K hK => ?_) ?_
              · obtain ⟨_, rfl, u50, u51, g6, g7, rfl, H⟩ := hI
                have e2 := H.h1 (hw 1 (by simp))
                simp only [List.getElem_toArray, List.getElem_cons_zero, List.getElem_cons_succ, frmL, Act.put, List.setIfInBounds_toArray, List.set_cons_zero, List.set_cons_succ]
                rw [if_pos (by rfl)]
                refine wp_store_row 68 _ _ rfl q7 (bs3 h') rfl e2 68 (bs3 g7) H.k7 (HS3.out _) rfl (HO3.out _) ?_
                have HN := H
                refine hK.out _ _ ⟨[u50, u51], ?_, u50, u51, g6, h', rfl, ?_⟩
                · simp only [frmL, Act.put, List.setIfInBounds_toArray, List.set_cons_zero, List.set_cons_succ]
                · exact ⟨below_row H.bl (by omega) _, blk_row_other H.k4 _ HN47.out, blk_row_other H.k5 _ HN57.out, blk_row_other H.k6 _ HN67.out, blk_row H.k7 _, blk_row_other H.k8 _ (by have := HLTq8.out; omega), blk_row_other H.k9 _ (by have := HLTq9.out; omega), fun o => HN.h0 (o.of_set (by decide)), fun o => HN.h1 (o.of_set (by decide)), fun o => blk_row_other (H.h2 (o.of_set (by decide))) _ HN67.out, fun _ => blk_row H.k7 _⟩
              exact StepsI.nil
            · rintro L us W hL ⟨u50, u51, g6, g7, rfl, H⟩
              have HZ := Lib.hid (show LS w xs ys p.n p.m F1 F2 q4 q5 q6 q7 (k + 1) W from ⟨H.bl, H.k4, H.k5, by rw [← Hf'.out]; exact H.h2 (hL 2 (by simp)), by rw [← Hh'.out]; exact H.h3 (hL 3 (by simp))⟩)
              have HMM : Hid (mB W q6 + mB W q7 < mB wr q6 + mB wr q7) := Lib.hid (by
                rw [HM.out, mB_blk HZ.out.k6, mB_blk HZ.out.k7, cut_sel hn3, cut_sel hm3]
                refine lo_less (fun e => HNS.out ?_)
                have hsm := lo_same e
                rw [Hf.out, Hf'.out, Hh.out, Hh'.out]
                exact ⟨cut3' hsm.1, cut3' hsm.2⟩)
              clear H hL
              go_wp2
              simp only [frmL, Act.put, List.setIfInBounds_toArray, List.set_cons_zero, List.set_cons_succ]
              go_wp2
              go_roundw
              case rel => exact ⟨k + 1, HZ⟩
              case measure => exact HMM.out
  · refine ((pb_false hv) ▸ HC.out).mono ?_
    rintro e w1 ⟨rfl, hb⟩
    have HE := Lib.hid (show LeftX xs ys w (.returned (.tuple #[.slice none 0 0, .slice none 0 0])) w1 from .inl ⟨hv, none, 0, 0, 0, none, 0, 0, 0, rfl, rfl, rfl, OwnI.nil _ _ _ _, OwnI.nil _ _ _ _, below_up HB.out hb, fun h => absurd h (by omega)⟩)
    clear hb HC hv
    go_wp2
    go_ret2
    exact HE.out

end Go.Proofs.Ytnonbefeomnbpaa

/- What is left over is the same in any order, and holds all rests. Plain. -/
namespace Go.Proofs.Ytnonbefeomnbpaa
open Go.RowKit

theorem selL_ascO (f : Nat → Bool) (n : Nat) : AscL (selL f n) := by
  have hp : (selL f n).Pairwise (· < ·) := by
    unfold selL
    exact List.Pairwise.map _ (fun a b (h : a < b) => by omega) (List.Pairwise.filter _ List.pairwise_lt_range)
  intro j h1 h2
  rw [gi_get (by omega), gi_get h2]
  exact List.pairwise_iff_getElem.1 hp (j - 1) j (by omega) h2 (by omega)
/-- Row r beats row i at all marked columns. -/
def Bt (a : List (List Int)) (h : Nat → Bool) (m r i : Nat) : Prop := ∀ y, y < m → h y = true → g2 a i y < g2 a r y
theorem Bt.trans {a : List (List Int)} {h : Nat → Bool} {m r s i : Nat} (h1 : Bt a h m r s) (h2 : Bt a h m s i) : Bt a h m r i := fun y hy hh => by
  have := h1 y hy hh
  have := h2 y hy hh
  omega
theorem Bt.sub {a : List (List Int)} {h h' : Nat → Bool} {m r i : Nat} (k : Bt a h m r i) (hs : ∀ y, y < m → h' y = true → h y = true) : Bt a h' m r i := fun y hy hh => k y hy (hs y hy hh)
/-- No row at all beats it. -/
def Un (a : List (List Int)) (h : Nat → Bool) (n m i : Nat) : Prop := ¬ ∃ r, r < n ∧ Bt a h m r i
theorem Un.up {a : List (List Int)} {h h' : Nat → Bool} {n m i : Nat} (k : Un a h' n m i) (hs : ∀ y, y < m → h' y = true → h y = true) : Un a h n m i := fun ⟨r, hr, hb⟩ => k ⟨r, hr, hb.sub hs⟩
theorem max_ex (P : Nat → Prop) (v : Nat → Int) : ∀ n, (∃ r, r < n ∧ P r) → ∃ r, r < n ∧ P r ∧ ∀ s, s < n → P s → v s ≤ v r
  | 0, ⟨r, hr, _⟩ => absurd hr (by omega)
  | n + 1, ⟨r, hr, hp⟩ => by
    by_cases hn : ∃ s, s < n ∧ P s
    · obtain ⟨t, ht, hpt, hm⟩ := max_ex P v n hn
      by_cases e : P n ∧ v t < v n
      · refine ⟨n, by omega, e.1, fun s hs hps => ?_⟩
        by_cases e2 : s = n
        · subst e2; omega
        · have := hm s (by omega) hps; omega
      · refine ⟨t, by omega, hpt, fun s hs hps => ?_⟩
        by_cases e2 : s = n
        · subst e2
          refine Classical.byContradiction fun h => e ⟨hps, by omega⟩
        · exact hm s (by omega) hps
    · have e : r = n := by
        refine Classical.byContradiction fun h => hn ⟨r, by omega, hp⟩
      subst e
      refine ⟨r, by omega, hp, fun s hs hps => ?_⟩
      by_cases e2 : s = r
      · subst e2; omega
      · exact absurd ⟨s, by omega, hps⟩ hn
/-- Who is beaten is beaten by one that is not. -/
theorem bt_top {a : List (List Int)} {h : Nat → Bool} {n m i : Nat} (hne : ∃ y, y < m ∧ h y = true) (hb : ∃ r, r < n ∧ Bt a h m r i) : ∃ r, r < n ∧ Bt a h m r i ∧ Un a h n m r := by
  obtain ⟨y, hy, hh⟩ := hne
  obtain ⟨r, hr, hp, hm⟩ := max_ex (fun r => Bt a h m r i) (fun r => g2 a r y) n hb
  refine ⟨r, hr, hp, fun ⟨s, hs, hsb⟩ => ?_⟩
  have h1 := hm s hs (hsb.trans hp)
  have h2 := hsb y hy hh
  omega
/-- Who is out is beaten by one who is in. -/
def Inv (a : List (List Int)) (f h : Nat → Bool) (n m : Nat) : Prop := ∀ i, i < n → f i = false → ∃ r, r < n ∧ f r = true ∧ Bt a h m r i
theorem stay_un {a : List (List Int)} {f h : Nat → Bool} {n m : Nat} (hi : Inv a f h n m) {i : Nat} (hin : i < n) : stayF a f h n m i = true ↔ Un a h n m i := by
  unfold stayF
  have hp : pb (BT a f h n m i) = false ↔ ¬ BT a f h n m i := ⟨fun e k => (by rw [pb_true k] at e; cases e), pb_false⟩
  rw [Bool.and_eq_true, Bool.not_eq_true', hp]
  constructor
  · rintro ⟨_, hnb⟩ ⟨r, hr, hb⟩
    cases hf : f r with
    | true => exact hnb ⟨r, hr, hf, hb⟩
    | false =>
      obtain ⟨s, hs, hfs, hb2⟩ := hi r hr hf
      exact hnb ⟨s, hs, hfs, hb2.trans hb⟩
  · intro hu
    refine ⟨?_, fun ⟨r, hr, _, hb⟩ => hu ⟨r, hr, hb⟩⟩
    cases hf : f i with
    | true => rfl
    | false =>
      obtain ⟨s, hs, _, hb⟩ := hi i hin hf
      exact absurd ⟨s, hs, hb⟩ hu
/-- What holds all along. -/
structure LoI (a b : List (List Int)) (n m : Nat) (f h : Nat → Bool) : Prop where
  ia : Inv a f h n m
  ib : Inv b h f m n
  nf : ∃ i, i < n ∧ f i = true
  nh : ∃ j, j < m ∧ h j = true
theorem LoI.swap {a b n m f h} (k : LoI a b n m f h) : LoI b a m n h f := ⟨k.ib, k.ia, k.nh, k.nf⟩
theorem LoI.half {a b n m f h} (k : LoI a b n m f h) : LoI a b n m (stayF a f h n m) h := by
  have hu := fun i (hi : i < n) => stay_un k.ia hi
  refine ⟨fun i hi hf => ?_, fun j hj hh => ?_, ?_, k.nh⟩
  · have hb : ∃ r, r < n ∧ Bt a h m r i := by
      refine Classical.byContradiction fun hn => ?_
      rw [(hu i hi).2 hn] at hf; cases hf
    obtain ⟨r, hr, h1, h2⟩ := bt_top k.nh hb
    exact ⟨r, hr, (hu r hr).2 h2, h1⟩
  · obtain ⟨r, hr, h1, h2⟩ := k.ib j hj hh
    exact ⟨r, hr, h1, h2.sub fun y hy hs => stay_sub hs⟩
  · obtain ⟨i, hi, _⟩ := k.nf
    by_cases hb : ∃ r, r < n ∧ Bt a h m r i
    · obtain ⟨r, hr, _, h2⟩ := bt_top k.nh hb
      exact ⟨r, hr, (hu r hr).2 h2⟩
    · exact ⟨i, hi, (hu i hi).2 hb⟩
theorem LoI.step {a b n m s} (k : LoI a b n m s.1 s.2) : LoI a b n m (loStep a b n m s).1 (loStep a b n m s).2 := k.half.swap.half.swap
theorem LoI.it {a b n m} (hn : 0 < n) (hm : 0 < m) : ∀ k, LoI a b n m (loIt a b n m k).1 (loIt a b n m k).2
  | 0 => ⟨fun _ _ h => absurd h (by simp [loIt]), fun _ _ h => absurd h (by simp [loIt]), ⟨0, hn, rfl⟩, ⟨0, hm, rfl⟩⟩
  | k + 1 => (LoI.it hn hm k).step
theorem it_rows {a b n m} (hn : 0 < n) (hm : 0 < m) (k : Nat) {i : Nat} (hi : i < n) : (loIt a b n m (k + 1)).1 i = true ↔ Un a (loIt a b n m k).2 n m i := stay_un (LoI.it hn hm k).ia hi
theorem it_cols {a b n m} (hn : 0 < n) (hm : 0 < m) (k : Nat) {j : Nat} (hj : j < m) : (loIt a b n m (k + 1)).2 j = true ↔ Un b (loIt a b n m (k + 1)).1 m n j := stay_un (LoI.it hn hm k).half.ib hj
/-- Marks that bear themselves are among those of all rounds. -/
theorem it_ge {a b n m} (hn : 0 < n) (hm : 0 < m) {f h : Nat → Bool} (hf : ∀ i, i < n → f i = true → Un a h n m i) (hh : ∀ j, j < m → h j = true → Un b f m n j) : ∀ k, (∀ i, i < n → f i = true → (loIt a b n m k).1 i = true) ∧ ∀ j, j < m → h j = true → (loIt a b n m k).2 j = true
  | 0 => ⟨fun _ _ _ => rfl, fun _ _ _ => rfl⟩
  | k + 1 => by
    have ih := it_ge hn hm hf hh k
    have h1 : ∀ i, i < n → f i = true → (loIt a b n m (k + 1)).1 i = true := fun i hi e => (it_rows hn hm k hi).2 ((hf i hi e).up ih.2)
    exact ⟨h1, fun j hj e => (it_cols hn hm k hj).2 ((hh j hj e).up h1)⟩
theorem it_end {a b n m} (hn : 0 < n) (hm : 0 < m) {k : Nat} (hs : SameS n m (loIt a b n m (k + 1)) (loIt a b n m k)) : (∀ i, i < n → ((loIt a b n m k).1 i = true ↔ Un a (loIt a b n m k).2 n m i)) ∧ ∀ j, j < m → ((loIt a b n m k).2 j = true ↔ Un b (loIt a b n m k).1 m n j) := by
  refine ⟨fun i hi => by rw [← hs.1 i hi]; exact it_rows hn hm k hi, fun j hj => ?_⟩
  rw [← hs.2 j hj, it_cols hn hm k hj]
  constructor
  · intro h; exact h.up fun y hy e => by rw [← hs.1 y hy]; exact e
  · intro h; exact h.up fun y hy e => by rw [hs.1 y hy]; exact e
theorem un_congr {a a' : List (List Int)} {h : Nat → Bool} {n m i : Nat} (hi : i < n) (he : ∀ i y, i < n → y < m → g2 a i y = g2 a' i y) : Un a h n m i ↔ Un a' h n m i := by
  unfold Un Bt
  constructor
  · rintro h1 ⟨r, hr, hb⟩; exact h1 ⟨r, hr, fun y hy e => by rw [he i y hi hy, he r y hr hy]; exact hb y hy e⟩
  · rintro h1 ⟨r, hr, hb⟩; exact h1 ⟨r, hr, fun y hy e => by rw [← he i y hi hy, ← he r y hr hy]; exact hb y hy e⟩
/-- Begun with the columns, the same is left. -/
theorem order_one {a b a' : List (List Int)} {n m k l : Nat} (hn : 0 < n) (hm : 0 < m) (he : ∀ i y, i < n → y < m → g2 a i y = g2 a' i y)
    (hs : SameS n m (loIt a b n m (k + 1)) (loIt a b n m k)) (ht : SameS m n (loIt b a' m n (l + 1)) (loIt b a' m n l)) :
    (∀ i, i < n → (loIt a b n m k).1 i = (loIt b a' m n l).2 i) ∧ ∀ j, j < m → (loIt a b n m k).2 j = (loIt b a' m n l).1 j := by
  obtain ⟨e1, e2⟩ := it_end hn hm hs
  obtain ⟨e3, e4⟩ := it_end hm hn ht
  have h1 := it_ge (a := a) (b := b) hn hm (f := (loIt b a' m n l).2) (h := (loIt b a' m n l).1) (fun i hi e => (un_congr hi he).2 ((e4 i hi).1 e)) (fun j hj e => (e3 j hj).1 e) k
  have h2 := it_ge (a := b) (b := a') hm hn (f := (loIt a b n m k).2) (h := (loIt a b n m k).1) (fun j hj e => (e2 j hj).1 e) (fun i hi e => (un_congr hi he).1 ((e1 i hi).1 e)) l
  exact ⟨fun i hi => by rw [Bool.eq_iff_iff]; exact ⟨h2.2 i hi, h1.1 i hi⟩, fun j hj => by rw [Bool.eq_iff_iff]; exact ⟨h2.1 j hj, h1.2 j hj⟩⟩
theorem lo_order {xs ys : List (List Int)} {R C X Y : List Int} (v : VG xs ys) (h : LoIs xs ys R C) (h' : LoIs (flip ys ys.length (gr ys 0).length) (flip xs xs.length (gr xs 0).length) X Y) : X = C ∧ Y = R := by
  have hn := v.ta.n1
  have hm := v.ta.m1
  have hn2 := v.n
  have hm2 := v.m
  rcases h with ⟨hv, _⟩ | ⟨_, k, hs, rfl, rfl⟩
  · exact absurd v hv
  rcases h' with ⟨hv, _⟩ | ⟨_, l, ht, rfl, rfl⟩
  · exact absurd v.flip2 hv
  have hl : (flip ys xs.length (gr xs 0).length).length = (gr xs 0).length := flip_len _ _ _
  have hl0 : (gr (flip ys xs.length (gr xs 0).length) 0).length = xs.length := by rw [gr_flip hm]; simp
  rw [← hn2, ← hm2] at ht ⊢
  rw [hl, hl0] at ht ⊢
  have := order_one hn hm (fun i y hi hy => by rw [g2_flip hi hy, g2_flip hy hi]) hs ht
  exact ⟨selL_congr fun j hj => (this.2 j hj).symm, selL_congr fun i hi => (this.1 i hi).symm⟩
/-- Rests are left. -/
theorem lo_rest {xs ys : List (List Int)} {R C : List Int} (v : VG xs ys) (h : LoIs xs ys R C) {i j : Nat} (hi : i < xs.length) (hj : j < (gr xs 0).length) (hr : RestAt xs ys xs.length (gr xs 0).length i j) : (i : Int) ∈ R ∧ (j : Int) ∈ C := by
  have hn := v.ta.n1
  have hm := v.ta.m1
  rcases h with ⟨hv, _⟩ | ⟨_, k, hs, rfl, rfl⟩
  · exact absurd v hv
  have := it_ge (a := xs) (b := flip ys xs.length (gr xs 0).length) hn hm (f := fun x => decide (x = i)) (h := fun y => decide (y = j))
    (fun x hx e => by
      obtain rfl : x = i := by simpa using e
      rintro ⟨r, hrr, hb⟩
      have h1 := hb j hj (by simp)
      have h2 := hr.1 r hrr
      omega)
    (fun y hy e => by
      obtain rfl : y = j := by simpa using e
      rintro ⟨r, hrr, hb⟩
      have h1 := hb i hi (by simp)
      rw [g2_flip hy hi, g2_flip hrr hi] at h1
      have h2 := hr.2 r hrr
      omega) k
  exact ⟨selL_mem.2 ⟨i, hi, this.1 i hi (by simp), rfl⟩, selL_mem.2 ⟨j, hj, this.2 j hj (by simp), rfl⟩⟩
end Go.Proofs.Ytnonbefeomnbpaa

