/- Texts merged: K8 K9 LO8 D4 K4 Math20 Z4 V8 V9 Z5 C92 D2 C93. -/
import Derived.Test.YticcigdknaganaaQ9
import Derived.Laws.CopyOwn
/- The next shares, by both programs. -/
namespace Go.Proofs.Yticcigdknaganaa
open Go.RowKit

/-- What the next shares are to each other. -/
def nxV (a : List (List Int)) (x : List Int) (n i : Nat) : Int := gi x i * dotr a x i n
def nxL (a : List (List Int)) (x : List Int) (n k : Nat) : List Int := (List.range k).map (nxV a x n)
theorem nxL_succ (a : List (List Int)) (x : List Int) (n k : Nat) : nxL a x n (k + 1) = nxL a x n k ++ [nxV a x n k] := by simp [nxL, List.range_succ]
theorem nxL_len (a : List (List Int)) (x : List Int) (n k : Nat) : (nxL a x n k).length = k := by simp [nxL]
theorem gi_nxL {a : List (List Int)} {x : List Int} {n k i : Nat} (h : i < k) : gi (nxL a x n k) i = nxV a x n i := gi_range h
theorem VQ.len2' {a : List (List Int)} {n : Nat} (v : VQ a) (hl : a.length = n) : (gr a 0).length = n := by have := v.2; omega
theorem dotr_pos {a : List (List Int)} {x : List Int} {i n : Nat} (ha : ∀ j, j < n → 1 ≤ g2 a i j) (hx : ∀ j, j < n → 0 ≤ gi x j) : ∀ {k}, k ≤ n → sm x k ≤ dotr a x i k
  | 0, _ => Int.le_refl _
  | k + 1, h => by
    have h1 := dotr_pos ha hx (k := k) (by omega)
    have h2 := ha k (by omega)
    have h3 := hx k (by omega)
    have h4 : 1 * gi x k ≤ g2 a i k * gi x k := Int.mul_le_mul_of_nonneg_right h2 h3
    simp only [sm, dotr]
    omega
/-- A field and shares. -/
structure FS (a : List (List Int)) (x : List Int) (n : Nat) : Prop where
  f : VF a
  s : VS x (n : Int)
  l : a.length = n
theorem FS.n3 {a x n} (h : FS a x n) : 1 ≤ n ∧ n ≤ 3 := by have := h.f.q.1.n1; have := h.f.q.1.n3; have := h.l; omega
theorem FS.xl {a x n} (h : FS a x n) : x.length = n := by have := h.s.1; omega
theorem FS.x {a x n} (h : FS a x n) : ∀ j, j < n → 0 ≤ gi x j ∧ gi x j ≤ 1000 := VS.bds h.s
theorem FS.a {a x n} (h : FS a x n) {i j : Nat} (hi : i < n) (hj : j < n) : 1 ≤ g2 a i j ∧ g2 a i j ≤ 9 := by
  have hl := h.l
  have h1 := h.f.p i j (by omega) (by omega)
  have h2 := h.f.q.1.bd (i := i) (j := j) (by omega) (by have := h.f.q.2; omega)
  omega
theorem FS.dot {a x n} (h : FS a x n) {i : Nat} (hi : i < n) : 1 ≤ dotr a x i n ∧ dotr a x i n ≤ 27000 := by
  have h0 := h.n3
  have h1 := dotr_pos (a := a) (x := x) (i := i) (n := n) (fun j hj => (h.a hi hj).1) (fun j hj => (h.x j hj).1) (Nat.le_refl n)
  have h2 := dotr_bd (a := a) (w := x) (i := i) (m := n) (fun j hj => by have := h.a hi hj; omega) h.x (Nat.le_refl n)
  have h3 := h.s.2.2
  unfold tot at h3
  rw [h.xl] at h3
  omega
theorem FS.nx {a x n} (h : FS a x n) {i : Nat} (hi : i < n) : 0 ≤ nxV a x n i ∧ nxV a x n i ≤ 27000000 ∧ (0 < gi x i → 0 < nxV a x n i) := by
  have h1 := h.dot hi
  have h2 := h.x i hi
  unfold nxV
  have h3 : 0 * dotr a x i n ≤ gi x i * dotr a x i n := Int.mul_le_mul_of_nonneg_right h2.1 (by omega)
  have h4 : gi x i * dotr a x i n ≤ 1000 * 27000 := Int.mul_le_mul h2.2 h1.2 (by omega) (by omega)
  exact ⟨by omega, by omega, fun h => Int.mul_pos h (by omega)⟩
theorem sm_has {x : List Int} : ∀ {k}, (∀ j, j < k → 0 ≤ gi x j) → 0 < sm x k → ∃ j, j < k ∧ 0 < gi x j
  | 0, _, h => by simp [sm] at h
  | k + 1, hp, h => by
    by_cases e : 0 < gi x k
    · exact ⟨k, by omega, e⟩
    · have h1 := hp k (by omega)
      obtain ⟨j, hj, hp'⟩ := sm_has (x := x) (k := k) (fun j hj => hp j (by omega)) (by simp only [sm] at h; omega)
      exact ⟨j, by omega, hp'⟩
theorem FS.clr {a x n} (h : FS a x n) : ClrP (nxL a x n n) ∧ 0 < gcdL (nxL a x n n) n := by
  have h0 := h.s.2.2
  unfold tot at h0
  rw [h.xl] at h0
  obtain ⟨j, hj, hp⟩ := sm_has (fun j hj => (h.x j hj).1) h0
  have hc : ClrP (nxL a x n n) := by
    refine ⟨⟨j, by rw [nxL_len]; exact hj, ?_⟩, .inl fun p hp => ?_⟩
    · rw [gi_nxL hj]; have := (h.nx hj).2.2 hp; omega
    · rw [nxL_len] at hp; rw [gi_nxL hp]; exact (h.nx hp).1
  exact ⟨hc, (clr_yes (nxL_len a x n n) hc).1⟩
theorem FS.mid {a x n} (h : FS a x n) : ∀ p, p < (nxL a x n n).length → Mid (gi (nxL a x n n) p) := fun p hp => by
  rw [nxL_len] at hp
  rw [gi_nxL hp]
  have := h.nx hp
  unfold Mid
  omega
/-- What NextShares answers. -/
noncomputable def nsF (a : List (List Int)) (x : List Int) : List Int := if pb (VF a ∧ VS x a.length) = true then clrL (nxL a x a.length a.length) (gcdL (nxL a x a.length a.length) a.length) a.length else []
theorem nsF_yes {a : List (List Int)} {x : List Int} {n : Nat} (h : FS a x n) : nsF a x = clrL (nxL a x n n) (gcdL (nxL a x n n) n) n := by
  unfold nsF; rw [if_pos (pb_true ⟨h.f, by rw [h.l]; exact h.s⟩), h.l]
theorem nsF_no {a : List (List Int)} {x : List Int} (h : ¬ (VF a ∧ VS x a.length)) : nsF a x = [] := by unfold nsF; rw [if_neg (by rw [pb_false h]; decide)]
theorem FS.of {a : List (List Int)} {x : List Int} {n : Nat} (hl : a.length = n) (hf : VF a) (hs : VS x (n : Int)) : FS a x n := ⟨hf, hs, hl⟩
theorem nsF_le (a : List (List Int)) (x : List Int) : (nsF a x).length ≤ 100 := by
  by_cases h : VF a ∧ VS x a.length
  · have hf : FS a x a.length := ⟨h.1, h.2, rfl⟩
    have := hf.n3
    rw [nsF_yes hf, clrL_len]; omega
  · rw [nsF_no h]; simp

end Go.Proofs.Yticcigdknaganaa

/- NextShares, by both programs. -/
namespace Go.Proofs.Yticcigdknaganaa
open Go.RowKit

theorem NewI.empty {w w' : World} {ys : List Int} (h : Below w.heap.size w w') (hy : ys = []) : NewI w ys (.returned (.slice none 0 0)) w' := by
  subst hy; exact ⟨none, 0, 0, 0, rfl, rfl, OwnI.nil _ _ _ _, h⟩
theorem NewI.from {w w1 w2 : World} {ys : List Int} {e : Ending} (h : Below w.heap.size w w1) (k : NewI w1 ys e w2) : NewI w ys e w2 := by
  obtain ⟨A, n, c, g, he, hn, ho, hb⟩ := k
  exact ⟨A, n, c, g, he, hn, ho.mono h.size (Nat.le_refl _), below_up h hb⟩


end Go.Proofs.Yticcigdknaganaa

/- What is left over, by the program: the marked. -/
namespace Go.Proofs.Yticcigdknaganaa
open Go.RowKit

theorem selL_yes {f : Nat → Bool} {k : Nat} (h : f k = true) : selL f (k + 1) = selL f k ++ [(k : Int)] := by simp [selL, List.range_succ, List.filter_append, h]
theorem selL_no {f : Nat → Bool} {k : Nat} (h : f k = false) : selL f (k + 1) = selL f k := by simp [selL, List.range_succ, List.filter_append, h]
theorem selL_small (f : Nat → Bool) (n : Nat) (hn : n ≤ 100) : ∀ y ∈ selL f n, -1000000000000000 ≤ y ∧ y ≤ 1000000000000000 := fun y hy => by
  obtain ⟨k, hk, _, rfl⟩ := selL_mem.1 hy
  omega

set_option maxRecDepth 100000 in
set_option maxHeartbeats 3200000 in
theorem marked_any (m : Nat → Bool) (w : World) : Calls Try.prog 80 #[.agg (bs3 m)] w (NewI w (selL m 3)) := by
  have HB := Lib.hid (below_alloc w (.cells (bs3 m) 59))
  have HK := Lib.hid (blk_new w 59 (bs3 m))
  go_enter Try.func80, Try.ntmps80
  have c0 := blk_cell HK.out (i := 0) (v := .bool (m 0)) rfl
  have c1 := blk_cell HK.out (i := 1) (v := .bool (m 1)) rfl
  have c2 := blk_cell HK.out (i := 2) (v := .bool (m 2)) rfl
  go_wp2
  clear c0 c1 c2 HK
  generalize w.alloc (.cells (bs3 m) 59) = W1 at *
  have HS0 := Lib.hid (IU.nil W1)
  go_loopw [3, 7] (fun v i wr => ∃ k : Nat, k ≤ 3 ∧ i = .int .i64 k ∧ Hid (IU W1 v (selL m k) wr)) (fun _ i _ => 3 - (intOf i).toNat)
  case atStart => exact ⟨0, by omega, rfl, HS0⟩
  case round =>
    clear HS0
    obtain ⟨k, hk, rfl, HI⟩ := hrel
    obtain ⟨Av, cv, rfl⟩ := HI.out.bi.form
    by_cases hlt : k < 3
    · have ix : ∀ W, (Instr.index 59 (.agg #[.bool (m 0), .bool (m 1), .bool (m 2)]) (.int .i64 k)).run Try.prog W = .ok (.bool (m k)) W := by
        have : k = 0 ∨ k = 1 ∨ k = 2 := by omega
        rcases this with rfl | rfl | rfl <;> exact fun _ => by kernel_rfl
      cases hm : m k
      · have HCS := Lib.hid (selL_no hm)
        rw [hm] at ix
        clear hm
        go_wp2
        clear ix
        go_roundw
        case rel => exact ⟨k + 1, by omega, by go_num, Lib.hid (by rw [HCS.out]; exact HI.out)⟩
        case measure => simp [intOf]; omega
      · have HCS := Lib.hid (selL_yes hm)
        rw [hm] at ix
        clear hm
        have HML := Lib.hid (selL_len m k)
        have hb := below_alloc wr (.cells #[iv (k : Int)] 3)
        have HB4 := Lib.hid (HI.out.bi.below hb).own
        have HN := Lib.hid (cell_one_new wr (iv (k : Int)) 3)
        have hwz := HI.out.up.size
        clear hb
        generalize selL m k = ys at *
        obtain ⟨i0, hi0, hz0, hz1, hz2⟩ := info_parts Try.info_int
        go_wp2_with (at_builtin; refine wpList_append_own_at _ rfl _ _ 36 rfl W1.heap.size 3 i0 (.int .i64 0) 1 8 Try.underlying36 hi0 hz0 hz1 hz2 rfl (by decide) _ ys.length (ys.map iv) rfl HB4.out ⟨wr.heap.size, 0, none⟩ 1 1 [iv (k : Int)] rfl rfl ?c1 ?c2 ?c3 ?c4 ?c5 ?_)
        case c1 => exact HN.out
        case c2 => intro u hu; simp at hu; subst hu; rfl
        case c3 => have := HML.out; unfold maxLen; omega
        case c4 => have := HML.out; omega
        case c5 => simp; omega
        intro v' w5 hown' hgrow _ hat
        have HI5 := Lib.hid (HI.out.push hown' hgrow (by simpa using hat))
        clear HB4 HN hown' hgrow hat HI ix
        go_wp2
        go_roundw
        case rel => exact ⟨k + 1, by omega, by go_num, Lib.hid (by rw [HCS.out]; exact HI5.out)⟩
        case measure => simp [intOf]; omega
    · obtain rfl : k = 3 := by omega
      have HNW := Lib.hid (NewI.from HB.out (HI.out.new (by have := selL_len m 3; omega) (selL_small m 3 (by omega))))
      go_wp2
      go_ret
      exact HNW.out
end Go.Proofs.Yticcigdknaganaa

/- Pure rests, by the program. -/
namespace Go.Proofs.Yticcigdknaganaa
open Go.RowKit

theorem Try.info32b : (Try.prog.info? 36).map (fun i => (i.zero, i.size, i.bytes)) = some (some (.slice none 0 0), 1, 24) := by kernel_rfl

/-- What the loops know: the game, the turned table, the rests so far. -/
structure PS (p : GP) (w : World) (N L : Nat) (wr : World) (v : Value) (vs : List Value) (xs ys rs : List (List Int)) : Prop where
  gt : GT p w wr w.heap.size xs ys
  tn : OwnR N L wr N (some ⟨N, 0, none⟩) p.m p.m (flip xs p.n p.m)
  bd : Bld L wr.heap.size wr v vs rs
  h1 : w.heap.size < N
  h2 : N < L
  h3 : L ≤ wr.heap.size
theorem PS.qu {p w N L wr wr' v vs xs ys rs} (h : PS p w N L wr v vs xs ys rs) (k : Quiet wr wr') : PS p w N L wr' v vs xs ys rs := by
  have kb : Below wr.heap.size wr wr' := k.below
  exact ⟨h.gt.up kb, h.tn.below kb, (h.bd.below kb).mono kb.size, h.h1, h.h2, Nat.le_trans h.h3 kb.size⟩

set_option maxHeartbeats 1000000 in
theorem PureRests_impl (A B : Option Addr) (n c m d : Nat) (xs ys : List (List Int)) (w : World) (hx : IntRows w A n c xs) (hy : IntRows w B m d ys) :
    Calls Try.prog 44 #[.agg #[.slice A n c, .slice B m d]] w (RetR (pureR xs ys) w) := by
  have hb0 := below_alloc w (.cells #[.slice A n c, .slice B m d] 27)
  have b0 := blk_new w 27 #[.slice A n c, .slice B m d]
  have HB := Lib.hid hb0
  have HK := Lib.hid b0
  have HX := Lib.hid (hx.keep (Keep.below hb0))
  have HY := Lib.hid (hy.keep (Keep.below hb0))
  have HX0 := Lib.hid hx
  have HY0 := Lib.hid hy
  clear hx hy hb0 b0
  go_enter Try.func44, Try.ntmps44
  go_wp2_with fail
  generalize w.alloc (.cells #[.slice A n c, .slice B m d] 27) = W1 at *
  have HC := Lib.hid (ValidGame_impl _ _ _ _ _ _ _ _ _ HX.out HY.out)
  by_cases hv : VG xs ys
  · refine ((pb_true hv) ▸ HC.out).mono ?_
    rintro e w1 ⟨rfl, hb⟩
    have hb2 := below_up HB.out hb
    have hk2 := blk_below HK.out hb
    obtain ⟨p, rfl, rfl, rfl, rfl, rfl, rfl, hg⟩ := GV.of HX0.out HY0.out hv
    have HT := Lib.hid (show GT p w w1 w.heap.size xs ys from ⟨hb2, hk2, hg⟩)
    have hn3 := hg.tx.n3
    have hm3 := hg.tx.m3
    have hn1 := hg.tx.n1
    have hm1 := hg.tx.m1
    have HP := Lib.hid (show pureR xs ys = allRests xs ys p.n p.m p.n by rw [pureR, if_pos (pb_true hv), hg.lx, hg.mx])
    have HLY := Lib.hid (show ∀ i, i < p.n → (gr ys i).length = p.m from fun i hi => (hg.ty.ints i hi).len)
    clear hb hv hb2 hk2 hg HX HY HX0 HY0 HB HK HC
    have k0 := HT.out.c0
    go_wp2_with fail
    refine (turned_any _ _ _ _ _ _ _ _ _ _ HT.out.gv.tx).mono ?_
    rintro e w2 ⟨rfl, ho, hb, hlt⟩
    have HS := Lib.hid (show PS p w w1.heap.size w2.heap.size w2 (.slice none 0 0) [] xs ys [] from ⟨HT.out.up hb, ho, Bld.nil _ _ _, blk_lt HT.out.box, hlt, Nat.le_refl _⟩)
    clear ho hb hlt HT k0
    generalize w1.heap.size = N at *
    generalize w2.heap.size = L at *
    have k1 := HS.out.gt.c1
    go_wp2
    clear k1
    go_loopw [4, 18] (fun v s wr => ∃ (i : Nat) (vs : List Value), i ≤ p.n ∧ s = .int .i64 i ∧ Hid (PS p w N L wr v vs xs ys (allRests xs ys p.n p.m i))) (fun _ s _ => p.n - (intOf s).toNat)
    case atStart => exact ⟨0, [], Nat.zero_le _, rfl, HS⟩
    case round =>
      clear HS
      obtain ⟨i, vs, hi, rfl, HS⟩ := hrel
      by_cases hin : i < p.n
      · have s1 := HS.out.gt.gv.ty.row i hin
        go_wp2
        clear s1
        go_loopw [4, 25] (fun v s wj => ∃ (j : Nat) (vs : List Value), j ≤ p.m ∧ s = .int .i64 j ∧ Hid (PS p w N L wj v vs xs ys (allRests xs ys p.n p.m i ++ rowRests xs ys p.n p.m i j))) (fun _ s _ => p.m - (intOf s).toNat)
        case atStart => exact ⟨0, vs, Nat.zero_le _, rfl, Lib.hid (by rw [rowRests, List.append_nil]; exact HS.out)⟩
        case round =>
          clear HS vs
          obtain ⟨j, vs, hj, rfl, HS⟩ := hrel
          by_cases hjm : j < p.m
          · have k0 := HS.out.gt.c0
            have r1 := HS.out.gt.gv.tx.row i hin
            have e1 := HS.out.gt.gv.tx.cell i j hin hjm
            have f1 := HS.out.gt.gv.ty.cell i j hin hjm
            obtain ⟨R, cc, t1, tI⟩ := HS.out.tn.row0 hjm
            have hfl : (gr (flip xs p.n p.m) j).length = p.n := by rw [gr_flip hjm]; simp
            have HQX := Lib.hid tI
            have HQY := Lib.hid (HS.out.gt.gv.ty.ints i hin)
            clear tI
            generalize hcol : gr (flip xs p.n p.m) j = col at *
            have HCOL := Lib.hid hcol
            clear hcol
            have QX := Lib.hid (fun W (hW : Quiet wr W) => Max_any _ _ _ _ W (HQX.out.keep (Keep.quiet hW)) (by omega))
            have QY := Lib.hid (fun W (hW : Quiet wr W) => Max_any _ _ _ _ W (HQY.out.keep (Keep.quiet hW)) (by omega))
            clear HQX HQY hfl
            by_cases h1 : g2 xs i j = mxl col
            · have h1' : (g2 xs i j == mxl col) = true := by simp [h1]
              by_cases h2 : g2 ys i j = mxl (gr ys i)
              · have h2' : (g2 ys i j == mxl (gr ys i)) = true := by simp [h2]
                have HR := Lib.hid (rowRests_yes ((RestAt_iff hin hjm (HLY.out i hin)).2 ⟨by rw [HCOL.out]; exact h1, h2⟩))
                clear h1 h2
                go_wp2
                go_quiet ((go_at_call 76; (first | (with_reducible refine quiet_fit (QX.out _ ?_) (fun m => ?_)) | (with_reducible refine quiet_fit (QY.out _ ?_) (fun m => ?_))); (first | exact ⟨_, rfl⟩ | exact Quiet.two _ _ _); (first | exact drewN_to1 _ _ _ | exact drewN_to2 _ _ _ _)))
                have HS2 := Lib.hid (HS.out.qu ⟨nq, rfl⟩)
                have hlen : (allRests xs ys p.n p.m i ++ rowRests xs ys p.n p.m i j).length ≤ 12 := by
                  have h1 := allRests_len xs ys p.n p.m hm3 i
                  have h2 := rowRests_len xs ys p.n p.m i j
                  rw [List.length_append]; omega
                clear QX QY h1' h2' HS k0 r1 e1 f1 t1
                generalize wr.drewN nq = w2 at *
                have hb3 := below_alloc w2 (.cells #[.int .i64 i, .int .i64 j] 3)
                have hb4 := below_alloc (w2.alloc (.cells #[.int .i64 i, .int .i64 j] 3)) (.cells #[.slice (some ⟨w2.heap.size, 0, none⟩) 2 2] 36)
                have HB4 := Lib.hid ((HS2.out.bd.below hb3).below hb4).own
                have HN := Lib.hid (cell_one_new (w2.alloc (.cells #[.int .i64 i, .int .i64 j] 3)) (.slice (some ⟨w2.heap.size, 0, none⟩) 2 2) 36)
                have hL := HS2.out.h3
                clear hb3 hb4
                generalize hrs : allRests xs ys p.n p.m i ++ rowRests xs ys p.n p.m i j = rs at *
                have HRS := Lib.hid hrs
                clear hrs
                obtain ⟨i0, hi0, hz0, hz1, hz2⟩ := info_parts Try.info32b
                go_wp2_with (at_builtin; refine wpList_append_own_at _ rfl _ _ 22 rfl L 36 i0 (.slice none 0 0) 1 24 Try.underlying22 hi0 hz0 hz1 hz2 rfl (by decide) _ rs.length vs rfl HB4.out ⟨w2.heap.size + 1, 0, none⟩ 1 1 [.slice (some ⟨w2.heap.size, 0, none⟩) 2 2] rfl rfl ?c1 ?c2 ?c3 ?c4 ?c5 ?_)
                case c1 => have h := HN.out; rw [World.size_alloc] at h; exact h
                case c2 => intro u hu; simp at hu; subst hu; rfl
                case c3 => unfold maxLen; omega
                case c4 => omega
                case c5 => simp; omega
                intro v' w5 hown' hgrow _ hat
                obtain ⟨hP, hK⟩ := push_pair HS2.out.bd (by omega) (by omega) hown' hgrow hat hL
                have HS5 := Lib.hid (show PS p w N L w5 v' _ xs ys _ from ⟨HS2.out.gt.up2 hK (by have := HS2.out.h1; have := HS2.out.h2; omega) (by have := HS2.out.h1; have := HS2.out.h2; omega), HS2.out.tn.of_blocks (fun g _ hg _ => hK.block g hg), hP, HS2.out.h1, HS2.out.h2, Nat.le_trans hL hK.size⟩)
                clear HB4 HN hown' hgrow hat hP hK HS2
                go_wp2
                go_roundw
                case rel => exact ⟨j + 1, _, by omega, by go_num, Lib.hid (by rw [HR.out, ← List.append_assoc, HRS.out]; exact HS5.out)⟩
                case measure => simp [intOf]; omega
              · have h2' : (g2 ys i j == mxl (gr ys i)) = false := by simp [h2]
                have HR := Lib.hid (rowRests_no (a := xs) (fun v => h2 ((RestAt_iff hin hjm (HLY.out i hin)).1 v).2))
                clear h1 h2
                go_wp2
                go_quiet ((go_at_call 76; (first | (with_reducible refine quiet_fit (QX.out _ ?_) (fun m => ?_)) | (with_reducible refine quiet_fit (QY.out _ ?_) (fun m => ?_))); (first | exact ⟨_, rfl⟩ | exact Quiet.two _ _ _); (first | exact drewN_to1 _ _ _ | exact drewN_to2 _ _ _ _)))
                have HS2 := Lib.hid (HS.out.qu ⟨nq, rfl⟩)
                go_wp2
                go_roundw
                case rel => exact ⟨j + 1, vs, by omega, by go_num, Lib.hid (by rw [HR.out]; exact HS2.out)⟩
                case measure => simp [intOf]; omega
            · have h1' : (g2 xs i j == mxl col) = false := by simp [h1]
              have HR := Lib.hid (rowRests_no (fun v => h1 (by have := ((RestAt_iff hin hjm (HLY.out i hin)).1 v).1; rw [HCOL.out] at this; exact this)))
              clear h1
              go_wp2
              go_quiet ((go_at_call 76; (first | (with_reducible refine quiet_fit (QX.out _ ?_) (fun m => ?_)) | (with_reducible refine quiet_fit (QY.out _ ?_) (fun m => ?_))); (first | exact ⟨_, rfl⟩ | exact Quiet.two _ _ _); (first | exact drewN_to1 _ _ _ | exact drewN_to2 _ _ _ _)))
              have HS2 := Lib.hid (HS.out.qu ⟨nq, rfl⟩)
              go_wp2
              go_roundw
              case rel => exact ⟨j + 1, vs, by omega, by go_num, Lib.hid (by rw [HR.out]; exact HS2.out)⟩
              case measure => simp [intOf]; omega
          · go_wp2
            go_roundw
            case rel => exact ⟨i + 1, vs, by omega, by go_num, Lib.hid (by have h := HS.out; rw [show j = p.m by omega] at h; rw [allRests]; exact h)⟩
            case measure => simp [intOf]; omega
      · go_wp2
        go_ret
        obtain ⟨A, n, c, g, rfl, hn, ho⟩ := HS.out.bd.owns (by have := allRests_len xs ys p.n p.m hm3 i; omega)
        have e : pureR xs ys = allRests xs ys p.n p.m i := by rw [HP.out, show i = p.n by omega]
        exact ⟨A, n, c, g, rfl, by rw [e]; exact hn, by rw [e]; exact ho.mono (by have := HS.out.h1; have := HS.out.h2; omega) (Nat.le_refl _), HS.out.gt.below⟩
  · have HZ := Lib.hid (show pureR xs ys = [] by rw [pureR, if_neg (by rw [pb_false hv]; decide)])
    refine ((pb_false hv) ▸ HC.out).mono ?_
    rintro e w1 ⟨rfl, hb⟩
    have HB2 := Lib.hid (below_up HB.out hb)
    clear hb hv HC
    go_wp2
    go_ret
    exact ⟨none, 0, 0, 0, rfl, by rw [HZ.out]; rfl, by rw [HZ.out]; exact OwnR.nil _ _ _ _, HB2.out⟩
end Go.Proofs.Yticcigdknaganaa

/- Rests, by both programs. -/
namespace Go.Proofs.Yticcigdknaganaa
open Go.RowKit

/-- No strategy has more than one with a share. -/
def RestP (a : List (List Int)) (w : List Int) (n : Nat) : Prop := ∀ i, i < n → 0 < gi w i → ∀ k, k < n → dotr a w k n ≤ dotr a w i n
structure RQ (a : List (List Int)) (w : List Int) : Prop where
  q : VQ a
  s : VS w a.length
  r : RestP a w a.length


/-- The greatest of the first k values. -/
def mxd (f : Nat → Int) : Nat → Int
  | 0 => 0
  | k + 1 => if k = 0 ∨ mxd f k < f k then f k else mxd f k
theorem mxd_up {f : Nat → Int} {k : Nat} (h : k = 0 ∨ mxd f k < f k) : mxd f (k + 1) = f k := by rw [mxd, if_pos h]
theorem mxd_same {f : Nat → Int} {k : Nat} (h : ¬ (k = 0 ∨ mxd f k < f k)) : mxd f (k + 1) = mxd f k := by rw [mxd, if_neg h]
theorem mxd_ge (f : Nat → Int) : ∀ {k i}, i < k → f i ≤ mxd f k
  | 0, _, h => absurd h (by omega)
  | k + 1, i, h => by
    by_cases hu : k = 0 ∨ mxd f k < f k
    · rw [mxd_up hu]
      by_cases e : i = k
      · subst e; exact Int.le_refl _
      · have := mxd_ge f (k := k) (i := i) (by omega)
        omega
    · rw [mxd_same hu]
      by_cases e : i = k
      · subst e; omega
      · exact mxd_ge f (by omega)
theorem mxd_at (f : Nat → Int) : ∀ {k}, 0 < k → ∃ i, i < k ∧ mxd f k = f i
  | 0, h => absurd h (by omega)
  | k + 1, _ => by
    by_cases hu : k = 0 ∨ mxd f k < f k
    · exact ⟨k, by omega, mxd_up hu⟩
    · obtain ⟨i, hi, e⟩ := mxd_at f (k := k) (by omega)
      exact ⟨i, by omega, (mxd_same hu).trans e⟩
/-- At rest all that is there has the most. -/
theorem rest_most (a : List (List Int)) (w : List Int) (n : Nat) (hn : 0 < n) : RestP a w n ↔ ∀ i, i < n → 0 < gi w i → dotr a w i n = mxd (fun i => dotr a w i n) n := by
  constructor
  · intro h i hi hp
    obtain ⟨k, hk, e⟩ := mxd_at (fun i => dotr a w i n) hn
    have h1 := h i hi hp k hk
    have h2 := mxd_ge (fun i => dotr a w i n) hi
    have e' : mxd (fun i => dotr a w i n) n = dotr a w k n := e
    have h2' : dotr a w i n ≤ mxd (fun i => dotr a w i n) n := h2
    omega
  · intro h i hi hp k hk
    rw [h i hi hp]
    exact mxd_ge (fun i => dotr a w i n) hk
theorem mxd_bd {f : Nat → Int} {B : Int} (hB : 0 ≤ B) : ∀ {k}, (∀ i, i < k → -B ≤ f i ∧ f i ≤ B) → -B ≤ mxd f k ∧ mxd f k ≤ B
  | 0, _ => by simp only [mxd]; omega
  | k + 1, h => by
    by_cases hu : k = 0 ∨ mxd f k < f k
    · rw [mxd_up hu]; exact h k (by omega)
    · rw [mxd_same hu]; exact mxd_bd hB fun i hi => h i (by omega)

end Go.Proofs.Yticcigdknaganaa

/- Shares at which some strategies have as much: the sums of the cofactors of the columns, and the differences to the first row. Plain. -/
namespace Go.Proofs.Yticcigdknaganaa
open V (sumN detN rowC colC cofN minorN skip sgn Asc)

/-- The square of a part, as it is. -/
def lf (a : List (List Int)) (r : Nat → Nat) : Nat → Nat → Int := fun p q => g2 a (r p) (r q) + 0
/-- The differences to the first row, behind a row of ones. -/
def mf (a : List (List Int)) (r : Nat → Nat) : Nat → Nat → Int := fun p q => if p = 0 then 1 else g2 a (r p) (r q) - g2 a (r 0) (r q)

theorem rowC_shift {k : Nat} (hk : k ≤ 3) {f g : Nat → Nat → Int} (z : Int) (h : ∀ p q, g p q = f p q + z) {p : Nat} (hp : p < k) : rowC k g p = rowC k f p := by
  have : k = 1 ∨ k = 2 ∨ k = 3 := by omega
  rcases this with rfl | rfl | rfl
  · simp [rowC, sumN, cofN, detN]
  · have : p = 0 ∨ p = 1 := by omega
    rcases this with rfl | rfl <;> simp [rowC, sumN, cofN, sgn, detN, minorN, skip, h] <;> omega
  · obtain ⟨e0, e1, e2⟩ := V.rowC3 f
    obtain ⟨d0, d1, d2⟩ := V.rowC3 g
    have : p = 0 ∨ p = 1 ∨ p = 2 := by omega
    rcases this with rfl | rfl | rfl
    · rw [e0, d0]; simp only [h]; grind
    · rw [e1, d1]; simp only [h]; grind
    · rw [e2, d2]; simp only [h]; grind
theorem lf_kY (a : List (List Int)) (r : Nat → Nat) {k : Nat} (hk : k ≤ 3) : cofL k (trN (lf a r)) k = kY a r r k := by
  unfold kY cofL
  refine List.map_congr_left fun p hp => ?_
  exact (rowC_shift hk 18 (f := trN (lf a r)) (g := trN (kf a r r)) (fun p q => by unfold trN lf kf; omega) (List.mem_range.1 hp)).symm
theorem gi_kY {a : List (List Int)} {r : Nat → Nat} {k : Nat} (hk : k ≤ 3) {c : Nat} (hc : c < k) : gi (kY a r r k) c = colC k (kf a r r) c := by
  unfold kY; rw [gi_cofL hc, rowC_tr hk]
theorem mf_cof {a : List (List Int)} {r : Nat → Nat} {k : Nat} (hk : k ≤ 3) {c : Nat} (hc : c < k) : cofN k (mf a r) 0 c = gi (kY a r r k) c := by
  rw [gi_kY hk hc]
  have : k = 1 ∨ k = 2 ∨ k = 3 := by omega
  rcases this with rfl | rfl | rfl
  · obtain rfl : c = 0 := by omega
    simp [colC, sumN, cofN, sgn, detN]
  · have : c = 0 ∨ c = 1 := by omega
    rcases this with rfl | rfl <;> simp [colC, sumN, cofN, sgn, detN, minorN, skip, mf, kf] <;> omega
  · obtain ⟨e0, e1, e2⟩ := V.colC3 (kf a r r)
    have : c = 0 ∨ c = 1 ∨ c = 2 := by omega
    rcases this with rfl | rfl | rfl
    · rw [e0]; simp [sumN, cofN, sgn, detN, minorN, skip, mf, kf]; grind
    · rw [e1]; simp [sumN, cofN, sgn, detN, minorN, skip, mf, kf]; grind
    · rw [e2]; simp [sumN, cofN, sgn, detN, minorN, skip, mf, kf]; grind
theorem mf_det {a : List (List Int)} {r : Nat → Nat} {k : Nat} (h1 : 1 ≤ k) (hk : k ≤ 3) : detN k (mf a r) = sumN (gi (kY a r r k)) k := by
  obtain ⟨l, rfl⟩ : ∃ l, k = l + 1 := ⟨k - 1, by omega⟩
  rw [detN]
  refine sumN_congr fun j hj => ?_
  rw [← mf_cof hk hj]
  unfold cofN
  rw [Nat.zero_add, show mf a r 0 j = 1 from rfl, Nat.add_sub_cancel, Int.one_mul]
theorem mf_ab {a : List (List Int)} (v : VT a) (h : a.length = (gr a 0).length) {r : Nat → Nat} {k : Nat} (hr : Asc a.length k r) : Ab k (mf a r) := fun p q hp hq => by
  unfold mf
  have h0 := hr.1 0 (by omega)
  have hpp := hr.1 p hp
  have hqq := hr.1 q hq
  have e1 := v.bd hpp (j := r q) (by omega)
  have e2 := v.bd h0 (j := r q) (by omega)
  split <;> omega

/-- All numbers more than 0, or all less. -/
def LevP (X : List Int) : Prop := (∀ p, p < X.length → 0 < gi X p) ∨ ∀ p, p < X.length → gi X p < 0
theorem LevP.clr {X : List Int} (h : LevP X) (h0 : 0 < X.length) : ClrP X := by
  rcases h with h | h
  · exact ⟨⟨0, h0, by have := h 0 h0; omega⟩, .inl fun p hp => by have := h p hp; omega⟩
  · exact ⟨⟨0, h0, by have := h 0 h0; omega⟩, .inr fun p hp => by have := h p hp; omega⟩
def levB (xs : List Int) : Bool := decide (lst xs ≤ 0) && decide (0 ≤ mxl xs)
theorem levB_iff {xs : List Int} (h0 : 0 < xs.length) : levB xs = false ↔ LevP xs := by
  unfold levB lst mxl LevP
  rw [Bool.and_eq_false_iff, decide_eq_false_iff_not, decide_eq_false_iff_not]
  constructor
  · rintro (h | h)
    · exact .inl fun p hp => by have := mn_le (xs := xs) (k := xs.length - 1) (j := p) (by omega); omega
    · exact .inr fun p hp => by have := mx_ge xs (k := xs.length - 1) (j := p) (by omega); omega
  · rintro (h | h)
    · obtain ⟨j, hj, e⟩ := mn_mem (xs := xs) (xs.length - 1)
      exact .inl (by have := h j (by omega); omega)
    · obtain ⟨j, hj, e⟩ := mx_at xs (xs.length - 1)
      exact .inr (by have := h j (by omega); omega)

/-- The first c numbers, times z. -/
def sgL (X : List Int) (z : Int) (c : Nat) : List Int := (List.range c).map fun p => z * gi X p
theorem sgL_succ (X : List Int) (z : Int) (c : Nat) : sgL X z (c + 1) = sgL X z c ++ [z * gi X c] := by simp [sgL, List.range_succ]
theorem sgL_len (X : List Int) (z : Int) (c : Nat) : (sgL X z c).length = c := by simp [sgL]
theorem gi_sgL {X : List Int} {z : Int} {c p : Nat} (h : p < c) : gi (sgL X z c) p = z * gi X p := by
  rw [gi_get (by rw [sgL_len]; exact h)]; simp [sgL]
theorem gcdL_sgL {X : List Int} {z : Int} (hz : z = 1 ∨ z = -1) {k : Nat} : ∀ {j}, j ≤ k → gcdL (sgL X z k) j = gcdL X j
  | 0, _ => rfl
  | j + 1, h => by
    rw [gcdL, gcdL, gcdL_sgL hz (by omega), gi_sgL (by omega)]
    rcases hz with rfl | rfl
    · rw [Int.one_mul]
    · unfold gcdI; rw [Int.neg_one_mul, Int.gcd_neg]
theorem shr_sgL {X : List Int} {z : Int} (hz : z = 1 ∨ z = -1) {n k : Nat} {r : Nat → Nat} (hl : X.length = k) : shr n r (sgL X z k) k = shr n r X k := by
  unfold shr
  rw [sgL_len, hl, gcdL_sgL hz (Nat.le_refl _)]
  congr 1
  unfold clrL
  refine List.map_congr_left fun p hp => ?_
  rw [gi_sgL (List.mem_range.1 hp)]
  rcases hz with rfl | rfl
  · rw [Int.one_mul]
  · rw [show max (-1 * gi X p) (-(-1 * gi X p)) = max (gi X p) (-(gi X p)) by omega]
/-- The sign of the sum. -/
def zsg (X : List Int) (k : Nat) : Int := if sumN (gi X) k < 0 then -1 else 1
theorem zsg_or (X : List Int) (k : Nat) : zsg X k = 1 ∨ zsg X k = -1 := by unfold zsg; split <;> simp
theorem lev_sum {X : List Int} (h : LevP X) (h0 : 0 < X.length) : sumN (gi X) X.length ≠ 0 ∧ ∀ p, p < X.length → 0 < zsg X X.length * gi X p := by
  rcases h with h | h
  · have hs := sumN_pos (f := gi X) (n := X.length) (fun i hi => by have := h i hi; omega) ⟨0, h0, h 0 h0⟩
    refine ⟨by omega, fun p hp => ?_⟩
    unfold zsg; rw [if_neg (by omega), Int.one_mul]; exact h p hp
  · have hs := sumN_pos (f := fun i => (-1) * gi X i) (n := X.length) (fun i hi => by have := h i hi; omega) ⟨0, h0, by have := h 0 h0; omega⟩
    rw [sumN_mul] at hs
    refine ⟨by omega, fun p hp => ?_⟩
    unfold zsg; rw [if_pos (by omega)]; have := h p hp; omega
theorem lev_of {X : List Int} {z : Int} (hz : z = 1 ∨ z = -1) (h : ∀ p, p < X.length → 0 < z * gi X p) : LevP X := by
  rcases hz with rfl | rfl
  · exact .inl fun p hp => by have := h p hp; omega
  · exact .inr fun p hp => by have := h p hp; omega

theorem memL_ge : ∀ R, R < 8 → ∀ n, n < 4 → 1 ≤ R → R < 2 ^ n → 1 ≤ (memL R n).length := by decide
/-- The shares of some strategies are the only ones at which these have as much, and no other one has more. -/
def LevAt (a : List (List Int)) (k : Nat) (r : Nat → Nat) : Prop := LevP (kY a r r k) ∧ RestP a (shr a.length r (kY a r r k) k) a.length
def lvl (a : List (List Int)) (s : Nat) : List Int := shr a.length (idx s a.length) (kY a (idx s a.length) (idx s a.length) (memL s a.length).length) (memL s a.length).length
def LvP (a : List (List Int)) (s : Nat) : Prop := 1 ≤ s ∧ s < 2 ^ a.length ∧ LevAt a (memL s a.length).length (idx s a.length)
noncomputable def resR (a : List (List Int)) : Nat → List (List Int)
  | 0 => []
  | s + 1 => if pb (LvP a s) = true then resR a s ++ [lvl a s] else resR a s
noncomputable def resF (a : List (List Int)) : List (List Int) := if pb (VQ a) = true then resR a 8 else []
theorem resR_yes {a : List (List Int)} {s : Nat} (h : LvP a s) : resR a (s + 1) = resR a s ++ [lvl a s] := by rw [resR, if_pos (pb_true h)]
theorem resR_no {a : List (List Int)} {s : Nat} (h : ¬ LvP a s) : resR a (s + 1) = resR a s := by rw [resR, if_neg (by rw [pb_false h]; decide)]
theorem lvl_len (a : List (List Int)) (s : Nat) : (lvl a s).length = a.length := putL_len _ _ _ _
theorem resR_one (a : List (List Int)) : resR a 1 = [] := by rw [resR_no (fun h => by have := h.1; omega)]; rfl
theorem resR_len (a : List (List Int)) : ∀ s, (resR a s).length ≤ s
  | 0 => by simp [resR]
  | s + 1 => by
    have := resR_len a s
    by_cases h : LvP a s
    · rw [resR_yes h, List.length_append, List.length_singleton]; omega
    · rw [resR_no h]; omega
theorem resR_end {a : List (List Int)} : ∀ {d}, resR a (2 ^ a.length + d) = resR a (2 ^ a.length)
  | 0 => rfl
  | d + 1 => by rw [← Nat.add_assoc, resR_no (fun h => by have := h.2.1; omega), resR_end]
theorem resR_all {a : List (List Int)} (h : a.length ≤ 3) : resR a 8 = resR a (2 ^ a.length) := by
  have h8 : 2 ^ a.length ≤ 8 := pow_le8 h
  have := resR_end (a := a) (d := 8 - 2 ^ a.length)
  rwa [show 2 ^ a.length + (8 - 2 ^ a.length) = 8 by omega] at this
theorem mem_resR {a : List (List Int)} {x : List Int} : ∀ {k}, x ∈ resR a k ↔ ∃ s, s < k ∧ LvP a s ∧ x = lvl a s
  | 0 => by simp [resR]
  | k + 1 => by
    have ih := mem_resR (a := a) (x := x) (k := k)
    by_cases h : LvP a k
    · rw [resR_yes h, List.mem_append, List.mem_singleton, ih]
      constructor
      · rintro (⟨s, h1, h2, h3⟩ | h1)
        · exact ⟨s, by omega, h2, h3⟩
        · exact ⟨k, by omega, h, h1⟩
      · rintro ⟨s, h1, h2, h3⟩
        by_cases e : s = k
        · subst e; exact .inr h3
        · exact .inl ⟨s, by omega, h2, h3⟩
    · rw [resR_no h, ih]
      constructor
      · rintro ⟨s, h1, h2, h3⟩; exact ⟨s, by omega, h2, h3⟩
      · rintro ⟨s, h1, h2, h3⟩
        by_cases e : s = k
        · subst e; exact absurd h2 h
        · exact ⟨s, by omega, h2, h3⟩
theorem lvl_VS {a : List (List Int)} (q : VQ a) {s : Nat} (h : LvP a s) (h8 : s < 8) : VS (lvl a s) a.length := by
  have hk3 : (memL s a.length).length ≤ 3 := by have := memL_le s a.length; have := q.1.n3; omega
  have h1 := memL_ge s h8 a.length (by have := q.1.n3; omega) h.1 h.2.1
  have hr := idx_asc s a.length
  exact shr_VS (kY_len _ _ _ _) hr (h.2.2.1.clr (by rw [kY_len]; omega)) (fun p hp => kY_bd q.1 hk3 hr (by rw [← q.2]; exact hr) hp)
end Go.Proofs.Yticcigdknaganaa

/- The shares of some strategies at which these have as much, by the model. -/
namespace Go.Proofs.Yticcigdknaganaa
open Go.RowKit
open V (sumN detN rowC colC cofN minorN skip sgn Asc)

/-- The first j numbers of row p of the differences; the first i rows. -/
def dfR (a : List (List Int)) (r : Nat → Nat) (p j : Nat) : List Int := (List.range j).map fun q => mf a r p q
def dfL (a : List (List Int)) (r : Nat → Nat) (k i : Nat) : List (List Int) := (List.range i).map fun p => dfR a r p k
theorem dfR_succ (a : List (List Int)) (r : Nat → Nat) (p j : Nat) : dfR a r p (j + 1) = dfR a r p j ++ [mf a r p j] := by simp [dfR, List.range_succ]
theorem dfL_succ (a : List (List Int)) (r : Nat → Nat) (k i : Nat) : dfL a r k (i + 1) = dfL a r k i ++ [dfR a r i k] := by simp [dfL, List.range_succ]
theorem dfR_len (a : List (List Int)) (r : Nat → Nat) (p j : Nat) : (dfR a r p j).length = j := by simp [dfR]
theorem dfL_len (a : List (List Int)) (r : Nat → Nat) (k i : Nat) : (dfL a r k i).length = i := by simp [dfL]
theorem dfL_sq (a : List (List Int)) (r : Nat → Nat) (k : Nat) : Sq k (dfL a r k k) (mf a r) :=
  ⟨dfL_len _ _ _ _, fun p hp => by rw [gr_get (by rw [dfL_len]; exact hp)]; simp [dfL, dfR], fun p q hp hq => by
    unfold g2; rw [gr_get (by rw [dfL_len]; exact hp), gi_get (by simp [dfL, dfR]; exact hq)]; simp [dfL, dfR]⟩
theorem dfR_zero {a : List (List Int)} {r : Nat → Nat} {p j : Nat} (h : p = 0) : dfR a r p (j + 1) = dfR a r p j ++ [1] := by subst h; exact dfR_succ _ _ _ _
theorem dfR_next {a : List (List Int)} {r : Nat → Nat} {p j : Nat} (h : p ≠ 0) : dfR a r p (j + 1) = dfR a r p j ++ [g2 a (r p) (r j) - g2 a (r 0) (r j)] := by
  rw [dfR_succ, mf, if_neg h]
theorem mf_odd {a : List (List Int)} {r : Nat → Nat} {k c : Nat} (hk : k ≤ 3) (hc : c < k) (h : c % 2 = 1) : gi (kY a r r k) c = -(detN (k - 1) (minorN (mf a r) 0 c)) := by
  rw [← mf_cof hk hc, cofN_odd (by omega)]
theorem mf_even {a : List (List Int)} {r : Nat → Nat} {k c : Nat} (hk : k ≤ 3) (hc : c < k) (h : ¬ c % 2 = 1) : gi (kY a r r k) c = detN (k - 1) (minorN (mf a r) 0 c) := by
  rw [← mf_cof hk hc, cofN_even (by omega)]

end Go.Proofs.Yticcigdknaganaa

/- Best shares by a part of a table, by the model. -/
namespace Go.Proofs.Yticcigdknaganaa
open Go.RowKit
open V (sumN detN rowC colC cofN minorN skip sgn Asc Kern)

/-- Shares by a part, and that they are best; or that there are none. -/
def NewK (w : World) (a : List (List Int)) (k : Nat) (r s : Nat → Nat) (e : Ending) (w' : World) : Prop :=
  (KerP a k r s ∧ ∃ A1 c1 A2 c2, e = .returned (.tuple #[.slice A1 a.length c1, .slice A2 (gr a 0).length c2, .bool true]) ∧ Ints w' A1 a.length c1 (shr a.length r (kX a r s k) k) ∧
    Ints w' A2 (gr a 0).length c2 (shr (gr a 0).length s (kY a r s k) k) ∧ Below w.heap.size w w') ∨
  (¬ KerP a k r s ∧ ∃ v1 v2, e = .returned (.tuple #[v1, v2, .bool false]) ∧ Below w.heap.size w w')
theorem flip_tr {xss : List (List Int)} {k : Nat} {f : Nat → Nat → Int} (h : Sq k xss f) : Sq k (flip xss k k) (trN f) :=
  ⟨flip_len _ _ _, fun p hp => by rw [gr_flip hp]; simp, fun p q hp hq => by
    unfold g2; rw [gr_flip hp, gi_col hq]; exact h.eq q p hq hp⟩
theorem Pl.keep {w w' : World} {X k c r n} (h : Pl w X k c r n) (q : Keep w w') : Pl w' X k c r n := ⟨h.ints.keep q, h.lt⟩

/-- What cleared answers, with its flag as a letter. -/
def ClrV (w' : World) (xs : List Int) (ok : Bool) (v : Value) : Prop :=
  (ok = true ∧ ClrP xs ∧ ∃ A c, v = .slice A xs.length c ∧ Ints w' A xs.length c (clrL xs (gcdL xs xs.length) xs.length)) ∨ (ok = false ∧ ¬ ClrP xs)
theorem NewC.uni {w w' : World} {xs : List Int} {e : Ending} (h : NewC w xs e w') : ∃ ok v, e = .returned (.tuple #[v, .bool ok]) ∧ Below w.heap.size w w' ∧ ClrV w' xs ok v := by
  rcases h with ⟨h1, A, n, c, g, rfl, rfl, ho, hb⟩ | ⟨h1, rfl, hb⟩
  · exact ⟨true, _, rfl, hb, .inl ⟨rfl, h1, A, c, rfl, ho.ints⟩⟩
  · exact ⟨false, _, rfl, hb, .inr ⟨rfl, h1⟩⟩
theorem ClrV.keep {w' w2 : World} {xs : List Int} {ok : Bool} {v : Value} (h : ClrV w' xs ok v) (k : Keep w' w2) : ClrV w2 xs ok v := by
  rcases h with ⟨h1, h2, A, c, h3, h4⟩ | h
  · exact .inl ⟨h1, h2, A, c, h3, h4.keep k⟩
  · exact .inr h
theorem mid_of {x : Int} (h : -648 ≤ x ∧ x ≤ 648) : Mid x := by unfold Mid; omega

end Go.Proofs.Yticcigdknaganaa

/- The value's shares, by the model. -/
namespace Go.Proofs.Yticcigdknaganaa
open Go.RowKit
open V (Asc)

/-- The best shares of a table. -/
def NewV (w : World) (a : List (List Int)) (e : Ending) (w' : World) : Prop :=
  ∃ A1 c1 A2 c2, e = .returned (.tuple #[.slice A1 a.length c1, .slice A2 (gr a 0).length c2]) ∧ Ints w' A1 a.length c1 (bx a) ∧ Ints w' A2 (gr a 0).length c2 (by_ a) ∧ Below w.heap.size w w'
theorem NewK.no {w w' : World} {a : List (List Int)} {k : Nat} {r s : Nat → Nat} {e : Ending} (h : NewK w a k r s e w') (hn : ¬ KerP a k r s) : ∃ v1 v2, e = .returned (.tuple #[v1, v2, .bool false]) ∧ Below w.heap.size w w' := by
  rcases h with ⟨h1, _⟩ | ⟨_, h⟩
  · exact absurd h1 hn
  · exact h
theorem NewK.yes {w w' : World} {a : List (List Int)} {k : Nat} {r s : Nat → Nat} {e : Ending} (h : NewK w a k r s e w') (hn : KerP a k r s) :
    ∃ A1 c1 A2 c2, e = .returned (.tuple #[.slice A1 a.length c1, .slice A2 (gr a 0).length c2, .bool true]) ∧ Ints w' A1 a.length c1 (shr a.length r (kX a r s k) k) ∧
      Ints w' A2 (gr a 0).length c2 (shr (gr a 0).length s (kY a r s k) k) ∧ Below w.heap.size w w' := by
  rcases h with ⟨_, h⟩ | ⟨h1, _⟩
  · exact h
  · exact absurd hn h1
theorem memL_pl {w : World} {A : Option Addr} {n c S m : Nat} (h : Ints w A n c (memL S m)) (e : n = (memL S m).length) : Pl w A n c (idx S m) m := by
  subst e
  exact ⟨by rw [← memL_idx]; exact h, (idx_asc S m).1⟩

end Go.Proofs.Yticcigdknaganaa

/- The rests of a table, by the model. -/
namespace Go.Proofs.Yticcigdknaganaa
open Go.RowKit
open V (sumN detN rowC colC cofN minorN skip sgn Asc)

theorem shl_val' {n : Nat} (h : n ≤ 3) : ∃ P : Nat, wrap64 ((2 : Int) ^ n) = (P : Int) ∧ P = 2 ^ n := by
  refine ⟨2 ^ n, ?_, rfl⟩
  have : n = 0 ∨ n = 1 ∨ n = 2 ∨ n = 3 := by omega
  rcases this with rfl | rfl | rfl | rfl <;> (unfold wrap64; decide)
theorem NewT.from {w w1 w2 : World} {xss : List (List Int)} {e : Ending} (h : Below w.heap.size w w1) (k : NewT w1 xss e w2) : NewT w xss e w2 := by
  obtain ⟨A, n, c, g, e1, e2, ho, hb⟩ := k
  exact ⟨A, n, c, g, e1, e2, ho.mono h.size (Nat.le_refl _), below_up h hb⟩
theorem TM.new {wb vs xss w} {A : Option Addr} {n c : Nat} (h : TM wb (.slice A n c) vs xss w) (hm : xss.length ≤ 100) : NewT wb xss (.returned (.slice A n c)) w := by
  obtain ⟨A', n', c', gg, e, hn', hown⟩ := h.bo.owns (by omega)
  injection e with e1 e2 e3
  subst e1
  subst e2
  subst e3
  exact ⟨_, _, _, gg, rfl, hn', hown, h.up⟩
theorem NewT.none {w w' : World} {xss : List (List Int)} (h : Below w.heap.size w w') (hx : xss = []) : NewT w xss (.returned (.slice none 0 0)) w' := by
  subst hx
  exact ⟨_, _, _, 0, rfl, rfl, OwnR.nil _ _ _ _, h⟩
theorem resF_yes {a : List (List Int)} (h : VQ a) : resF a = resR a 8 := by unfold resF; rw [if_pos (pb_true h)]
theorem resF_no {a : List (List Int)} (h : ¬ VQ a) : resF a = [] := by unfold resF; rw [if_neg (by rw [pb_false h]; decide)]

end Go.Proofs.Yticcigdknaganaa

/- Best replies, by the program. -/
namespace Go.Proofs.Yticcigdknaganaa
open Go.RowKit

theorem Try.info_row9 : (Try.prog.info? 36).map (fun i => (i.zero, i.size, i.bytes)) = some (some (.slice none 0 0), 1, 24) := by kernel_rfl
/-- Where a number stands. -/
def atB (x : Int) (xs : List Int) : Nat → Bool := fun k => decide (gi xs k = x)
/-- The best replies, when one plays an act now. -/
def brF (pays : List Int) (now : Nat) : List Int := if gi pays now = mxl pays then [] else selL (atB (mxl pays) pays) pays.length
theorem brF_len (pays : List Int) (now : Nat) : (brF pays now).length ≤ pays.length := by
  unfold brF; split
  · simp
  · exact selL_len _ _
theorem brF_mem {pays : List Int} {now : Nat} {y : Int} : y ∈ brF pays now ↔ gi pays now ≠ mxl pays ∧ ∃ k : Nat, k < pays.length ∧ gi pays k = mxl pays ∧ y = k := by
  unfold brF; split
  · rename_i h; simp [h]
  · rename_i h; rw [selL_mem]; simp [atB, h]
def colOf (xs : List (List Int)) (n j : Nat) : List Int := (List.range n).map fun i => g2 xs i j
theorem colOf_len (xs : List (List Int)) (n j : Nat) : (colOf xs n j).length = n := by simp [colOf]
theorem gi_colOf {xs : List (List Int)} {n i j : Nat} (h : i < n) : gi (colOf xs n j) i = g2 xs i j := gi_col h
theorem flip_colOf {xs : List (List Int)} {n m j : Nat} (h : j < m) : gr (flip xs n m) j = colOf xs n j := gr_flip h
def mvA (j : Nat) (l : List Int) : List (List Int) := l.map fun r => [r, (j : Int)]
def mvB (i : Nat) (l : List Int) : List (List Int) := l.map fun c => [(i : Int), c]
theorem mvA_len (j : Nat) (l : List Int) : (mvA j l).length = l.length := by simp [mvA]
theorem mvB_len (j : Nat) (l : List Int) : (mvB j l).length = l.length := by simp [mvB]
theorem mvA_step (j : Nat) {l : List Int} {k : Nat} (h : k < l.length) : mvA j (l.take (k + 1)) = mvA j (l.take k) ++ [[gi l k, (j : Int)]] := by
  rw [mvA, mvA, List.take_add_one, List.map_append, List.getElem?_eq_getElem h, gi_get h]; rfl
theorem mvB_step (j : Nat) {l : List Int} {k : Nat} (h : k < l.length) : mvB j (l.take (k + 1)) = mvB j (l.take k) ++ [[(j : Int), gi l k]] := by
  rw [mvB, mvB, List.take_add_one, List.map_append, List.getElem?_eq_getElem h, gi_get h]; rfl
/-- The pairs to which a pair leads. -/
def repL (xs ys : List (List Int)) (n i j : Nat) : List (List Int) := mvA j (brF (colOf xs n j) i) ++ mvB i (brF (gr ys i) j)
noncomputable def repF (xs ys : List (List Int)) (i j : Int) : List (List Int) := if (pb (VG xs ys) && pb (Blw xs.length i) && pb (Blw (gr xs 0).length j)) = true then repL xs ys xs.length i.toNat j.toNat else []

set_option maxRecDepth 100000 in
set_option maxHeartbeats 3200000 in
theorem indexesOf_any (x : Int) (A : Option Addr) (n c : Nat) (xs : List Int) (w : World) (hx : Ints w A n c xs) (hn : n ≤ 100) :
    Calls Try.prog 70 #[.int .i64 x, .slice A n c] w (NewI w (selL (atB x xs) n)) := by
  have HX := Lib.hid hx
  clear hx
  have HS0 := Lib.hid (IU.nil w)
  go_enter Try.func70, Try.ntmps70
  go_wp2
  go_loopw [5, 10] (fun v i wr => ∃ k : Nat, k ≤ n ∧ i = .int .i64 k ∧ Hid (IU w v (selL (atB x xs) k) wr)) (fun _ i _ => n - (intOf i).toNat)
  case atStart => exact ⟨0, by omega, rfl, HS0⟩
  case round =>
    clear HS0
    obtain ⟨k, hk, rfl, HI⟩ := hrel
    obtain ⟨Av, cv, rfl⟩ := HI.out.bi.form
    by_cases hlt : k < n
    · obtain ⟨b, o, rfl, hc⟩ := (HX.out.keep (Keep.below HI.out.up)).at_ (by omega)
      have c1 := hc k hlt
      clear hc
      by_cases hm : gi xs k = x
      · have hm' : (gi xs k == x) = true := by simp [hm]
        have HCS := Lib.hid (selL_yes (f := atB x xs) (k := k) (by simp [atB, hm]))
        clear hm
        have HML := Lib.hid (selL_len (atB x xs) k)
        have hb := below_alloc wr (.cells #[iv (k : Int)] 3)
        have HB4 := Lib.hid (HI.out.bi.below hb).own
        have HN := Lib.hid (cell_one_new wr (iv (k : Int)) 3)
        have hwz := HI.out.up.size
        clear hb
        generalize selL (atB x xs) k = ys at *
        obtain ⟨i0, hi0, hz0, hz1, hz2⟩ := info_parts Try.info_int
        go_wp2_with (at_builtin; refine wpList_append_own_at _ rfl _ _ 36 rfl w.heap.size 3 i0 (.int .i64 0) 1 8 Try.underlying36 hi0 hz0 hz1 hz2 rfl (by decide) _ ys.length (ys.map iv) rfl HB4.out ⟨wr.heap.size, 0, none⟩ 1 1 [iv (k : Int)] rfl rfl ?c1 ?c2 ?c3 ?c4 ?c5 ?_)
        case c1 => exact HN.out
        case c2 => intro u hu; simp at hu; subst hu; rfl
        case c3 => have := HML.out; unfold maxLen; omega
        case c4 => have := HML.out; omega
        case c5 => simp; omega
        intro v' w5 hown' hgrow _ hat
        have HI5 := Lib.hid (HI.out.push hown' hgrow (by simpa using hat))
        clear HB4 HN hown' hgrow hat HI c1
        go_wp2
        go_roundw
        case rel => exact ⟨k + 1, by omega, by go_num, Lib.hid (by rw [HCS.out]; exact HI5.out)⟩
        case measure => simp [intOf]; omega
      · have hm' : (gi xs k == x) = false := by simp [hm]
        have HCS := Lib.hid (selL_no (f := atB x xs) (k := k) (by simp [atB, hm]))
        clear hm
        go_wp2
        go_roundw
        case rel => exact ⟨k + 1, by omega, by go_num, Lib.hid (by rw [HCS.out]; exact HI.out)⟩
        case measure => simp [intOf]; omega
    · obtain rfl : k = n := by omega
      have HNW := Lib.hid (HI.out.new (by have := selL_len (atB x xs) k; omega) (selL_small _ k hn))
      go_wp2
      go_ret
      exact HNW.out
set_option maxRecDepth 100000 in
set_option maxHeartbeats 1600000 in
theorem bestReplies_any (A : Option Addr) (n c : Nat) (xs : List Int) (now : Nat) (w : World) (hx : Ints w A n c xs) (hn : n ≤ 100) (h0 : now < n) :
    Calls Try.prog 51 #[.slice A n c, .int .i64 now] w (NewI w (brF xs now)) := by
  have HC := Lib.hid (Max_any A n c xs w hx (by omega))
  have HX := Lib.hid hx
  have hl := hx.len
  clear hx
  by_cases hm : gi xs now = mxl xs
  · have hm' : (gi xs now == mxl xs) = true := by simp [hm]
    have HE := Lib.hid (show brF xs now = [] by rw [brF, if_pos hm])
    clear hm hl
    go_enter Try.func51, Try.ntmps51
    go_wp2_with fail
    refine HC.out.mono ?_
    rintro e w1 ⟨rfl, hq⟩
    obtain ⟨b, o, rfl, hc⟩ := (HX.out.keep (Keep.quiet hq)).at_ (by omega)
    have c1 := hc now h0
    have HQ := Lib.hid (Quiet.below (B := w.heap.size) hq)
    clear hc hq HC
    go_wp2
    go_ret
    exact NewI.empty HQ.out HE.out
  · have hm' : (gi xs now == mxl xs) = false := by simp [hm]
    have HE := Lib.hid (show selL (atB (mxl xs) xs) n = brF xs now by rw [brF, if_neg hm, hl])
    clear hm hl
    go_enter Try.func51, Try.ntmps51
    go_wp2_with fail
    refine HC.out.mono ?_
    rintro e w1 ⟨rfl, hq⟩
    have HX1 := Lib.hid (HX.out.keep (Keep.quiet hq))
    have HQ := Lib.hid (Quiet.below (B := w.heap.size) hq)
    obtain ⟨b, o, rfl, hc⟩ := (HX.out.keep (Keep.quiet hq)).at_ (by omega)
    have c1 := hc now h0
    clear hc hq HC HX
    go_wp2_with fail
    refine (HE.out ▸ indexesOf_any _ _ _ _ xs _ HX1.out hn).mono ?_
    rintro e w2 hN
    have HN := Lib.hid (NewI.from HQ.out hN)
    obtain ⟨Av, k, cv, gg, rfl, -⟩ := hN
    clear HQ HX1 c1
    go_wp2
    go_ret
    exact HN.out
theorem NewT.is {w w' : World} {a b : List (List Int)} {e : Ending} (h : a = b) (k : NewT w a e w') : NewT w b e w' := h ▸ k
/-- Rows under way, and a list of ints that is read beside them. -/
structure RS (wb : World) (lo hi : Nat) (v : Value) (vs : List Value) (acc : List (List Int)) (gg : Nat) (A : Option Addr) (n c : Nat) (ls : List Int) (wr : World) : Prop where
  tm : TM wb v vs acc wr
  li : OwnI lo hi wr gg A n c ls
  hi_ : hi ≤ wr.heap.size
  far : ∀ k, v.ownBlock = some k → k < lo ∨ hi ≤ k
theorem RS.start {wb w1 w2 : World} {v : Value} {vs : List Value} {acc : List (List Int)} {gg : Nat} {A : Option Addr} {n c : Nat} {ls : List Int} (h : TM wb v vs acc w1) (ho : OwnI w1.heap.size w2.heap.size w2 gg A n c ls) (hb : Below w1.heap.size w1 w2) :
    RS wb w1.heap.size w2.heap.size v vs acc gg A n c ls w2 :=
  ⟨h.next hb, ho, Nat.le_refl _, fun k hk => .inl (h.bo.hi_ k hk)⟩
theorem RS.push {wb wr w6 : World} {lo hi : Nat} {v v' : Value} {vs : List Value} {acc : List (List Int)} {gg n c : Nat} {A : Option Addr} {ls : List Int} {x y : Int} (h : RS wb lo hi v vs acc gg A n c ls wr)
    (hr : OwnI wr.heap.size (wr.heap.size + 1) (wr.alloc (.cells #[.int .i64 x, .int .i64 y] 3)) wr.heap.size (some ⟨wr.heap.size, 0, none⟩) 2 2 [x, y])
    (hown : w6.ownsRow wb.heap.size 36 1 v' (acc.length + 1) (vs ++ [.slice (some ⟨wr.heap.size, 0, none⟩) 2 2]))
    (hgrow : ((wr.alloc (.cells #[.int .i64 x, .int .i64 y] 3)).alloc (.cells #[.slice (some ⟨wr.heap.size, 0, none⟩) 2 2] 36)).grownBy w6 v.ownBlock)
    (hat : v'.ownBlock = v.ownBlock ∨ v'.ownBlock = some ((wr.alloc (.cells #[.int .i64 x, .int .i64 y] 3)).heap.size + 1)) :
    RS wb lo hi v' (vs ++ [.slice (some ⟨wr.heap.size, 0, none⟩) 2 2]) (acc ++ [[x, y]]) gg A n c ls w6 := by
  have h1 := h.hi_
  have hk := below_alloc wr (.cells #[.int .i64 x, .int .i64 y] 3)
  have h3 := hgrow.size
  simp only [World.size_alloc] at h3
  refine ⟨h.tm.push (r := [x, y]) hk (hr.mono (Nat.le_refl _) (by simp)) hown hgrow hat, h.li.of_block fun hn => ?_, by omega, fun k hk => ?_⟩
  · obtain ⟨o, e, hl, hh, _⟩ := h.li.own hn
    refine (hgrow.block gg (by simp; omega) (fun e => ?_)).trans ((Below.heap_alloc _ _ _ (by simp; omega)).trans (hk.block gg (by omega)))
    have := h.far gg e.symm
    omega
  · rcases hat with hat | hat
    · exact h.far k (by rw [← hat]; exact hk)
    · rw [hat] at hk; injection hk with hk; simp at hk; omega

set_option maxRecDepth 100000 in
set_option maxHeartbeats 6400000 in
theorem ReplyMoves_impl (A B : Option Addr) (n c m d : Nat) (xs ys : List (List Int)) (i j : Int) (w : World) (hx : IntRows w A n c xs) (hy : IntRows w B m d ys) (hi : Fit i) (hj : Fit j) :
    Calls Try.prog 16 #[.agg #[.slice A n c, .slice B m d], .int .i64 i, .int .i64 j] w (NewT w (repF xs ys i j)) := by
  have hb0 := below_alloc w (.cells #[.slice A n c, .slice B m d] 27)
  have b0 := blk_new w 27 #[.slice A n c, .slice B m d]
  have HB := Lib.hid hb0
  have HK := Lib.hid b0
  have HX := Lib.hid (hx.keep (Keep.below hb0))
  have HY := Lib.hid (hy.keep (Keep.below hb0))
  have HX0 := Lib.hid hx
  have HY0 := Lib.hid hy
  have HFI := Lib.hid hi
  have HFJ := Lib.hid hj
  clear hx hy hb0 b0 hi hj
  go_enter Try.func16, Try.ntmps16
  go_wp2_with fail
  generalize w.alloc (.cells #[.slice A n c, .slice B m d] 27) = W1 at *
  have HC := Lib.hid (ValidGame_impl _ _ _ _ _ _ _ _ _ HX.out HY.out)
  by_cases hv : VG xs ys
  · refine ((pb_true hv) ▸ HC.out).mono ?_
    rintro e w1 ⟨rfl, hb⟩
    have hb2 := below_up HB.out hb
    have hk2 := blk_below HK.out hb
    obtain ⟨p, rfl, rfl, rfl, rfl, rfl, rfl, hg⟩ := GV.of HX0.out HY0.out hv
    have HT := Lib.hid (show GT p w w1 w.heap.size xs ys from ⟨hb2, hk2, hg⟩)
    have hn3 := hg.tx.n3
    have hm3 := hg.tx.m3
    have hn1 := hg.tx.n1
    have hm1 := hg.tx.m1
    have HP := Lib.hid (show repF xs ys i j = if (pb (Blw p.n i) && pb (Blw p.m j)) = true then repL xs ys p.n i.toNat j.toNat else [] by rw [repF, pb_true hv, hg.lx, hg.mx, Bool.true_and])
    have HLY := Lib.hid (show ∀ i, i < p.n → (gr ys i).length = p.m from fun i hi => (hg.ty.ints i hi).len)
    clear hb hv hb2 hk2 hg HX HY HX0 HY0 HB HK HC
    have k0 := HT.out.c0
    have r0 := HT.out.gv.tx.row 0 hn1
    simp only [Nat.add_zero] at r0
    by_cases hi : Blw p.n i
    · by_cases hj : Blw p.m j
      · have QI := Lib.hid (fun W => pb_true hi ▸ isBelow_any (p.n : Int) i W)
        have QJ := Lib.hid (fun W => pb_true hj ▸ isBelow_any (p.m : Int) j W)
        rw [pb_true hi, pb_true hj, Bool.and_self, if_pos rfl] at HP
        unfold Blw at hi hj
        obtain ⟨x, rfl⟩ : ∃ x : Nat, i = x := ⟨i.toNat, by omega⟩
        obtain ⟨y, rfl⟩ : ∃ y : Nat, j = y := ⟨j.toNat, by omega⟩
        have hxn : x < p.n := by omega
        have hym : y < p.m := by omega
        simp only [Int.toNat_natCast] at HP
        clear hi hj HFI HFJ
        go_wp2_with fail
        refine (QI.out _).mono ?_
        rintro e w2 ⟨rfl, rfl⟩
        go_wp2_with fail
        refine (QJ.out _).mono ?_
        rintro e w2 ⟨rfl, rfl⟩
        clear QI QJ
        go_wp2_with fail
        refine (turned_any _ _ _ _ _ _ _ _ _ _ HT.out.gv.tx).mono ?_
        rintro e w2 ⟨rfl, ho, hb, hlt⟩
        have HT2 := Lib.hid (HT.out.up hb)
        obtain ⟨R, cc, t1, tI⟩ := ho.row0 hym
        rw [flip_colOf hym, colOf_len] at t1 tI
        have HBR := Lib.hid (bestReplies_any _ _ _ _ x _ tI (by omega) hxn)
        have HTM := Lib.hid (TM.mk (wb := w2) (v := .slice none 0 0) (vs := []) (xss := []) (Bld.nil _ _ _) (Below.refl _ _))
        clear ho hb hlt HT k0 r0 tI
        generalize hw1 : w1.heap.size = N at *
        clear hw1
        go_wp2_with fail
        refine HBR.out.mono ?_
        rintro e w3 ⟨Al, nl, cl, gl, rfl, rfl, ho, hb⟩
        have HR := Lib.hid (RS.start HTM.out ho hb)
        have HLL := Lib.hid (show (brF (colOf xs p.n y) x).length ≤ 3 by have := brF_len (colOf xs p.n y) x; rw [colOf_len] at this; omega)
        have HMEM := Lib.hid (show ∀ z ∈ brF (colOf xs p.n y) x, -1000 ≤ z ∧ z ≤ 1000 from fun z hz => by
          obtain ⟨_, k, hk, _, rfl⟩ := brF_mem.1 hz
          rw [colOf_len] at hk; omega)
        clear HBR ho hb HTM t1
        have hl3 := HLL.out
        generalize hls : brF (colOf xs p.n y) x = ls at *
        have HLS := Lib.hid hls
        clear hls
        generalize hlo : w2.heap.size = lo at *
        have HLO := Lib.hid hlo
        clear hlo
        generalize w3.heap.size = hi at *
        go_wp2
        go_loopw [7, 42] (fun v s wr => ∃ (k : Nat) (vs : List Value), k ≤ ls.length ∧ s = .int .i64 k ∧ Hid (RS w2 lo hi v vs (mvA y (ls.take k)) gl Al ls.length cl ls wr)) (fun _ s _ => ls.length - (intOf s).toNat)
        case atStart => exact ⟨0, [], Nat.zero_le _, rfl, HR⟩
        case round =>
          clear HR
          obtain ⟨k, vs, hk, rfl, HR⟩ := hrel
          obtain ⟨Av, cv, rfl⟩ := HR.out.tm.bo.form
          by_cases hkl : k < ls.length
          · obtain ⟨bl, ol, rfl, hcl⟩ := HR.out.li.ints.at_ (by omega)
            have c1 := hcl k hkl
            have HMS := Lib.hid (mvA_step y hkl)
            have HGB := Lib.hid (HMEM.out _ (gi_mem hkl))
            have HLA := Lib.hid (show (mvA y (ls.take k)).length ≤ 3 by rw [mvA_len, List.length_take]; have := HLL.out; omega)
            clear hcl
            have HRT := Lib.hid HR.out.tm
            generalize gi ls k = z at *
            generalize mvA y (ls.take k) = acc at *
            have hb3 := below_alloc wr (.cells #[.int .i64 z, .int .i64 y] 3)
            have hb4 := below_alloc (wr.alloc (.cells #[.int .i64 z, .int .i64 y] 3)) (.cells #[.slice (some ⟨wr.heap.size, 0, none⟩) 2 2] 36)
            have HB4 := Lib.hid ((HRT.out.bo.below hb3).below hb4).own
            have HN := Lib.hid (cell_one_new (wr.alloc (.cells #[.int .i64 z, .int .i64 y] 3)) (.slice (some ⟨wr.heap.size, 0, none⟩) 2 2) 36)
            have HPO := Lib.hid (pair_own (lo := wr.heap.size) (w := wr) z y (by have := HGB.out; omega) (by omega) (Nat.le_refl _))
            have hlh : w2.heap.size ≤ wr.heap.size := HRT.out.up.size
            clear hb3 hb4
            obtain ⟨i0, hi0, hz0, hz1, hz2⟩ := info_parts Try.info_row9
            go_wp2_with (at_builtin; refine wpList_append_own_at _ rfl _ _ 22 rfl w2.heap.size 36 i0 (.slice none 0 0) 1 24 Try.underlying22 hi0 hz0 hz1 hz2 rfl (by decide) _ (acc).length vs rfl HB4.out ⟨wr.heap.size + 1, 0, none⟩ 1 1 [.slice (some ⟨wr.heap.size, 0, none⟩) 2 2] rfl rfl ?c1 ?c2 ?c3 ?c4 ?c5 ?_)
            case c1 => have h := HN.out; rw [World.size_alloc] at h; exact h
            case c2 => intro u hu; simp at hu; subst hu; rfl
            case c3 => have := HLA.out; unfold maxLen; omega
            case c4 => have := HLA.out; omega
            case c5 => simp; omega
            intro v' w5 hown' hgrow _ hat
            have hgrow2 : ((wr.alloc (.cells #[.int .i64 z, .int .i64 y] 3)).alloc (.cells #[.slice (some ⟨wr.heap.size, 0, none⟩) 2 2] 36)).grownBy w5 (Value.slice Av (acc).length cv).ownBlock := hgrow
            have hat2 : v'.ownBlock = (Value.slice Av (acc).length cv).ownBlock ∨ v'.ownBlock = some ((wr.alloc (.cells #[.int .i64 z, .int .i64 y] 3)).heap.size + 1) := by simpa using hat
            have HR5 := Lib.hid (HR.out.push HPO.out hown' hgrow2 hat2)
            clear HB4 HN HPO hown' hgrow hat hgrow2 hat2 HLA
            clear HR HRT c1
            go_wp2
            go_roundw
            case rel => exact ⟨k + 1, _, by omega, by go_num, Lib.hid (by rw [HMS.out]; exact HR5.out)⟩
            case measure => simp [intOf]; omega
          · obtain rfl : k = ls.length := by omega
            have HTM := Lib.hid HR.out.tm
            have HT3 := Lib.hid (HT2.out.up HTM.out.up)
            have HA1 := Lib.hid (show (mvA y (ls.take ls.length)).length ≤ 3 by rw [mvA_len, List.take_length]; exact HLL.out)
            have k1 := HT3.out.c1
            have r1 := HT3.out.gv.ty.row x hxn
            have HIY := Lib.hid (HT3.out.gv.ty.ints x hxn)
            have HBR := Lib.hid (bestReplies_any _ _ _ _ y _ HIY.out (by omega) hym)
            clear HR HIY
            go_wp2_with fail
            refine HBR.out.mono ?_
            rintro e w4 ⟨Am, nm, cm, gm, rfl, rfl, ho, hb⟩
            have HR := Lib.hid (RS.start HTM.out ho hb)
            have HLM := Lib.hid (show (brF (gr ys x) y).length ≤ 3 by have := brF_len (gr ys x) y; rw [HLY.out x hxn] at this; omega)
            have HMEM2 := Lib.hid (show ∀ z ∈ brF (gr ys x) y, -1000 ≤ z ∧ z ≤ 1000 from fun z hz => by
              obtain ⟨_, k, hk, _, rfl⟩ := brF_mem.1 hz
              rw [HLY.out x hxn] at hk; omega)
            clear HBR ho hb HTM r1 k1
            have hm3' := HLM.out
            generalize hms : brF (gr ys x) y = ms at *
            have HMSS := Lib.hid hms
            clear hms
            obtain ⟨wA, hwA⟩ : ∃ wA, wA = wr := ⟨_, rfl⟩
            subst hwA
            generalize hac0 : mvA y (ls.take ls.length) = ac0 at *
            have HAC0 := Lib.hid hac0
            clear hac0
            generalize wA.heap.size = lo2 at *
            generalize w4.heap.size = hi2 at *
            go_wp2
            go_loopw [7, 61] (fun v s wr => ∃ (k : Nat) (vs : List Value), k ≤ ms.length ∧ s = .int .i64 k ∧ Hid (RS w2 lo2 hi2 v vs (ac0 ++ mvB x (ms.take k)) gm Am ms.length cm ms wr)) (fun _ s _ => ms.length - (intOf s).toNat)
            case atStart => exact ⟨0, vs, Nat.zero_le _, rfl, Lib.hid (by simpa [mvB] using HR.out)⟩
            case round =>
              clear HR vs
              obtain ⟨k, vs, hk, rfl, HR⟩ := hrel
              obtain ⟨Av, cv, rfl⟩ := HR.out.tm.bo.form
              by_cases hkm : k < ms.length
              · obtain ⟨bl, ol, rfl, hcl⟩ := HR.out.li.ints.at_ (by omega)
                have c1 := hcl k hkm
                have HMS := Lib.hid (mvB_step x hkm)
                have HGB := Lib.hid (HMEM2.out _ (gi_mem hkm))
                have HLA := Lib.hid (show (ac0 ++ mvB x (ms.take k)).length ≤ 6 by rw [List.length_append, mvB_len, List.length_take]; have := HA1.out; have := HLM.out; omega)
                clear hcl
                have HRT := Lib.hid HR.out.tm
                generalize gi ms k = z at *
                generalize hpart : mvB x (ms.take k) = part at *
                clear hpart
                generalize hacc : ac0 ++ part = acc at *
                have HACC := Lib.hid hacc
                clear hacc
                have hb3 := below_alloc wr (.cells #[.int .i64 x, .int .i64 z] 3)
                have hb4 := below_alloc (wr.alloc (.cells #[.int .i64 x, .int .i64 z] 3)) (.cells #[.slice (some ⟨wr.heap.size, 0, none⟩) 2 2] 36)
                have HB4 := Lib.hid ((HRT.out.bo.below hb3).below hb4).own
                have HN := Lib.hid (cell_one_new (wr.alloc (.cells #[.int .i64 x, .int .i64 z] 3)) (.slice (some ⟨wr.heap.size, 0, none⟩) 2 2) 36)
                have HPO := Lib.hid (pair_own (lo := wr.heap.size) (w := wr) x z (by omega) (by have := HGB.out; omega) (Nat.le_refl _))
                have hlh : w2.heap.size ≤ wr.heap.size := HRT.out.up.size
                clear hb3 hb4
                obtain ⟨i0, hi0, hz0, hz1, hz2⟩ := info_parts Try.info_row9
                go_wp2_with (at_builtin; refine wpList_append_own_at _ rfl _ _ 22 rfl w2.heap.size 36 i0 (.slice none 0 0) 1 24 Try.underlying22 hi0 hz0 hz1 hz2 rfl (by decide) _ (acc).length vs rfl HB4.out ⟨wr.heap.size + 1, 0, none⟩ 1 1 [.slice (some ⟨wr.heap.size, 0, none⟩) 2 2] rfl rfl ?c1 ?c2 ?c3 ?c4 ?c5 ?_)
                case c1 => have h := HN.out; rw [World.size_alloc] at h; exact h
                case c2 => intro u hu; simp at hu; subst hu; rfl
                case c3 => have := HLA.out; unfold maxLen; omega
                case c4 => have := HLA.out; omega
                case c5 => simp; omega
                intro v' w5 hown' hgrow _ hat
                have hgrow2 : ((wr.alloc (.cells #[.int .i64 x, .int .i64 z] 3)).alloc (.cells #[.slice (some ⟨wr.heap.size, 0, none⟩) 2 2] 36)).grownBy w5 (Value.slice Av (acc).length cv).ownBlock := hgrow
                have hat2 : v'.ownBlock = (Value.slice Av (acc).length cv).ownBlock ∨ v'.ownBlock = some ((wr.alloc (.cells #[.int .i64 x, .int .i64 z] 3)).heap.size + 1) := by simpa using hat
                have HR5 := Lib.hid (HR.out.push HPO.out hown' hgrow2 hat2)
                clear HB4 HN HPO hown' hgrow hat hgrow2 hat2 HLA
                clear HR HRT c1
                go_wp2
                go_roundw
                case rel => exact ⟨k + 1, _, by omega, by go_num, Lib.hid (by rw [HMS.out, ← List.append_assoc, HACC.out]; exact HR5.out)⟩
                case measure => simp [intOf]; omega
              · obtain rfl : k = ms.length := by omega
                have HE := Lib.hid (show ac0 ++ mvB x (ms.take ms.length) = repF xs ys x y by rw [HP.out, repL, HLS.out, HMSS.out, List.take_length, ← HAC0.out, List.take_length])
                have HNT := Lib.hid (NewT.from HT2.out.below (HR.out.tm.new (by rw [List.length_append, mvB_len, List.length_take]; have := HA1.out; have := HLM.out; omega)))
                clear HR
                go_wp2
                go_ret
                exact NewT.is HE.out HNT.out
      · have QI := Lib.hid (fun W => pb_true hi ▸ isBelow_any (p.n : Int) i W)
        have QJ := Lib.hid (fun W => pb_false hj ▸ isBelow_any (p.m : Int) j W)
        have HE := Lib.hid (show repF xs ys i j = [] by rw [HP.out, pb_false hj, Bool.and_false]; rfl)
        clear hi hj HP
        go_wp2_with fail
        refine (QI.out _).mono ?_
        rintro e w2 ⟨rfl, rfl⟩
        go_wp2_with fail
        refine (QJ.out _).mono ?_
        rintro e w2 ⟨rfl, rfl⟩
        go_wp2
        go_ret
        exact NewT.none HT.out.below HE.out
    · have QI := Lib.hid (fun W => pb_false hi ▸ isBelow_any (p.n : Int) i W)
      have HE := Lib.hid (show repF xs ys i j = [] by rw [HP.out, pb_false hi, Bool.false_and]; rfl)
      clear hi HP
      go_wp2_with fail
      refine (QI.out _).mono ?_
      rintro e w2 ⟨rfl, rfl⟩
      go_wp2
      go_ret
      exact NewT.none HT.out.below HE.out
  · have HZ := Lib.hid (show repF xs ys i j = [] by rw [repF, pb_false hv]; rfl)
    refine ((pb_false hv) ▸ HC.out).mono ?_
    rintro e w1 ⟨rfl, hb⟩
    have HB2 := Lib.hid (below_up HB.out hb)
    clear hb hv HC
    go_wp2
    go_ret
    exact NewT.none HB2.out HZ.out
end Go.Proofs.Yticcigdknaganaa

/- Pure rests, by the model. -/
namespace Go.Proofs.Yticcigdknaganaa
open Go.RowKit

theorem Try.info32_ : (Try.prog.info? 36).map (fun i => (i.zero, i.size, i.bytes)) = some (some (.slice none 0 0), 1, 24) := by kernel_rfl
end Go.Proofs.Yticcigdknaganaa

/- Best replies, and the pairs to which they lead, by the model. -/
namespace Go.Proofs.Yticcigdknaganaa
open Go.RowKit

/-- The greatest of a number and the first ones of a list. -/
def fm (b : Int) (xs : List Int) : Nat → Int
  | 0 => b
  | k + 1 => if fm b xs k < gi xs k then gi xs k else fm b xs k
theorem fm_ge (b : Int) (xs : List Int) : ∀ k, b ≤ fm b xs k ∧ ∀ j, j < k → gi xs j ≤ fm b xs k
  | 0 => ⟨Int.le_refl _, fun j h => by omega⟩
  | k + 1 => by
    have h := fm_ge b xs k
    simp only [fm]
    split
    · exact ⟨by omega, fun j hj => by
        by_cases hjk : j = k
        · subst hjk; omega
        · have := h.2 j (by omega); omega⟩
    · exact ⟨h.1, fun j hj => by
        by_cases hjk : j = k
        · subst hjk; omega
        · exact h.2 j (by omega)⟩
theorem fm_at (b : Int) (xs : List Int) : ∀ k, fm b xs k = b ∨ ∃ j, j < k ∧ gi xs j = fm b xs k
  | 0 => .inl rfl
  | k + 1 => by
    simp only [fm]
    split
    · exact .inr ⟨k, by omega, rfl⟩
    · rcases fm_at b xs k with h | ⟨j, hj, h⟩
      · exact .inl h
      · exact .inr ⟨j, by omega, h⟩
theorem fm_mxl {xs : List Int} {i : Nat} (h : i < xs.length) : fm (gi xs i) xs xs.length = mxl xs := by
  obtain ⟨j, hj, e⟩ : ∃ j, j < xs.length ∧ gi xs j = fm (gi xs i) xs xs.length := by
    rcases fm_at (gi xs i) xs xs.length with h1 | ⟨j, hj, e⟩
    · exact ⟨i, h, h1.symm⟩
    · exact ⟨j, hj, e⟩
  rw [← e, mxl_iff hj]
  intro k hk
  rw [e]
  exact (fm_ge _ _ _).2 k hk
theorem fm_bd {b lo hi : Int} {xs : List Int} (hb : lo ≤ b ∧ b ≤ hi) : ∀ k, (∀ j, j < k → lo ≤ gi xs j ∧ gi xs j ≤ hi) → lo ≤ fm b xs k ∧ fm b xs k ≤ hi
  | 0, _ => hb
  | k + 1, h => by
    have h1 := fm_bd hb k (fun j hj => h j (by omega))
    have h2 := h k (by omega)
    simp only [fm]; split <;> omega
/-- Which replies are best: the model asks both at once. -/
def brB (pays : List Int) (now : Nat) : Nat → Bool := fun k => decide (gi pays k = mxl pays) && decide (gi pays now < mxl pays)
theorem le_mxl {xs : List Int} {k : Nat} (h : k < xs.length) : gi xs k ≤ mxl xs := mx_ge xs (by omega)
theorem brB_sel {pays : List Int} {now : Nat} (h : now < pays.length) : selL (brB pays now) pays.length = brF pays now := by
  have h1 := le_mxl h
  unfold brF
  by_cases he : gi pays now = mxl pays
  · rw [if_pos he]
    have : selL (brB pays now) pays.length = selL (fun _ => false) pays.length := selL_congr fun k _ => by simp [brB, he]
    rw [this]; simp [selL]
  · rw [if_neg he]
    exact selL_congr fun k _ => by have : gi pays now < mxl pays := by omega
                                   simp [brB, atB, this]
theorem mvA_yes {j k : Nat} {f : Nat → Bool} (h : f k = true) : mvA j (selL f (k + 1)) = mvA j (selL f k) ++ [[(k : Int), (j : Int)]] := by rw [selL_yes h, mvA, mvA, List.map_append]; rfl
theorem mvB_yes {j k : Nat} {f : Nat → Bool} (h : f k = true) : mvB j (selL f (k + 1)) = mvB j (selL f k) ++ [[(j : Int), (k : Int)]] := by rw [selL_yes h, mvB, mvB, List.map_append]; rfl
/-- What the loops know. -/
structure RQ9 (p : GP) (w w1 : World) (v : Value) (vs : List Value) (acc xs ys : List (List Int)) (wr : World) : Prop where
  tm : TM w1 v vs acc wr
  gt : GT p w w1 w.heap.size xs ys
theorem RQ9.gr_ {p w w1 v vs acc xs ys wr} (h : RQ9 p w w1 v vs acc xs ys wr) : GT p w wr w.heap.size xs ys := h.gt.up h.tm.up

set_option maxRecDepth 100000 in
set_option maxHeartbeats 6400000 in
theorem replies_any (p : GP) (i j : Nat) (xs ys : List (List Int)) (w : World) (hg : GV p w xs ys) (hi : i < p.n) (hj : j < p.m) :
    Calls Try.prog 49 #[.agg #[.slice (some ⟨p.ba, p.oa, none⟩) p.n p.c, .slice (some ⟨p.bb, p.ob, none⟩) p.n p.d], .int .i64 i, .int .i64 j] w (NewT w (repL xs ys p.n i j)) := by
  have HT := Lib.hid (GT.start hg)
  have hn3 := hg.tx.n3
  have hm3 := hg.tx.m3
  have hn1 := hg.tx.n1
  have hm1 := hg.tx.m1
  have HLY := Lib.hid (show (gr ys i).length = p.m from (hg.ty.ints i hi).len)
  have HBA := Lib.hid (fun k (hk : k < p.n) => show -9 ≤ gi (colOf xs p.n j) k ∧ gi (colOf xs p.n j) k ≤ 9 by rw [gi_colOf hk]; exact hg.tx.bd k j hk hj)
  have HBB := Lib.hid (fun k (hk : k < p.m) => show -9 ≤ gi (gr ys i) k ∧ gi (gr ys i) k ≤ 9 from hg.ty.bd i k hi hk)
  have HMA := Lib.hid (show fm (gi (colOf xs p.n j) i) (colOf xs p.n j) p.n = mxl (colOf xs p.n j) by have h := fm_mxl (xs := colOf xs p.n j) (i := i) (by rw [colOf_len]; exact hi); rw [colOf_len] at h; exact h)
  have HMB := Lib.hid (show fm (gi (gr ys i) j) (gr ys i) p.m = mxl (gr ys i) by have h := fm_mxl (xs := gr ys i) (i := j) (by rw [HLY.out]; exact hj); rw [HLY.out] at h; exact h)
  have HSA := Lib.hid (show mvA j (selL (brB (colOf xs p.n j) i) p.n) = mvA j (brF (colOf xs p.n j) i) by have h := brB_sel (pays := colOf xs p.n j) (now := i) (by rw [colOf_len]; exact hi); rw [colOf_len] at h; rw [h])
  have HSB := Lib.hid (show mvB i (selL (brB (gr ys i) j) p.m) = mvB i (brF (gr ys i) j) by have h := brB_sel (pays := gr ys i) (now := j) (by rw [HLY.out]; exact hj); rw [HLY.out] at h; rw [h])
  have HA0 := Lib.hid (gi_colOf (xs := xs) (j := j) hi)
  clear hg
  go_enter Try.func49, Try.ntmps49
  have hw1 : w.heap.size < (w.alloc (.cells #[.slice (some ⟨p.ba, p.oa, none⟩) p.n p.c, .slice (some ⟨p.bb, p.ob, none⟩) p.n p.d] 27)).heap.size := by simp
  have HTM := Lib.hid (TM.start (w.alloc (.cells #[.slice (some ⟨p.ba, p.oa, none⟩) p.n p.c, .slice (some ⟨p.bb, p.ob, none⟩) p.n p.d] 27)))
  have HT1 := Lib.hid (HT.out.up (below_alloc _ (.cells #[] 36)))
  have k0 := HT1.out.c0
  have r0 := HT1.out.gv.tx.row i hi
  have c0 := HT1.out.gv.tx.cell i j hi hj
  rw [← HA0.out] at c0
  go_wp2
  clear k0 r0 c0
  have hwz : (w.alloc (.cells #[.slice (some ⟨p.ba, p.oa, none⟩) p.n p.c, .slice (some ⟨p.bb, p.ob, none⟩) p.n p.d] 27)).heap.size = w.heap.size + 1 := by simp
  simp only [hwz] at HTM
  generalize w.alloc (.cells #[.slice (some ⟨p.ba, p.oa, none⟩) p.n p.c, .slice (some ⟨p.bb, p.ob, none⟩) p.n p.d] 27) = w1 at *
  clear hwz hw1
  generalize hcol : colOf xs p.n j = col at *
  have HCOL := Lib.hid hcol
  clear hcol HT1
  generalize hv0 : (Value.slice (some (Addr.mk (w.heap.size + 1) 0 none)) 0 0) = v0 at *
  obtain ⟨w2, hw2⟩ : ∃ w2, w2 = w1.alloc (.cells #[] 36) := ⟨_, rfl⟩
  rw [← hw2] at HTM ⊢
  have HQ0 := Lib.hid (RQ9.mk (p := p) HTM.out HT.out)
  clear HTM HT hw2 hv0
  have hb0 := HBA.out i hi
  go_loopw [8, 9] (fun b s wr => ∃ (k : Nat), k ≤ p.n ∧ s = .int .i64 k ∧ b = .int .i64 (fm (gi col i) col k) ∧ wr = w2) (fun _ s _ => p.n - (intOf s).toNat)
  case atStart => exact ⟨0, Nat.zero_le _, rfl, rfl, rfl⟩
  case round =>
    obtain ⟨k, hk, rfl, rfl, rfl⟩ := hrel
    have k0 := HQ0.out.gr_.c0
    by_cases hkn : k < p.n
    · have r1 := HQ0.out.gr_.gv.tx.row k hkn
      have c1 := HQ0.out.gr_.gv.tx.cell k j hkn hj
      rw [← gi_colOf (n := p.n) hkn, HCOL.out] at c1
      have b1 := fm_bd hb0 k (fun q hq => HBA.out q (by omega))
      have b2 := HBA.out k hkn
      have HF : Hid (fm (gi col i) col (k + 1) = if fm (gi col i) col k < gi col k then gi col k else fm (gi col i) col k) := Lib.hid rfl
      generalize fm (gi col i) col k = f at *
      generalize gi col k = g at *
      go_wp2
      go_roundw
      case rel => exact ⟨k + 1, by omega, by go_num, congrArg (Value.int .i64) (by rw [HF.out]), by first | exact rfl | trivial⟩
      case measure => simp [intOf]; omega
    · obtain rfl : k = p.n := by omega
      rw [HMA.out]
      have bm : -9 ≤ mxl col ∧ mxl col ≤ 9 := by rw [← HMA.out]; exact fm_bd hb0 _ HBA.out
      go_wp2
      clear k0
      go_loopw [7, 10] (fun v s wr => ∃ (k : Nat) (vs : List Value), k ≤ p.n ∧ s = .int .i64 k ∧ Hid (RQ9 p w w1 v vs (mvA j (selL (brB col i) k)) xs ys wr)) (fun _ s _ => p.n - (intOf s).toNat)
      case atStart => exact ⟨0, [], Nat.zero_le _, rfl, HQ0⟩
      case round =>
        clear HQ0
        obtain ⟨k, vs, hk, rfl, HQ⟩ := hrel
        obtain ⟨Av, cv, rfl⟩ := HQ.out.tm.bo.form
        have k0 := HQ.out.gr_.c0
        have k1 := HQ.out.gr_.c1
        by_cases hkn : k < p.n
        · have r1 := HQ.out.gr_.gv.tx.row k hkn
          have r2 := HQ.out.gr_.gv.tx.row i hi
          have c1 := HQ.out.gr_.gv.tx.cell k j hkn hj
          have c2 := HQ.out.gr_.gv.tx.cell i j hi hj
          rw [← gi_colOf (n := p.n) hkn, HCOL.out] at c1
          rw [← HA0.out] at c2
          by_cases hm : gi col k = mxl col
          · have hm' : (gi col k == mxl col) = true := by simp [hm]
            by_cases hl : gi col i < mxl col
            · have HCS := Lib.hid (mvA_yes (j := j) (f := brB col i) (k := k) (by simp [brB, hm, hl]))
              have HLA := Lib.hid (show (mvA j (selL (brB col i) k)).length ≤ 3 by rw [mvA_len]; have := selL_len (brB col i) k; omega)
              have HRT := Lib.hid HQ.out.tm
              clear hm
              generalize mvA j (selL (brB col i) k) = acc at *
              generalize gi col k = g at *
              have hb3 := below_alloc wr (.cells #[.int .i64 k, .int .i64 j] 3)
              have hb4 := below_alloc (wr.alloc (.cells #[.int .i64 k, .int .i64 j] 3)) (.cells #[.slice (some ⟨wr.heap.size, 0, none⟩) 2 2] 36)
              have HB4 := Lib.hid ((HRT.out.bo.below hb3).below hb4).own
              have HN := Lib.hid (cell_one_new (wr.alloc (.cells #[.int .i64 k, .int .i64 j] 3)) (.slice (some ⟨wr.heap.size, 0, none⟩) 2 2) 36)
              have HPO := Lib.hid (pair_own (lo := wr.heap.size) (w := wr) k j (by omega) (by omega) (Nat.le_refl _))
              have hlh : w1.heap.size ≤ wr.heap.size := HRT.out.up.size
              clear hb3 hb4
              obtain ⟨i0, hi0, hz0, hz1, hz2⟩ := info_parts Try.info_row9
              go_wp2_with (at_builtin; refine wpList_append_own_at _ rfl _ _ 22 rfl w1.heap.size 36 i0 (.slice none 0 0) 1 24 Try.underlying22 hi0 hz0 hz1 hz2 rfl (by decide) _ (acc).length vs rfl HB4.out ⟨wr.heap.size + 1, 0, none⟩ 1 1 [.slice (some ⟨wr.heap.size, 0, none⟩) 2 2] rfl rfl ?c1 ?c2 ?c3 ?c4 ?c5 ?_)
              case c1 => have h := HN.out; rw [World.size_alloc] at h; exact h
              case c2 => intro u hu; simp at hu; subst hu; rfl
              case c3 => have := HLA.out; unfold maxLen; omega
              case c4 => have := HLA.out; omega
              case c5 => simp; omega
              intro v' w5 hown' hgrow _ hat
              have hgrow2 : ((wr.alloc (.cells #[.int .i64 k, .int .i64 j] 3)).alloc (.cells #[.slice (some ⟨wr.heap.size, 0, none⟩) 2 2] 36)).grownBy w5 (Value.slice Av (acc).length cv).ownBlock := hgrow
              have hat2 : v'.ownBlock = (Value.slice Av (acc).length cv).ownBlock ∨ v'.ownBlock = some ((wr.alloc (.cells #[.int .i64 k, .int .i64 j] 3)).heap.size + 1) := by simpa using hat
              have HQ5 := Lib.hid (RQ9.mk (p := p) (HQ.out.tm.push (r := [(k : Int), (j : Int)]) (below_alloc wr (.cells #[.int .i64 k, .int .i64 j] 3)) (HPO.out.mono (Nat.le_refl _) (by simp)) hown' hgrow2 hat2) HQ.out.gt)
              clear HB4 HN HPO hown' hgrow hat hgrow2 hat2 HLA
              clear HQ HRT c1 c2 r1 r2 k0 k1
              go_wp2
              go_roundw
              case rel => exact ⟨k + 1, _, by omega, by go_num, Lib.hid (by rw [HCS.out]; exact HQ5.out)⟩
              case measure => simp [intOf]; omega
            · have HCS := Lib.hid (show mvA j (selL (brB col i) (k + 1)) = mvA j (selL (brB col i) k) by rw [selL_no (by simp [brB, hl])])
              go_wp2
              go_roundw
              case rel => exact ⟨k + 1, vs, by omega, by go_num, Lib.hid (by rw [HCS.out]; exact HQ.out)⟩
              case measure => simp [intOf]; omega
          · have hm' : (gi col k == mxl col) = false := by simp [hm]
            have HCS := Lib.hid (show mvA j (selL (brB col i) (k + 1)) = mvA j (selL (brB col i) k) by rw [selL_no (by simp [brB, hm])])
            clear hm
            go_wp2
            go_roundw
            case rel => exact ⟨k + 1, vs, by omega, by go_num, Lib.hid (by rw [HCS.out]; exact HQ.out)⟩
            case measure => simp [intOf]; omega
        · obtain rfl : k = p.n := by omega
          have r2 := HQ.out.gr_.gv.ty.row i hi
          have c2 := HQ.out.gr_.gv.ty.cell i j hi hj
          have hb1 := HBB.out j hj
          have HLA1 := Lib.hid (show (mvA j (selL (brB col i) p.n)).length ≤ 3 by rw [mvA_len]; have := selL_len (brB col i) p.n; omega)
          generalize hac0 : mvA j (selL (brB col i) p.n) = ac0 at *
          have HAC0 := Lib.hid hac0
          clear hac0
          simp only [show g2 ys i j = gi (gr ys i) j from rfl] at c2
          generalize hrow : gr ys i = row at *
          have HROW := Lib.hid hrow
          clear hrow
          go_wp2
          clear k0 k1 r2 c2
          obtain ⟨w3, hw3⟩ : ∃ w3, w3 = wr := ⟨_, rfl⟩
          rw [← hw3] at HQ ⊢
          clear hw3
          go_loopw [8, 11] (fun b s wr => ∃ (k : Nat), k ≤ p.m ∧ s = .int .i64 k ∧ b = .int .i64 (fm (gi row j) row k) ∧ wr = w3) (fun _ s _ => p.m - (intOf s).toNat)
          case atStart => exact ⟨0, Nat.zero_le _, rfl, rfl, rfl⟩
          case round =>
            obtain ⟨k, hk, rfl, rfl, rfl⟩ := hrel
            have k1 := HQ.out.gr_.c1
            have r0 := HQ.out.gr_.gv.ty.row 0 hn1
            simp only [Nat.add_zero] at r0
            by_cases hkm : k < p.m
            · have r1 := HQ.out.gr_.gv.ty.row i hi
              have c1 := HQ.out.gr_.gv.ty.cell i k hi hkm
              rw [show g2 ys i k = gi row k by rw [← HROW.out]; rfl] at c1
              have b1 := fm_bd hb1 k (fun q hq => HBB.out q (by omega))
              have b2 := HBB.out k hkm
              have HF : Hid (fm (gi row j) row (k + 1) = if fm (gi row j) row k < gi row k then gi row k else fm (gi row j) row k) := Lib.hid rfl
              generalize fm (gi row j) row k = f at *
              generalize gi row k = g at *
              go_wp2
              go_roundw
              case rel => exact ⟨k + 1, by omega, by go_num, congrArg (Value.int .i64) (by rw [HF.out]), by first | exact rfl | trivial⟩
              case measure => simp [intOf]; omega
            · obtain rfl : k = p.m := by omega
              rw [HMB.out]
              have bm2 : -9 ≤ mxl row ∧ mxl row ≤ 9 := by rw [← HMB.out]; exact fm_bd hb1 _ HBB.out
              go_wp2
              clear k1 r0
              go_loopw [7, 12] (fun v s wr => ∃ (k : Nat) (vs : List Value), k ≤ p.m ∧ s = .int .i64 k ∧ Hid (RQ9 p w w1 v vs (ac0 ++ mvB i (selL (brB row j) k)) xs ys wr)) (fun _ s _ => p.m - (intOf s).toNat)
              case atStart => exact ⟨0, vs, Nat.zero_le _, rfl, Lib.hid (by simpa [mvB, selL] using HQ.out)⟩
              case round =>
                clear HQ vs
                obtain ⟨k, vs, hk, rfl, HQ⟩ := hrel
                obtain ⟨Av, cv, rfl⟩ := HQ.out.tm.bo.form
                have k1 := HQ.out.gr_.c1
                have r0 := HQ.out.gr_.gv.ty.row 0 hn1
                simp only [Nat.add_zero] at r0
                by_cases hkm : k < p.m
                · have r1 := HQ.out.gr_.gv.ty.row i hi
                  have c1 := HQ.out.gr_.gv.ty.cell i k hi hkm
                  have c2 := HQ.out.gr_.gv.ty.cell i j hi hj
                  rw [show g2 ys i k = gi row k by rw [← HROW.out]; rfl] at c1
                  rw [show g2 ys i j = gi row j by rw [← HROW.out]; rfl] at c2
                  by_cases hm : gi row k = mxl row
                  · have hm' : (gi row k == mxl row) = true := by simp [hm]
                    by_cases hl : gi row j < mxl row
                    · have HCS := Lib.hid (mvB_yes (j := i) (f := brB row j) (k := k) (by simp [brB, hm, hl]))
                      have HLA := Lib.hid (show (ac0 ++ mvB i (selL (brB row j) k)).length ≤ 6 by rw [List.length_append, mvB_len]; have := selL_len (brB row j) k; have := HLA1.out; omega)
                      have HRT := Lib.hid HQ.out.tm
                      clear hm
                      generalize hpart : mvB i (selL (brB row j) k) = part at *
                      clear hpart
                      generalize hacc : ac0 ++ part = acc at *
                      have HACC := Lib.hid hacc
                      clear hacc
                      generalize gi row k = g at *
                      have hb3 := below_alloc wr (.cells #[.int .i64 i, .int .i64 k] 3)
                      have hb4 := below_alloc (wr.alloc (.cells #[.int .i64 i, .int .i64 k] 3)) (.cells #[.slice (some ⟨wr.heap.size, 0, none⟩) 2 2] 36)
                      have HB4 := Lib.hid ((HRT.out.bo.below hb3).below hb4).own
                      have HN := Lib.hid (cell_one_new (wr.alloc (.cells #[.int .i64 i, .int .i64 k] 3)) (.slice (some ⟨wr.heap.size, 0, none⟩) 2 2) 36)
                      have HPO := Lib.hid (pair_own (lo := wr.heap.size) (w := wr) i k (by omega) (by omega) (Nat.le_refl _))
                      have hlh : w1.heap.size ≤ wr.heap.size := HRT.out.up.size
                      clear hb3 hb4
                      obtain ⟨i0, hi0, hz0, hz1, hz2⟩ := info_parts Try.info_row9
                      go_wp2_with (at_builtin; refine wpList_append_own_at _ rfl _ _ 22 rfl w1.heap.size 36 i0 (.slice none 0 0) 1 24 Try.underlying22 hi0 hz0 hz1 hz2 rfl (by decide) _ (acc).length vs rfl HB4.out ⟨wr.heap.size + 1, 0, none⟩ 1 1 [.slice (some ⟨wr.heap.size, 0, none⟩) 2 2] rfl rfl ?c1 ?c2 ?c3 ?c4 ?c5 ?_)
                      case c1 => have h := HN.out; rw [World.size_alloc] at h; exact h
                      case c2 => intro u hu; simp at hu; subst hu; rfl
                      case c3 => have := HLA.out; unfold maxLen; omega
                      case c4 => have := HLA.out; omega
                      case c5 => simp; omega
                      intro v' w5 hown' hgrow _ hat
                      have hgrow2 : ((wr.alloc (.cells #[.int .i64 i, .int .i64 k] 3)).alloc (.cells #[.slice (some ⟨wr.heap.size, 0, none⟩) 2 2] 36)).grownBy w5 (Value.slice Av (acc).length cv).ownBlock := hgrow
                      have hat2 : v'.ownBlock = (Value.slice Av (acc).length cv).ownBlock ∨ v'.ownBlock = some ((wr.alloc (.cells #[.int .i64 i, .int .i64 k] 3)).heap.size + 1) := by simpa using hat
                      have HQ5 := Lib.hid (RQ9.mk (p := p) (HQ.out.tm.push (r := [(i : Int), (k : Int)]) (below_alloc wr (.cells #[.int .i64 i, .int .i64 k] 3)) (HPO.out.mono (Nat.le_refl _) (by simp)) hown' hgrow2 hat2) HQ.out.gt)
                      clear HB4 HN HPO hown' hgrow hat hgrow2 hat2 HLA
                      clear HQ HRT c1 c2 r0 r1 k1
                      go_wp2
                      go_roundw
                      case rel => exact ⟨k + 1, _, by omega, by go_num, Lib.hid (by rw [HCS.out, ← List.append_assoc, HACC.out]; exact HQ5.out)⟩
                      case measure => simp [intOf]; omega
                    · have HCS := Lib.hid (show mvB i (selL (brB row j) (k + 1)) = mvB i (selL (brB row j) k) by rw [selL_no (by simp [brB, hl])])
                      go_wp2
                      go_roundw
                      case rel => exact ⟨k + 1, vs, by omega, by go_num, Lib.hid (by rw [HCS.out]; exact HQ.out)⟩
                      case measure => simp [intOf]; omega
                  · have hm' : (gi row k == mxl row) = false := by simp [hm]
                    have HCS := Lib.hid (show mvB i (selL (brB row j) (k + 1)) = mvB i (selL (brB row j) k) by rw [selL_no (by simp [brB, hm])])
                    clear hm
                    go_wp2
                    go_roundw
                    case rel => exact ⟨k + 1, vs, by omega, by go_num, Lib.hid (by rw [HCS.out]; exact HQ.out)⟩
                    case measure => simp [intOf]; omega
                · obtain rfl : k = p.m := by omega
                  have HE := Lib.hid (show ac0 ++ mvB i (selL (brB row j) p.m) = repL xs ys p.n i j by rw [repL, HCOL.out, HROW.out, ← HSA.out, ← HSB.out])
                  have HNT := Lib.hid (NewT.from HQ.out.gt.below (HQ.out.tm.new (by rw [List.length_append, mvB_len]; have := HLA1.out; have := selL_len (brB row j) p.m; omega)))
                  clear HQ
                  go_wp2
                  go_ret
                  exact NewT.is HE.out HNT.out

set_option maxRecDepth 100000 in
set_option maxHeartbeats 3200000 in
theorem ReplyMoves_spec (A B : Option Addr) (n c m d : Nat) (xs ys : List (List Int)) (i j : Int) (w : World) (hx : IntRows w A n c xs) (hy : IntRows w B m d ys) (hi : Fit i) (hj : Fit j) :
    Calls Try.prog 14 #[.agg #[.slice A n c, .slice B m d], .int .i64 i, .int .i64 j] w (NewT w (repF xs ys i j)) := by
  have hb0 := below_alloc w (.cells #[.slice A n c, .slice B m d] 27)
  have b0 := blk_new w 27 #[.slice A n c, .slice B m d]
  have HB := Lib.hid hb0
  have HK := Lib.hid b0
  have HX := Lib.hid (hx.keep (Keep.below hb0))
  have HY := Lib.hid (hy.keep (Keep.below hb0))
  have HX0 := Lib.hid hx
  have HY0 := Lib.hid hy
  have HFI := Lib.hid hi
  have HFJ := Lib.hid hj
  clear hx hy hb0 b0 hi hj
  go_enter Try.func14, Try.ntmps14
  go_wp2_with fail
  generalize w.alloc (.cells #[.slice A n c, .slice B m d] 27) = W1 at *
  have HC := Lib.hid (validGame_any _ _ _ _ _ _ _ _ _ HX.out HY.out)
  by_cases hv : VG xs ys
  · refine ((pb_true hv) ▸ HC.out).mono ?_
    rintro e w1 ⟨rfl, hb⟩
    have hb2 := below_up HB.out hb
    have hk2 := blk_below HK.out hb
    obtain ⟨p, rfl, rfl, rfl, rfl, rfl, rfl, hg⟩ := GV.of HX0.out HY0.out hv
    have HT := Lib.hid (show GT p w w1 w.heap.size xs ys from ⟨hb2, hk2, hg⟩)
    have hn3 := hg.tx.n3
    have hm3 := hg.tx.m3
    have hn1 := hg.tx.n1
    have hm1 := hg.tx.m1
    have HP := Lib.hid (show repF xs ys i j = if (pb (Blw p.n i) && pb (Blw p.m j)) = true then repL xs ys p.n i.toNat j.toNat else [] by rw [repF, pb_true hv, hg.lx, hg.mx, Bool.true_and])
    clear hb hv hb2 hk2 hg HX HY HX0 HY0 HB HK HC
    have k0 := HT.out.c0
    have k1 := HT.out.c1
    have r0 := HT.out.gv.tx.row 0 hn1
    simp only [Nat.add_zero] at r0
    by_cases hi : InR i 0 ((p.n : Int) - 1)
    · by_cases hj : InR j 0 ((p.m : Int) - 1)
      · have QI := Lib.hid (fun W => pb_true hi ▸ inRange_any i 0 ((p.n : Int) - 1) W)
        have QJ := Lib.hid (fun W => pb_true hj ▸ inRange_any j 0 ((p.m : Int) - 1) W)
        unfold InR at hi hj
        rw [pb_true (p := Blw p.n i) ⟨hi.1, by omega⟩, pb_true (p := Blw p.m j) ⟨hj.1, by omega⟩, Bool.and_self, if_pos rfl] at HP
        obtain ⟨x, rfl⟩ : ∃ x : Nat, i = x := ⟨i.toNat, by omega⟩
        obtain ⟨y, rfl⟩ : ∃ y : Nat, j = y := ⟨j.toNat, by omega⟩
        have hxn : x < p.n := by omega
        have hym : y < p.m := by omega
        simp only [Int.toNat_natCast] at HP
        clear hi hj HFI HFJ
        go_wp2_with fail
        refine (QI.out _).mono ?_
        rintro e w2 ⟨rfl, rfl⟩
        go_wp2_with fail
        refine (QJ.out _).mono ?_
        rintro e w2 ⟨rfl, rfl⟩
        clear QI QJ
        go_wp2_with fail
        refine (HP.out ▸ replies_any p x y xs ys _ HT.out.gv hxn hym).mono ?_
        rintro e w2 hN
        have HN := Lib.hid (NewT.from HT.out.below hN)
        obtain ⟨Av, k, cv, gg, rfl, -⟩ := hN
        clear HT k0 k1 r0
        go_wp2
        go_ret
        exact HN.out
      · have QI := Lib.hid (fun W => pb_true hi ▸ inRange_any i 0 ((p.n : Int) - 1) W)
        have QJ := Lib.hid (fun W => pb_false hj ▸ inRange_any j 0 ((p.m : Int) - 1) W)
        have HE := Lib.hid (show repF xs ys i j = [] by rw [HP.out, pb_false (p := Blw p.m j) (fun h => hj ⟨h.1, by have := h.2; omega⟩), Bool.and_false]; rfl)
        clear hi hj HP
        go_wp2_with fail
        refine (QI.out _).mono ?_
        rintro e w2 ⟨rfl, rfl⟩
        go_wp2_with fail
        refine (QJ.out _).mono ?_
        rintro e w2 ⟨rfl, rfl⟩
        go_wp2
        go_ret
        exact NewT.none HT.out.below HE.out
    · have QI := Lib.hid (fun W => pb_false hi ▸ inRange_any i 0 ((p.n : Int) - 1) W)
      have HE := Lib.hid (show repF xs ys i j = [] by rw [HP.out, pb_false (p := Blw p.n i) (fun h => hi ⟨h.1, by have := h.2; omega⟩), Bool.false_and]; rfl)
      clear hi HP
      go_wp2_with fail
      refine (QI.out _).mono ?_
      rintro e w2 ⟨rfl, rfl⟩
      go_wp2
      go_ret
      exact NewT.none HT.out.below HE.out
  · have HZ := Lib.hid (show repF xs ys i j = [] by rw [repF, pb_false hv]; rfl)
    refine ((pb_false hv) ▸ HC.out).mono ?_
    rintro e w1 ⟨rfl, hb⟩
    have HB2 := Lib.hid (below_up HB.out hb)
    clear hb hv HC
    go_wp2
    go_ret
    exact NewT.none HB2.out HZ.out
end Go.Proofs.Yticcigdknaganaa

