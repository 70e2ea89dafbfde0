/- Texts merged: K8 K9 LO8 D4 K4 Math20 Z4 V8 V9 Z5 IB C92 G1 G2 G3 G4 G5 G6 Pl1 Math60 Math81 D2 C93. -/
import Derived.Test.YtjmfkodbilknlaaQ7
import Derived.Laws.CopyOwn
/- The next shares, by both programs. -/
namespace Go.Proofs.Ytjmfkodbilknlaa
open Go.RowKit

/-- What the next shares are to each other. -/
def nxV (a : List (List Int)) (x : List Int) (n i : Nat) : Int := gi x i * dotr a x i n
def nxL (a : List (List Int)) (x : List Int) (n k : Nat) : List Int := (List.range k).map (nxV a x n)
theorem nxL_succ (a : List (List Int)) (x : List Int) (n k : Nat) : nxL a x n (k + 1) = nxL a x n k ++ [nxV a x n k] := by simp [nxL, List.range_succ]
theorem nxL_len (a : List (List Int)) (x : List Int) (n k : Nat) : (nxL a x n k).length = k := by simp [nxL]
theorem gi_nxL {a : List (List Int)} {x : List Int} {n k i : Nat} (h : i < k) : gi (nxL a x n k) i = nxV a x n i := gi_range h
theorem VQ.len2' {a : List (List Int)} {n : Nat} (v : VQ a) (hl : a.length = n) : (gr a 0).length = n := by have := v.2; omega
theorem dotr_pos {a : List (List Int)} {x : List Int} {i n : Nat} (ha : ∀ j, j < n → 1 ≤ g2 a i j) (hx : ∀ j, j < n → 0 ≤ gi x j) : ∀ {k}, k ≤ n → sm x k ≤ dotr a x i k
  | 0, _ => Int.le_refl _
  | k + 1, h => by
    have h1 := dotr_pos ha hx (k := k) (by omega)
    have h2 := ha k (by omega)
    have h3 := hx k (by omega)
    have h4 : 1 * gi x k ≤ g2 a i k * gi x k := Int.mul_le_mul_of_nonneg_right h2 h3
    simp only [sm, dotr]
    omega
/-- A field and shares. -/
structure FS (a : List (List Int)) (x : List Int) (n : Nat) : Prop where
  f : VF a
  s : VS x (n : Int)
  l : a.length = n
theorem FS.n3 {a x n} (h : FS a x n) : 1 ≤ n ∧ n ≤ 3 := by have := h.f.q.1.n1; have := h.f.q.1.n3; have := h.l; omega
theorem FS.xl {a x n} (h : FS a x n) : x.length = n := by have := h.s.1; omega
theorem FS.x {a x n} (h : FS a x n) : ∀ j, j < n → 0 ≤ gi x j ∧ gi x j ≤ 1000 := VS.bds h.s
theorem FS.a {a x n} (h : FS a x n) {i j : Nat} (hi : i < n) (hj : j < n) : 1 ≤ g2 a i j ∧ g2 a i j ≤ 9 := by
  have hl := h.l
  have h1 := h.f.p i j (by omega) (by omega)
  have h2 := h.f.q.1.bd (i := i) (j := j) (by omega) (by have := h.f.q.2; omega)
  omega
theorem FS.dot {a x n} (h : FS a x n) {i : Nat} (hi : i < n) : 1 ≤ dotr a x i n ∧ dotr a x i n ≤ 27000 := by
  have h0 := h.n3
  have h1 := dotr_pos (a := a) (x := x) (i := i) (n := n) (fun j hj => (h.a hi hj).1) (fun j hj => (h.x j hj).1) (Nat.le_refl n)
  have h2 := dotr_bd (a := a) (w := x) (i := i) (m := n) (fun j hj => by have := h.a hi hj; omega) h.x (Nat.le_refl n)
  have h3 := h.s.2.2
  unfold tot at h3
  rw [h.xl] at h3
  omega
theorem FS.nx {a x n} (h : FS a x n) {i : Nat} (hi : i < n) : 0 ≤ nxV a x n i ∧ nxV a x n i ≤ 27000000 ∧ (0 < gi x i → 0 < nxV a x n i) := by
  have h1 := h.dot hi
  have h2 := h.x i hi
  unfold nxV
  have h3 : 0 * dotr a x i n ≤ gi x i * dotr a x i n := Int.mul_le_mul_of_nonneg_right h2.1 (by omega)
  have h4 : gi x i * dotr a x i n ≤ 1000 * 27000 := Int.mul_le_mul h2.2 h1.2 (by omega) (by omega)
  exact ⟨by omega, by omega, fun h => Int.mul_pos h (by omega)⟩
theorem sm_has {x : List Int} : ∀ {k}, (∀ j, j < k → 0 ≤ gi x j) → 0 < sm x k → ∃ j, j < k ∧ 0 < gi x j
  | 0, _, h => by simp [sm] at h
  | k + 1, hp, h => by
    by_cases e : 0 < gi x k
    · exact ⟨k, by omega, e⟩
    · have h1 := hp k (by omega)
      obtain ⟨j, hj, hp'⟩ := sm_has (x := x) (k := k) (fun j hj => hp j (by omega)) (by simp only [sm] at h; omega)
      exact ⟨j, by omega, hp'⟩
theorem FS.clr {a x n} (h : FS a x n) : ClrP (nxL a x n n) ∧ 0 < gcdL (nxL a x n n) n := by
  have h0 := h.s.2.2
  unfold tot at h0
  rw [h.xl] at h0
  obtain ⟨j, hj, hp⟩ := sm_has (fun j hj => (h.x j hj).1) h0
  have hc : ClrP (nxL a x n n) := by
    refine ⟨⟨j, by rw [nxL_len]; exact hj, ?_⟩, .inl fun p hp => ?_⟩
    · rw [gi_nxL hj]; have := (h.nx hj).2.2 hp; omega
    · rw [nxL_len] at hp; rw [gi_nxL hp]; exact (h.nx hp).1
  exact ⟨hc, (clr_yes (nxL_len a x n n) hc).1⟩
theorem FS.mid {a x n} (h : FS a x n) : ∀ p, p < (nxL a x n n).length → Mid (gi (nxL a x n n) p) := fun p hp => by
  rw [nxL_len] at hp
  rw [gi_nxL hp]
  have := h.nx hp
  unfold Mid
  omega
/-- What NextShares answers. -/
noncomputable def nsF (a : List (List Int)) (x : List Int) : List Int := if pb (VF a ∧ VS x a.length) = true then clrL (nxL a x a.length a.length) (gcdL (nxL a x a.length a.length) a.length) a.length else []
theorem nsF_yes {a : List (List Int)} {x : List Int} {n : Nat} (h : FS a x n) : nsF a x = clrL (nxL a x n n) (gcdL (nxL a x n n) n) n := by
  unfold nsF; rw [if_pos (pb_true ⟨h.f, by rw [h.l]; exact h.s⟩), h.l]
theorem nsF_no {a : List (List Int)} {x : List Int} (h : ¬ (VF a ∧ VS x a.length)) : nsF a x = [] := by unfold nsF; rw [if_neg (by rw [pb_false h]; decide)]
theorem FS.of {a : List (List Int)} {x : List Int} {n : Nat} (hl : a.length = n) (hf : VF a) (hs : VS x (n : Int)) : FS a x n := ⟨hf, hs, hl⟩
theorem nsF_le (a : List (List Int)) (x : List Int) : (nsF a x).length ≤ 100 := by
  by_cases h : VF a ∧ VS x a.length
  · have hf : FS a x a.length := ⟨h.1, h.2, rfl⟩
    have := hf.n3
    rw [nsF_yes hf, clrL_len]; omega
  · rw [nsF_no h]; simp

end Go.Proofs.Ytjmfkodbilknlaa

/- NextShares, by both programs. -/
namespace Go.Proofs.Ytjmfkodbilknlaa
open Go.RowKit

theorem NewI.empty {w w' : World} {ys : List Int} (h : Below w.heap.size w w') (hy : ys = []) : NewI w ys (.returned (.slice none 0 0)) w' := by
  subst hy; exact ⟨none, 0, 0, 0, rfl, rfl, OwnI.nil _ _ _ _, h⟩
theorem NewI.from {w w1 w2 : World} {ys : List Int} {e : Ending} (h : Below w.heap.size w w1) (k : NewI w1 ys e w2) : NewI w ys e w2 := by
  obtain ⟨A, n, c, g, he, hn, ho, hb⟩ := k
  exact ⟨A, n, c, g, he, hn, ho.mono h.size (Nat.le_refl _), below_up h hb⟩


end Go.Proofs.Ytjmfkodbilknlaa

/- What is left over, by the program: the marked. -/
namespace Go.Proofs.Ytjmfkodbilknlaa
open Go.RowKit

theorem selL_yes {f : Nat → Bool} {k : Nat} (h : f k = true) : selL f (k + 1) = selL f k ++ [(k : Int)] := by simp [selL, List.range_succ, List.filter_append, h]
theorem selL_no {f : Nat → Bool} {k : Nat} (h : f k = false) : selL f (k + 1) = selL f k := by simp [selL, List.range_succ, List.filter_append, h]
theorem selL_small (f : Nat → Bool) (n : Nat) (hn : n ≤ 100) : ∀ y ∈ selL f n, -1000000000000000 ≤ y ∧ y ≤ 1000000000000000 := fun y hy => by
  obtain ⟨k, hk, _, rfl⟩ := selL_mem.1 hy
  omega

set_option maxRecDepth 100000 in
set_option maxHeartbeats 3200000 in
theorem marked_any (m : Nat → Bool) (w : World) : Calls Try.prog 79 #[.agg (bs3 m)] w (NewI w (selL m 3)) := by
  have HB := Lib.hid (below_alloc w (.cells (bs3 m) 78))
  have HK := Lib.hid (blk_new w 78 (bs3 m))
  go_enter Try.func79, Try.ntmps79
  have c0 := blk_cell HK.out (i := 0) (v := .bool (m 0)) rfl
  have c1 := blk_cell HK.out (i := 1) (v := .bool (m 1)) rfl
  have c2 := blk_cell HK.out (i := 2) (v := .bool (m 2)) rfl
  go_wp2
  clear c0 c1 c2 HK
  generalize w.alloc (.cells (bs3 m) 78) = W1 at *
  have HS0 := Lib.hid (IU.nil W1)
  go_loopw [3, 7] (fun v i wr => ∃ k : Nat, k ≤ 3 ∧ i = .int .i64 k ∧ Hid (IU W1 v (selL m k) wr)) (fun _ i _ => 3 - (intOf i).toNat)
  case atStart => exact ⟨0, by omega, rfl, HS0⟩
  case round =>
    clear HS0
    obtain ⟨k, hk, rfl, HI⟩ := hrel
    obtain ⟨Av, cv, rfl⟩ := HI.out.bi.form
    by_cases hlt : k < 3
    · have ix : ∀ W, (Instr.index 78 (.agg #[.bool (m 0), .bool (m 1), .bool (m 2)]) (.int .i64 k)).run Try.prog W = .ok (.bool (m k)) W := by
        have : k = 0 ∨ k = 1 ∨ k = 2 := by omega
        rcases this with rfl | rfl | rfl <;> exact fun _ => by kernel_rfl
      cases hm : m k
      · have HCS := Lib.hid (selL_no hm)
        rw [hm] at ix
        clear hm
        go_wp2
        clear ix
        go_roundw
        case rel => exact ⟨k + 1, by omega, by go_num, Lib.hid (by rw [HCS.out]; exact HI.out)⟩
        case measure => simp [intOf]; omega
      · have HCS := Lib.hid (selL_yes hm)
        rw [hm] at ix
        clear hm
        have HML := Lib.hid (selL_len m k)
        have hb := below_alloc wr (.cells #[iv (k : Int)] 3)
        have HB4 := Lib.hid (HI.out.bi.below hb).own
        have HN := Lib.hid (cell_one_new wr (iv (k : Int)) 3)
        have hwz := HI.out.up.size
        clear hb
        generalize selL m k = ys at *
        obtain ⟨i0, hi0, hz0, hz1, hz2⟩ := info_parts Try.info_int
        go_wp2_with (at_builtin; refine wpList_append_own_at _ rfl _ _ 36 rfl W1.heap.size 3 i0 (.int .i64 0) 1 8 Try.underlying36 hi0 hz0 hz1 hz2 rfl (by decide) _ ys.length (ys.map iv) rfl HB4.out ⟨wr.heap.size, 0, none⟩ 1 1 [iv (k : Int)] rfl rfl ?c1 ?c2 ?c3 ?c4 ?c5 ?_)
        case c1 => exact HN.out
        case c2 => intro u hu; simp at hu; subst hu; rfl
        case c3 => have := HML.out; unfold maxLen; omega
        case c4 => have := HML.out; omega
        case c5 => simp; omega
        intro v' w5 hown' hgrow _ hat
        have HI5 := Lib.hid (HI.out.push hown' hgrow (by simpa using hat))
        clear HB4 HN hown' hgrow hat HI ix
        go_wp2
        go_roundw
        case rel => exact ⟨k + 1, by omega, by go_num, Lib.hid (by rw [HCS.out]; exact HI5.out)⟩
        case measure => simp [intOf]; omega
    · obtain rfl : k = 3 := by omega
      have HNW := Lib.hid (NewI.from HB.out (HI.out.new (by have := selL_len m 3; omega) (selL_small m 3 (by omega))))
      go_wp2
      go_ret
      exact HNW.out
end Go.Proofs.Ytjmfkodbilknlaa

/- Pure rests, by the program. -/
namespace Go.Proofs.Ytjmfkodbilknlaa
open Go.RowKit

theorem Try.info32b : (Try.prog.info? 36).map (fun i => (i.zero, i.size, i.bytes)) = some (some (.slice none 0 0), 1, 24) := by kernel_rfl

/-- What the loops know: the game, the turned table, the rests so far. -/
structure PS (p : GP) (w : World) (N L : Nat) (wr : World) (v : Value) (vs : List Value) (xs ys rs : List (List Int)) : Prop where
  gt : GT p w wr w.heap.size xs ys
  tn : OwnR N L wr N (some ⟨N, 0, none⟩) p.m p.m (flip xs p.n p.m)
  bd : Bld L wr.heap.size wr v vs rs
  h1 : w.heap.size < N
  h2 : N < L
  h3 : L ≤ wr.heap.size
theorem PS.qu {p w N L wr wr' v vs xs ys rs} (h : PS p w N L wr v vs xs ys rs) (k : Quiet wr wr') : PS p w N L wr' v vs xs ys rs := by
  have kb : Below wr.heap.size wr wr' := k.below
  exact ⟨h.gt.up kb, h.tn.below kb, (h.bd.below kb).mono kb.size, h.h1, h.h2, Nat.le_trans h.h3 kb.size⟩

set_option maxHeartbeats 1000000 in
theorem PureRests_impl (A B : Option Addr) (n c m d : Nat) (xs ys : List (List Int)) (w : World) (hx : IntRows w A n c xs) (hy : IntRows w B m d ys) :
    Calls Try.prog 29 #[.agg #[.slice A n c, .slice B m d]] w (RetR (pureR xs ys) w) := by
  have hb0 := below_alloc w (.cells #[.slice A n c, .slice B m d] 43)
  have b0 := blk_new w 43 #[.slice A n c, .slice B m d]
  have HB := Lib.hid hb0
  have HK := Lib.hid b0
  have HX := Lib.hid (hx.keep (Keep.below hb0))
  have HY := Lib.hid (hy.keep (Keep.below hb0))
  have HX0 := Lib.hid hx
  have HY0 := Lib.hid hy
  clear hx hy hb0 b0
  go_enter Try.func29, Try.ntmps29
  go_wp2_with fail
  generalize w.alloc (.cells #[.slice A n c, .slice B m d] 43) = W1 at *
  have HC := Lib.hid (ValidGame_impl _ _ _ _ _ _ _ _ _ HX.out HY.out)
  by_cases hv : VG xs ys
  · refine ((pb_true hv) ▸ HC.out).mono ?_
    rintro e w1 ⟨rfl, hb⟩
    have hb2 := below_up HB.out hb
    have hk2 := blk_below HK.out hb
    obtain ⟨p, rfl, rfl, rfl, rfl, rfl, rfl, hg⟩ := GV.of HX0.out HY0.out hv
    have HT := Lib.hid (show GT p w w1 w.heap.size xs ys from ⟨hb2, hk2, hg⟩)
    have hn3 := hg.tx.n3
    have hm3 := hg.tx.m3
    have hn1 := hg.tx.n1
    have hm1 := hg.tx.m1
    have HP := Lib.hid (show pureR xs ys = allRests xs ys p.n p.m p.n by rw [pureR, if_pos (pb_true hv), hg.lx, hg.mx])
    have HLY := Lib.hid (show ∀ i, i < p.n → (gr ys i).length = p.m from fun i hi => (hg.ty.ints i hi).len)
    clear hb hv hb2 hk2 hg HX HY HX0 HY0 HB HK HC
    have k0 := HT.out.c0
    go_wp2_with fail
    refine (turned_any _ _ _ _ _ _ _ _ _ _ HT.out.gv.tx).mono ?_
    rintro e w2 ⟨rfl, ho, hb, hlt⟩
    have HS := Lib.hid (show PS p w w1.heap.size w2.heap.size w2 (.slice none 0 0) [] xs ys [] from ⟨HT.out.up hb, ho, Bld.nil _ _ _, blk_lt HT.out.box, hlt, Nat.le_refl _⟩)
    clear ho hb hlt HT k0
    generalize w1.heap.size = N at *
    generalize w2.heap.size = L at *
    have k1 := HS.out.gt.c1
    go_wp2
    clear k1
    go_loopw [4, 18] (fun v s wr => ∃ (i : Nat) (vs : List Value), i ≤ p.n ∧ s = .int .i64 i ∧ Hid (PS p w N L wr v vs xs ys (allRests xs ys p.n p.m i))) (fun _ s _ => p.n - (intOf s).toNat)
    case atStart => exact ⟨0, [], Nat.zero_le _, rfl, HS⟩
    case round =>
      clear HS
      obtain ⟨i, vs, hi, rfl, HS⟩ := hrel
      by_cases hin : i < p.n
      · have s1 := HS.out.gt.gv.ty.row i hin
        go_wp2
        clear s1
        go_loopw [4, 25] (fun v s wj => ∃ (j : Nat) (vs : List Value), j ≤ p.m ∧ s = .int .i64 j ∧ Hid (PS p w N L wj v vs xs ys (allRests xs ys p.n p.m i ++ rowRests xs ys p.n p.m i j))) (fun _ s _ => p.m - (intOf s).toNat)
        case atStart => exact ⟨0, vs, Nat.zero_le _, rfl, Lib.hid (by rw [rowRests, List.append_nil]; exact HS.out)⟩
        case round =>
          clear HS vs
          obtain ⟨j, vs, hj, rfl, HS⟩ := hrel
          by_cases hjm : j < p.m
          · have k0 := HS.out.gt.c0
            have r1 := HS.out.gt.gv.tx.row i hin
            have e1 := HS.out.gt.gv.tx.cell i j hin hjm
            have f1 := HS.out.gt.gv.ty.cell i j hin hjm
            obtain ⟨R, cc, t1, tI⟩ := HS.out.tn.row0 hjm
            have hfl : (gr (flip xs p.n p.m) j).length = p.n := by rw [gr_flip hjm]; simp
            have HQX := Lib.hid tI
            have HQY := Lib.hid (HS.out.gt.gv.ty.ints i hin)
            clear tI
            generalize hcol : gr (flip xs p.n p.m) j = col at *
            have HCOL := Lib.hid hcol
            clear hcol
            have QX := Lib.hid (fun W (hW : Quiet wr W) => Max_any _ _ _ _ W (HQX.out.keep (Keep.quiet hW)) (by omega))
            have QY := Lib.hid (fun W (hW : Quiet wr W) => Max_any _ _ _ _ W (HQY.out.keep (Keep.quiet hW)) (by omega))
            clear HQX HQY hfl
            by_cases h1 : g2 xs i j = mxl col
            · have h1' : (g2 xs i j == mxl col) = true := by simp [h1]
              by_cases h2 : g2 ys i j = mxl (gr ys i)
              · have h2' : (g2 ys i j == mxl (gr ys i)) = true := by simp [h2]
                have HR := Lib.hid (rowRests_yes ((RestAt_iff hin hjm (HLY.out i hin)).2 ⟨by rw [HCOL.out]; exact h1, h2⟩))
                clear h1 h2
                go_wp2
                go_quiet ((go_at_call 64; (first | (with_reducible refine quiet_fit (QX.out _ ?_) (fun m => ?_)) | (with_reducible refine quiet_fit (QY.out _ ?_) (fun m => ?_))); (first | exact ⟨_, rfl⟩ | exact Quiet.two _ _ _); (first | exact drewN_to1 _ _ _ | exact drewN_to2 _ _ _ _)))
                have HS2 := Lib.hid (HS.out.qu ⟨nq, rfl⟩)
                have hlen : (allRests xs ys p.n p.m i ++ rowRests xs ys p.n p.m i j).length ≤ 12 := by
                  have h1 := allRests_len xs ys p.n p.m hm3 i
                  have h2 := rowRests_len xs ys p.n p.m i j
                  rw [List.length_append]; omega
                clear QX QY h1' h2' HS k0 r1 e1 f1 t1
                generalize wr.drewN nq = w2 at *
                have hb3 := below_alloc w2 (.cells #[.int .i64 i, .int .i64 j] 3)
                have hb4 := below_alloc (w2.alloc (.cells #[.int .i64 i, .int .i64 j] 3)) (.cells #[.slice (some ⟨w2.heap.size, 0, none⟩) 2 2] 36)
                have HB4 := Lib.hid ((HS2.out.bd.below hb3).below hb4).own
                have HN := Lib.hid (cell_one_new (w2.alloc (.cells #[.int .i64 i, .int .i64 j] 3)) (.slice (some ⟨w2.heap.size, 0, none⟩) 2 2) 36)
                have hL := HS2.out.h3
                clear hb3 hb4
                generalize hrs : allRests xs ys p.n p.m i ++ rowRests xs ys p.n p.m i j = rs at *
                have HRS := Lib.hid hrs
                clear hrs
                obtain ⟨i0, hi0, hz0, hz1, hz2⟩ := info_parts Try.info32b
                go_wp2_with (at_builtin; refine wpList_append_own_at _ rfl _ _ 22 rfl L 36 i0 (.slice none 0 0) 1 24 Try.underlying22 hi0 hz0 hz1 hz2 rfl (by decide) _ rs.length vs rfl HB4.out ⟨w2.heap.size + 1, 0, none⟩ 1 1 [.slice (some ⟨w2.heap.size, 0, none⟩) 2 2] rfl rfl ?c1 ?c2 ?c3 ?c4 ?c5 ?_)
                case c1 => have h := HN.out; rw [World.size_alloc] at h; exact h
                case c2 => intro u hu; simp at hu; subst hu; rfl
                case c3 => unfold maxLen; omega
                case c4 => omega
                case c5 => simp; omega
                intro v' w5 hown' hgrow _ hat
                obtain ⟨hP, hK⟩ := push_pair HS2.out.bd (by omega) (by omega) hown' hgrow hat hL
                have HS5 := Lib.hid (show PS p w N L w5 v' _ xs ys _ from ⟨HS2.out.gt.up2 hK (by have := HS2.out.h1; have := HS2.out.h2; omega) (by have := HS2.out.h1; have := HS2.out.h2; omega), HS2.out.tn.of_blocks (fun g _ hg _ => hK.block g hg), hP, HS2.out.h1, HS2.out.h2, Nat.le_trans hL hK.size⟩)
                clear HB4 HN hown' hgrow hat hP hK HS2
                go_wp2
                go_roundw
                case rel => exact ⟨j + 1, _, by omega, by go_num, Lib.hid (by rw [HR.out, ← List.append_assoc, HRS.out]; exact HS5.out)⟩
                case measure => simp [intOf]; omega
              · have h2' : (g2 ys i j == mxl (gr ys i)) = false := by simp [h2]
                have HR := Lib.hid (rowRests_no (a := xs) (fun v => h2 ((RestAt_iff hin hjm (HLY.out i hin)).1 v).2))
                clear h1 h2
                go_wp2
                go_quiet ((go_at_call 64; (first | (with_reducible refine quiet_fit (QX.out _ ?_) (fun m => ?_)) | (with_reducible refine quiet_fit (QY.out _ ?_) (fun m => ?_))); (first | exact ⟨_, rfl⟩ | exact Quiet.two _ _ _); (first | exact drewN_to1 _ _ _ | exact drewN_to2 _ _ _ _)))
                have HS2 := Lib.hid (HS.out.qu ⟨nq, rfl⟩)
                go_wp2
                go_roundw
                case rel => exact ⟨j + 1, vs, by omega, by go_num, Lib.hid (by rw [HR.out]; exact HS2.out)⟩
                case measure => simp [intOf]; omega
            · have h1' : (g2 xs i j == mxl col) = false := by simp [h1]
              have HR := Lib.hid (rowRests_no (fun v => h1 (by have := ((RestAt_iff hin hjm (HLY.out i hin)).1 v).1; rw [HCOL.out] at this; exact this)))
              clear h1
              go_wp2
              go_quiet ((go_at_call 64; (first | (with_reducible refine quiet_fit (QX.out _ ?_) (fun m => ?_)) | (with_reducible refine quiet_fit (QY.out _ ?_) (fun m => ?_))); (first | exact ⟨_, rfl⟩ | exact Quiet.two _ _ _); (first | exact drewN_to1 _ _ _ | exact drewN_to2 _ _ _ _)))
              have HS2 := Lib.hid (HS.out.qu ⟨nq, rfl⟩)
              go_wp2
              go_roundw
              case rel => exact ⟨j + 1, vs, by omega, by go_num, Lib.hid (by rw [HR.out]; exact HS2.out)⟩
              case measure => simp [intOf]; omega
          · go_wp2
            go_roundw
            case rel => exact ⟨i + 1, vs, by omega, by go_num, Lib.hid (by have h := HS.out; rw [show j = p.m by omega] at h; rw [allRests]; exact h)⟩
            case measure => simp [intOf]; omega
      · go_wp2
        go_ret
        obtain ⟨A, n, c, g, rfl, hn, ho⟩ := HS.out.bd.owns (by have := allRests_len xs ys p.n p.m hm3 i; omega)
        have e : pureR xs ys = allRests xs ys p.n p.m i := by rw [HP.out, show i = p.n by omega]
        exact ⟨A, n, c, g, rfl, by rw [e]; exact hn, by rw [e]; exact ho.mono (by have := HS.out.h1; have := HS.out.h2; omega) (Nat.le_refl _), HS.out.gt.below⟩
  · have HZ := Lib.hid (show pureR xs ys = [] by rw [pureR, if_neg (by rw [pb_false hv]; decide)])
    refine ((pb_false hv) ▸ HC.out).mono ?_
    rintro e w1 ⟨rfl, hb⟩
    have HB2 := Lib.hid (below_up HB.out hb)
    clear hb hv HC
    go_wp2
    go_ret
    exact ⟨none, 0, 0, 0, rfl, by rw [HZ.out]; rfl, by rw [HZ.out]; exact OwnR.nil _ _ _ _, HB2.out⟩
end Go.Proofs.Ytjmfkodbilknlaa

/- Rests, by both programs. -/
namespace Go.Proofs.Ytjmfkodbilknlaa
open Go.RowKit

/-- No strategy has more than one with a share. -/
def RestP (a : List (List Int)) (w : List Int) (n : Nat) : Prop := ∀ i, i < n → 0 < gi w i → ∀ k, k < n → dotr a w k n ≤ dotr a w i n
structure RQ (a : List (List Int)) (w : List Int) : Prop where
  q : VQ a
  s : VS w a.length
  r : RestP a w a.length


/-- The greatest of the first k values. -/
def mxd (f : Nat → Int) : Nat → Int
  | 0 => 0
  | k + 1 => if k = 0 ∨ mxd f k < f k then f k else mxd f k
theorem mxd_up {f : Nat → Int} {k : Nat} (h : k = 0 ∨ mxd f k < f k) : mxd f (k + 1) = f k := by rw [mxd, if_pos h]
theorem mxd_same {f : Nat → Int} {k : Nat} (h : ¬ (k = 0 ∨ mxd f k < f k)) : mxd f (k + 1) = mxd f k := by rw [mxd, if_neg h]
theorem mxd_ge (f : Nat → Int) : ∀ {k i}, i < k → f i ≤ mxd f k
  | 0, _, h => absurd h (by omega)
  | k + 1, i, h => by
    by_cases hu : k = 0 ∨ mxd f k < f k
    · rw [mxd_up hu]
      by_cases e : i = k
      · subst e; exact Int.le_refl _
      · have := mxd_ge f (k := k) (i := i) (by omega)
        omega
    · rw [mxd_same hu]
      by_cases e : i = k
      · subst e; omega
      · exact mxd_ge f (by omega)
theorem mxd_at (f : Nat → Int) : ∀ {k}, 0 < k → ∃ i, i < k ∧ mxd f k = f i
  | 0, h => absurd h (by omega)
  | k + 1, _ => by
    by_cases hu : k = 0 ∨ mxd f k < f k
    · exact ⟨k, by omega, mxd_up hu⟩
    · obtain ⟨i, hi, e⟩ := mxd_at f (k := k) (by omega)
      exact ⟨i, by omega, (mxd_same hu).trans e⟩
/-- At rest all that is there has the most. -/
theorem rest_most (a : List (List Int)) (w : List Int) (n : Nat) (hn : 0 < n) : RestP a w n ↔ ∀ i, i < n → 0 < gi w i → dotr a w i n = mxd (fun i => dotr a w i n) n := by
  constructor
  · intro h i hi hp
    obtain ⟨k, hk, e⟩ := mxd_at (fun i => dotr a w i n) hn
    have h1 := h i hi hp k hk
    have h2 := mxd_ge (fun i => dotr a w i n) hi
    have e' : mxd (fun i => dotr a w i n) n = dotr a w k n := e
    have h2' : dotr a w i n ≤ mxd (fun i => dotr a w i n) n := h2
    omega
  · intro h i hi hp k hk
    rw [h i hi hp]
    exact mxd_ge (fun i => dotr a w i n) hk
theorem mxd_bd {f : Nat → Int} {B : Int} (hB : 0 ≤ B) : ∀ {k}, (∀ i, i < k → -B ≤ f i ∧ f i ≤ B) → -B ≤ mxd f k ∧ mxd f k ≤ B
  | 0, _ => by simp only [mxd]; omega
  | k + 1, h => by
    by_cases hu : k = 0 ∨ mxd f k < f k
    · rw [mxd_up hu]; exact h k (by omega)
    · rw [mxd_same hu]; exact mxd_bd hB fun i hi => h i (by omega)

end Go.Proofs.Ytjmfkodbilknlaa

/- Shares at which some strategies have as much: the sums of the cofactors of the columns, and the differences to the first row. Plain. -/
namespace Go.Proofs.Ytjmfkodbilknlaa
open V (sumN detN rowC colC cofN minorN skip sgn Asc)

/-- The square of a part, as it is. -/
def lf (a : List (List Int)) (r : Nat → Nat) : Nat → Nat → Int := fun p q => g2 a (r p) (r q) + 0
/-- The differences to the first row, behind a row of ones. -/
def mf (a : List (List Int)) (r : Nat → Nat) : Nat → Nat → Int := fun p q => if p = 0 then 1 else g2 a (r p) (r q) - g2 a (r 0) (r q)

theorem rowC_shift {k : Nat} (hk : k ≤ 3) {f g : Nat → Nat → Int} (z : Int) (h : ∀ p q, g p q = f p q + z) {p : Nat} (hp : p < k) : rowC k g p = rowC k f p := by
  have : k = 1 ∨ k = 2 ∨ k = 3 := by omega
  rcases this with rfl | rfl | rfl
  · simp [rowC, sumN, cofN, detN]
  · have : p = 0 ∨ p = 1 := by omega
    rcases this with rfl | rfl <;> simp [rowC, sumN, cofN, sgn, detN, minorN, skip, h] <;> omega
  · obtain ⟨e0, e1, e2⟩ := V.rowC3 f
    obtain ⟨d0, d1, d2⟩ := V.rowC3 g
    have : p = 0 ∨ p = 1 ∨ p = 2 := by omega
    rcases this with rfl | rfl | rfl
    · rw [e0, d0]; simp only [h]; grind
    · rw [e1, d1]; simp only [h]; grind
    · rw [e2, d2]; simp only [h]; grind
theorem lf_kY (a : List (List Int)) (r : Nat → Nat) {k : Nat} (hk : k ≤ 3) : cofL k (trN (lf a r)) k = kY a r r k := by
  unfold kY cofL
  refine List.map_congr_left fun p hp => ?_
  exact (rowC_shift hk 18 (f := trN (lf a r)) (g := trN (kf a r r)) (fun p q => by unfold trN lf kf; omega) (List.mem_range.1 hp)).symm
theorem gi_kY {a : List (List Int)} {r : Nat → Nat} {k : Nat} (hk : k ≤ 3) {c : Nat} (hc : c < k) : gi (kY a r r k) c = colC k (kf a r r) c := by
  unfold kY; rw [gi_cofL hc, rowC_tr hk]
theorem mf_cof {a : List (List Int)} {r : Nat → Nat} {k : Nat} (hk : k ≤ 3) {c : Nat} (hc : c < k) : cofN k (mf a r) 0 c = gi (kY a r r k) c := by
  rw [gi_kY hk hc]
  have : k = 1 ∨ k = 2 ∨ k = 3 := by omega
  rcases this with rfl | rfl | rfl
  · obtain rfl : c = 0 := by omega
    simp [colC, sumN, cofN, sgn, detN]
  · have : c = 0 ∨ c = 1 := by omega
    rcases this with rfl | rfl <;> simp [colC, sumN, cofN, sgn, detN, minorN, skip, mf, kf] <;> omega
  · obtain ⟨e0, e1, e2⟩ := V.colC3 (kf a r r)
    have : c = 0 ∨ c = 1 ∨ c = 2 := by omega
    rcases this with rfl | rfl | rfl
    · rw [e0]; simp [sumN, cofN, sgn, detN, minorN, skip, mf, kf]; grind
    · rw [e1]; simp [sumN, cofN, sgn, detN, minorN, skip, mf, kf]; grind
    · rw [e2]; simp [sumN, cofN, sgn, detN, minorN, skip, mf, kf]; grind
theorem mf_det {a : List (List Int)} {r : Nat → Nat} {k : Nat} (h1 : 1 ≤ k) (hk : k ≤ 3) : detN k (mf a r) = sumN (gi (kY a r r k)) k := by
  obtain ⟨l, rfl⟩ : ∃ l, k = l + 1 := ⟨k - 1, by omega⟩
  rw [detN]
  refine sumN_congr fun j hj => ?_
  rw [← mf_cof hk hj]
  unfold cofN
  rw [Nat.zero_add, show mf a r 0 j = 1 from rfl, Nat.add_sub_cancel, Int.one_mul]
theorem mf_ab {a : List (List Int)} (v : VT a) (h : a.length = (gr a 0).length) {r : Nat → Nat} {k : Nat} (hr : Asc a.length k r) : Ab k (mf a r) := fun p q hp hq => by
  unfold mf
  have h0 := hr.1 0 (by omega)
  have hpp := hr.1 p hp
  have hqq := hr.1 q hq
  have e1 := v.bd hpp (j := r q) (by omega)
  have e2 := v.bd h0 (j := r q) (by omega)
  split <;> omega

/-- All numbers more than 0, or all less. -/
def LevP (X : List Int) : Prop := (∀ p, p < X.length → 0 < gi X p) ∨ ∀ p, p < X.length → gi X p < 0
theorem LevP.clr {X : List Int} (h : LevP X) (h0 : 0 < X.length) : ClrP X := by
  rcases h with h | h
  · exact ⟨⟨0, h0, by have := h 0 h0; omega⟩, .inl fun p hp => by have := h p hp; omega⟩
  · exact ⟨⟨0, h0, by have := h 0 h0; omega⟩, .inr fun p hp => by have := h p hp; omega⟩
def levB (xs : List Int) : Bool := decide (lst xs ≤ 0) && decide (0 ≤ mxl xs)
theorem levB_iff {xs : List Int} (h0 : 0 < xs.length) : levB xs = false ↔ LevP xs := by
  unfold levB lst mxl LevP
  rw [Bool.and_eq_false_iff, decide_eq_false_iff_not, decide_eq_false_iff_not]
  constructor
  · rintro (h | h)
    · exact .inl fun p hp => by have := mn_le (xs := xs) (k := xs.length - 1) (j := p) (by omega); omega
    · exact .inr fun p hp => by have := mx_ge xs (k := xs.length - 1) (j := p) (by omega); omega
  · rintro (h | h)
    · obtain ⟨j, hj, e⟩ := mn_mem (xs := xs) (xs.length - 1)
      exact .inl (by have := h j (by omega); omega)
    · obtain ⟨j, hj, e⟩ := mx_at xs (xs.length - 1)
      exact .inr (by have := h j (by omega); omega)

/-- The first c numbers, times z. -/
def sgL (X : List Int) (z : Int) (c : Nat) : List Int := (List.range c).map fun p => z * gi X p
theorem sgL_succ (X : List Int) (z : Int) (c : Nat) : sgL X z (c + 1) = sgL X z c ++ [z * gi X c] := by simp [sgL, List.range_succ]
theorem sgL_len (X : List Int) (z : Int) (c : Nat) : (sgL X z c).length = c := by simp [sgL]
theorem gi_sgL {X : List Int} {z : Int} {c p : Nat} (h : p < c) : gi (sgL X z c) p = z * gi X p := by
  rw [gi_get (by rw [sgL_len]; exact h)]; simp [sgL]
theorem gcdL_sgL {X : List Int} {z : Int} (hz : z = 1 ∨ z = -1) {k : Nat} : ∀ {j}, j ≤ k → gcdL (sgL X z k) j = gcdL X j
  | 0, _ => rfl
  | j + 1, h => by
    rw [gcdL, gcdL, gcdL_sgL hz (by omega), gi_sgL (by omega)]
    rcases hz with rfl | rfl
    · rw [Int.one_mul]
    · unfold gcdI; rw [Int.neg_one_mul, Int.gcd_neg]
theorem shr_sgL {X : List Int} {z : Int} (hz : z = 1 ∨ z = -1) {n k : Nat} {r : Nat → Nat} (hl : X.length = k) : shr n r (sgL X z k) k = shr n r X k := by
  unfold shr
  rw [sgL_len, hl, gcdL_sgL hz (Nat.le_refl _)]
  congr 1
  unfold clrL
  refine List.map_congr_left fun p hp => ?_
  rw [gi_sgL (List.mem_range.1 hp)]
  rcases hz with rfl | rfl
  · rw [Int.one_mul]
  · rw [show max (-1 * gi X p) (-(-1 * gi X p)) = max (gi X p) (-(gi X p)) by omega]
/-- The sign of the sum. -/
def zsg (X : List Int) (k : Nat) : Int := if sumN (gi X) k < 0 then -1 else 1
theorem zsg_or (X : List Int) (k : Nat) : zsg X k = 1 ∨ zsg X k = -1 := by unfold zsg; split <;> simp
theorem lev_sum {X : List Int} (h : LevP X) (h0 : 0 < X.length) : sumN (gi X) X.length ≠ 0 ∧ ∀ p, p < X.length → 0 < zsg X X.length * gi X p := by
  rcases h with h | h
  · have hs := sumN_pos (f := gi X) (n := X.length) (fun i hi => by have := h i hi; omega) ⟨0, h0, h 0 h0⟩
    refine ⟨by omega, fun p hp => ?_⟩
    unfold zsg; rw [if_neg (by omega), Int.one_mul]; exact h p hp
  · have hs := sumN_pos (f := fun i => (-1) * gi X i) (n := X.length) (fun i hi => by have := h i hi; omega) ⟨0, h0, by have := h 0 h0; omega⟩
    rw [sumN_mul] at hs
    refine ⟨by omega, fun p hp => ?_⟩
    unfold zsg; rw [if_pos (by omega)]; have := h p hp; omega
theorem lev_of {X : List Int} {z : Int} (hz : z = 1 ∨ z = -1) (h : ∀ p, p < X.length → 0 < z * gi X p) : LevP X := by
  rcases hz with rfl | rfl
  · exact .inl fun p hp => by have := h p hp; omega
  · exact .inr fun p hp => by have := h p hp; omega

theorem memL_ge : ∀ R, R < 8 → ∀ n, n < 4 → 1 ≤ R → R < 2 ^ n → 1 ≤ (memL R n).length := by decide
/-- The shares of some strategies are the only ones at which these have as much, and no other one has more. -/
def LevAt (a : List (List Int)) (k : Nat) (r : Nat → Nat) : Prop := LevP (kY a r r k) ∧ RestP a (shr a.length r (kY a r r k) k) a.length
def lvl (a : List (List Int)) (s : Nat) : List Int := shr a.length (idx s a.length) (kY a (idx s a.length) (idx s a.length) (memL s a.length).length) (memL s a.length).length
def LvP (a : List (List Int)) (s : Nat) : Prop := 1 ≤ s ∧ s < 2 ^ a.length ∧ LevAt a (memL s a.length).length (idx s a.length)
noncomputable def resR (a : List (List Int)) : Nat → List (List Int)
  | 0 => []
  | s + 1 => if pb (LvP a s) = true then resR a s ++ [lvl a s] else resR a s
noncomputable def resF (a : List (List Int)) : List (List Int) := if pb (VQ a) = true then resR a 8 else []
theorem resR_yes {a : List (List Int)} {s : Nat} (h : LvP a s) : resR a (s + 1) = resR a s ++ [lvl a s] := by rw [resR, if_pos (pb_true h)]
theorem resR_no {a : List (List Int)} {s : Nat} (h : ¬ LvP a s) : resR a (s + 1) = resR a s := by rw [resR, if_neg (by rw [pb_false h]; decide)]
theorem lvl_len (a : List (List Int)) (s : Nat) : (lvl a s).length = a.length := putL_len _ _ _ _
theorem resR_one (a : List (List Int)) : resR a 1 = [] := by rw [resR_no (fun h => by have := h.1; omega)]; rfl
theorem resR_len (a : List (List Int)) : ∀ s, (resR a s).length ≤ s
  | 0 => by simp [resR]
  | s + 1 => by
    have := resR_len a s
    by_cases h : LvP a s
    · rw [resR_yes h, List.length_append, List.length_singleton]; omega
    · rw [resR_no h]; omega
theorem resR_end {a : List (List Int)} : ∀ {d}, resR a (2 ^ a.length + d) = resR a (2 ^ a.length)
  | 0 => rfl
  | d + 1 => by rw [← Nat.add_assoc, resR_no (fun h => by have := h.2.1; omega), resR_end]
theorem resR_all {a : List (List Int)} (h : a.length ≤ 3) : resR a 8 = resR a (2 ^ a.length) := by
  have h8 : 2 ^ a.length ≤ 8 := pow_le8 h
  have := resR_end (a := a) (d := 8 - 2 ^ a.length)
  rwa [show 2 ^ a.length + (8 - 2 ^ a.length) = 8 by omega] at this
theorem mem_resR {a : List (List Int)} {x : List Int} : ∀ {k}, x ∈ resR a k ↔ ∃ s, s < k ∧ LvP a s ∧ x = lvl a s
  | 0 => by simp [resR]
  | k + 1 => by
    have ih := mem_resR (a := a) (x := x) (k := k)
    by_cases h : LvP a k
    · rw [resR_yes h, List.mem_append, List.mem_singleton, ih]
      constructor
      · rintro (⟨s, h1, h2, h3⟩ | h1)
        · exact ⟨s, by omega, h2, h3⟩
        · exact ⟨k, by omega, h, h1⟩
      · rintro ⟨s, h1, h2, h3⟩
        by_cases e : s = k
        · subst e; exact .inr h3
        · exact .inl ⟨s, by omega, h2, h3⟩
    · rw [resR_no h, ih]
      constructor
      · rintro ⟨s, h1, h2, h3⟩; exact ⟨s, by omega, h2, h3⟩
      · rintro ⟨s, h1, h2, h3⟩
        by_cases e : s = k
        · subst e; exact absurd h2 h
        · exact ⟨s, by omega, h2, h3⟩
theorem lvl_VS {a : List (List Int)} (q : VQ a) {s : Nat} (h : LvP a s) (h8 : s < 8) : VS (lvl a s) a.length := by
  have hk3 : (memL s a.length).length ≤ 3 := by have := memL_le s a.length; have := q.1.n3; omega
  have h1 := memL_ge s h8 a.length (by have := q.1.n3; omega) h.1 h.2.1
  have hr := idx_asc s a.length
  exact shr_VS (kY_len _ _ _ _) hr (h.2.2.1.clr (by rw [kY_len]; omega)) (fun p hp => kY_bd q.1 hk3 hr (by rw [← q.2]; exact hr) hp)
end Go.Proofs.Ytjmfkodbilknlaa

/- The shares of some strategies at which these have as much, by the model. -/
namespace Go.Proofs.Ytjmfkodbilknlaa
open Go.RowKit
open V (sumN detN rowC colC cofN minorN skip sgn Asc)

/-- The first j numbers of row p of the differences; the first i rows. -/
def dfR (a : List (List Int)) (r : Nat → Nat) (p j : Nat) : List Int := (List.range j).map fun q => mf a r p q
def dfL (a : List (List Int)) (r : Nat → Nat) (k i : Nat) : List (List Int) := (List.range i).map fun p => dfR a r p k
theorem dfR_succ (a : List (List Int)) (r : Nat → Nat) (p j : Nat) : dfR a r p (j + 1) = dfR a r p j ++ [mf a r p j] := by simp [dfR, List.range_succ]
theorem dfL_succ (a : List (List Int)) (r : Nat → Nat) (k i : Nat) : dfL a r k (i + 1) = dfL a r k i ++ [dfR a r i k] := by simp [dfL, List.range_succ]
theorem dfR_len (a : List (List Int)) (r : Nat → Nat) (p j : Nat) : (dfR a r p j).length = j := by simp [dfR]
theorem dfL_len (a : List (List Int)) (r : Nat → Nat) (k i : Nat) : (dfL a r k i).length = i := by simp [dfL]
theorem dfL_sq (a : List (List Int)) (r : Nat → Nat) (k : Nat) : Sq k (dfL a r k k) (mf a r) :=
  ⟨dfL_len _ _ _ _, fun p hp => by rw [gr_get (by rw [dfL_len]; exact hp)]; simp [dfL, dfR], fun p q hp hq => by
    unfold g2; rw [gr_get (by rw [dfL_len]; exact hp), gi_get (by simp [dfL, dfR]; exact hq)]; simp [dfL, dfR]⟩
theorem dfR_zero {a : List (List Int)} {r : Nat → Nat} {p j : Nat} (h : p = 0) : dfR a r p (j + 1) = dfR a r p j ++ [1] := by subst h; exact dfR_succ _ _ _ _
theorem dfR_next {a : List (List Int)} {r : Nat → Nat} {p j : Nat} (h : p ≠ 0) : dfR a r p (j + 1) = dfR a r p j ++ [g2 a (r p) (r j) - g2 a (r 0) (r j)] := by
  rw [dfR_succ, mf, if_neg h]
theorem mf_odd {a : List (List Int)} {r : Nat → Nat} {k c : Nat} (hk : k ≤ 3) (hc : c < k) (h : c % 2 = 1) : gi (kY a r r k) c = -(detN (k - 1) (minorN (mf a r) 0 c)) := by
  rw [← mf_cof hk hc, cofN_odd (by omega)]
theorem mf_even {a : List (List Int)} {r : Nat → Nat} {k c : Nat} (hk : k ≤ 3) (hc : c < k) (h : ¬ c % 2 = 1) : gi (kY a r r k) c = detN (k - 1) (minorN (mf a r) 0 c) := by
  rw [← mf_cof hk hc, cofN_even (by omega)]

end Go.Proofs.Ytjmfkodbilknlaa

/- Best shares by a part of a table, by the model. -/
namespace Go.Proofs.Ytjmfkodbilknlaa
open Go.RowKit
open V (sumN detN rowC colC cofN minorN skip sgn Asc Kern)

/-- Shares by a part, and that they are best; or that there are none. -/
def NewK (w : World) (a : List (List Int)) (k : Nat) (r s : Nat → Nat) (e : Ending) (w' : World) : Prop :=
  (KerP a k r s ∧ ∃ A1 c1 A2 c2, e = .returned (.tuple #[.slice A1 a.length c1, .slice A2 (gr a 0).length c2, .bool true]) ∧ Ints w' A1 a.length c1 (shr a.length r (kX a r s k) k) ∧
    Ints w' A2 (gr a 0).length c2 (shr (gr a 0).length s (kY a r s k) k) ∧ Below w.heap.size w w') ∨
  (¬ KerP a k r s ∧ ∃ v1 v2, e = .returned (.tuple #[v1, v2, .bool false]) ∧ Below w.heap.size w w')
theorem flip_tr {xss : List (List Int)} {k : Nat} {f : Nat → Nat → Int} (h : Sq k xss f) : Sq k (flip xss k k) (trN f) :=
  ⟨flip_len _ _ _, fun p hp => by rw [gr_flip hp]; simp, fun p q hp hq => by
    unfold g2; rw [gr_flip hp, gi_col hq]; exact h.eq q p hq hp⟩
theorem Pl.keep {w w' : World} {X k c r n} (h : Pl w X k c r n) (q : Keep w w') : Pl w' X k c r n := ⟨h.ints.keep q, h.lt⟩

/-- What cleared answers, with its flag as a letter. -/
def ClrV (w' : World) (xs : List Int) (ok : Bool) (v : Value) : Prop :=
  (ok = true ∧ ClrP xs ∧ ∃ A c, v = .slice A xs.length c ∧ Ints w' A xs.length c (clrL xs (gcdL xs xs.length) xs.length)) ∨ (ok = false ∧ ¬ ClrP xs)
theorem NewC.uni {w w' : World} {xs : List Int} {e : Ending} (h : NewC w xs e w') : ∃ ok v, e = .returned (.tuple #[v, .bool ok]) ∧ Below w.heap.size w w' ∧ ClrV w' xs ok v := by
  rcases h with ⟨h1, A, n, c, g, rfl, rfl, ho, hb⟩ | ⟨h1, rfl, hb⟩
  · exact ⟨true, _, rfl, hb, .inl ⟨rfl, h1, A, c, rfl, ho.ints⟩⟩
  · exact ⟨false, _, rfl, hb, .inr ⟨rfl, h1⟩⟩
theorem ClrV.keep {w' w2 : World} {xs : List Int} {ok : Bool} {v : Value} (h : ClrV w' xs ok v) (k : Keep w' w2) : ClrV w2 xs ok v := by
  rcases h with ⟨h1, h2, A, c, h3, h4⟩ | h
  · exact .inl ⟨h1, h2, A, c, h3, h4.keep k⟩
  · exact .inr h
theorem mid_of {x : Int} (h : -648 ≤ x ∧ x ≤ 648) : Mid x := by unfold Mid; omega

end Go.Proofs.Ytjmfkodbilknlaa

/- The value's shares, by the model. -/
namespace Go.Proofs.Ytjmfkodbilknlaa
open Go.RowKit
open V (Asc)

/-- The best shares of a table. -/
def NewV (w : World) (a : List (List Int)) (e : Ending) (w' : World) : Prop :=
  ∃ A1 c1 A2 c2, e = .returned (.tuple #[.slice A1 a.length c1, .slice A2 (gr a 0).length c2]) ∧ Ints w' A1 a.length c1 (bx a) ∧ Ints w' A2 (gr a 0).length c2 (by_ a) ∧ Below w.heap.size w w'
theorem NewK.no {w w' : World} {a : List (List Int)} {k : Nat} {r s : Nat → Nat} {e : Ending} (h : NewK w a k r s e w') (hn : ¬ KerP a k r s) : ∃ v1 v2, e = .returned (.tuple #[v1, v2, .bool false]) ∧ Below w.heap.size w w' := by
  rcases h with ⟨h1, _⟩ | ⟨_, h⟩
  · exact absurd h1 hn
  · exact h
theorem NewK.yes {w w' : World} {a : List (List Int)} {k : Nat} {r s : Nat → Nat} {e : Ending} (h : NewK w a k r s e w') (hn : KerP a k r s) :
    ∃ A1 c1 A2 c2, e = .returned (.tuple #[.slice A1 a.length c1, .slice A2 (gr a 0).length c2, .bool true]) ∧ Ints w' A1 a.length c1 (shr a.length r (kX a r s k) k) ∧
      Ints w' A2 (gr a 0).length c2 (shr (gr a 0).length s (kY a r s k) k) ∧ Below w.heap.size w w' := by
  rcases h with ⟨_, h⟩ | ⟨h1, _⟩
  · exact h
  · exact absurd hn h1
theorem memL_pl {w : World} {A : Option Addr} {n c S m : Nat} (h : Ints w A n c (memL S m)) (e : n = (memL S m).length) : Pl w A n c (idx S m) m := by
  subst e
  exact ⟨by rw [← memL_idx]; exact h, (idx_asc S m).1⟩

end Go.Proofs.Ytjmfkodbilknlaa

/- The rests of a table, by the model. -/
namespace Go.Proofs.Ytjmfkodbilknlaa
open Go.RowKit
open V (sumN detN rowC colC cofN minorN skip sgn Asc)

theorem shl_val' {n : Nat} (h : n ≤ 3) : ∃ P : Nat, wrap64 ((2 : Int) ^ n) = (P : Int) ∧ P = 2 ^ n := by
  refine ⟨2 ^ n, ?_, rfl⟩
  have : n = 0 ∨ n = 1 ∨ n = 2 ∨ n = 3 := by omega
  rcases this with rfl | rfl | rfl | rfl <;> (unfold wrap64; decide)
theorem NewT.from {w w1 w2 : World} {xss : List (List Int)} {e : Ending} (h : Below w.heap.size w w1) (k : NewT w1 xss e w2) : NewT w xss e w2 := by
  obtain ⟨A, n, c, g, e1, e2, ho, hb⟩ := k
  exact ⟨A, n, c, g, e1, e2, ho.mono h.size (Nat.le_refl _), below_up h hb⟩
theorem TM.new {wb vs xss w} {A : Option Addr} {n c : Nat} (h : TM wb (.slice A n c) vs xss w) (hm : xss.length ≤ 100) : NewT wb xss (.returned (.slice A n c)) w := by
  obtain ⟨A', n', c', gg, e, hn', hown⟩ := h.bo.owns (by omega)
  injection e with e1 e2 e3
  subst e1
  subst e2
  subst e3
  exact ⟨_, _, _, gg, rfl, hn', hown, h.up⟩
theorem NewT.none {w w' : World} {xss : List (List Int)} (h : Below w.heap.size w w') (hx : xss = []) : NewT w xss (.returned (.slice none 0 0)) w' := by
  subst hx
  exact ⟨_, _, _, 0, rfl, rfl, OwnR.nil _ _ _ _, h⟩
theorem resF_yes {a : List (List Int)} (h : VQ a) : resF a = resR a 8 := by unfold resF; rw [if_pos (pb_true h)]
theorem resF_no {a : List (List Int)} (h : ¬ VQ a) : resF a = [] := by unfold resF; rw [if_neg (by rw [pb_false h]; decide)]

end Go.Proofs.Ytjmfkodbilknlaa

/- A number below another one, by the program. -/
namespace Go.Proofs.Ytjmfkodbilknlaa
open Go.RowKit

def Blw (n x : Int) : Prop := 0 ≤ x ∧ x < n
theorem isBelow_any (n x : Int) (w : World) : Calls Try.prog 68 #[.int .i64 n, .int .i64 x] w fun e w' => e = .returned (.bool (pb (Blw n x))) ∧ w = w' := by
  by_cases h1 : 0 ≤ x
  · by_cases h2 : x < n
    · have h := Lib.hid (pb_true (p := Blw n x) ⟨h1, h2⟩)
      have h2' : decide (x < n) = true := by simpa using h2
      go_enter Try.func68, Try.ntmps68
      go_wp2
      go_ret
      exact ⟨ret_bool (by rw [h.out]), rfl⟩
    · have h := Lib.hid (pb_false (p := Blw n x) (fun h => h2 h.2))
      have h2' : decide (x < n) = false := by simpa using h2
      go_enter Try.func68, Try.ntmps68
      go_wp2
      go_ret
      exact ⟨ret_bool (by rw [h.out]), rfl⟩
  · have h := Lib.hid (pb_false (p := Blw n x) (fun h => h1 h.1))
    go_enter Try.func68, Try.ntmps68
    go_wp2
    go_ret
    exact ⟨ret_bool (by rw [h.out]), rfl⟩
end Go.Proofs.Ytjmfkodbilknlaa

/- Best replies, by the program. -/
namespace Go.Proofs.Ytjmfkodbilknlaa
open Go.RowKit

theorem Try.info_row9 : (Try.prog.info? 36).map (fun i => (i.zero, i.size, i.bytes)) = some (some (.slice none 0 0), 1, 24) := by kernel_rfl
/-- Where a number stands. -/
def atB (x : Int) (xs : List Int) : Nat → Bool := fun k => decide (gi xs k = x)
/-- The best replies, when one plays an act now. -/
def brF (pays : List Int) (now : Nat) : List Int := if gi pays now = mxl pays then [] else selL (atB (mxl pays) pays) pays.length
theorem brF_len (pays : List Int) (now : Nat) : (brF pays now).length ≤ pays.length := by
  unfold brF; split
  · simp
  · exact selL_len _ _
theorem brF_mem {pays : List Int} {now : Nat} {y : Int} : y ∈ brF pays now ↔ gi pays now ≠ mxl pays ∧ ∃ k : Nat, k < pays.length ∧ gi pays k = mxl pays ∧ y = k := by
  unfold brF; split
  · rename_i h; simp [h]
  · rename_i h; rw [selL_mem]; simp [atB, h]
def colOf (xs : List (List Int)) (n j : Nat) : List Int := (List.range n).map fun i => g2 xs i j
theorem colOf_len (xs : List (List Int)) (n j : Nat) : (colOf xs n j).length = n := by simp [colOf]
theorem gi_colOf {xs : List (List Int)} {n i j : Nat} (h : i < n) : gi (colOf xs n j) i = g2 xs i j := gi_col h
theorem flip_colOf {xs : List (List Int)} {n m j : Nat} (h : j < m) : gr (flip xs n m) j = colOf xs n j := gr_flip h
def mvA (j : Nat) (l : List Int) : List (List Int) := l.map fun r => [r, (j : Int)]
def mvB (i : Nat) (l : List Int) : List (List Int) := l.map fun c => [(i : Int), c]
theorem mvA_len (j : Nat) (l : List Int) : (mvA j l).length = l.length := by simp [mvA]
theorem mvB_len (j : Nat) (l : List Int) : (mvB j l).length = l.length := by simp [mvB]
theorem mvA_step (j : Nat) {l : List Int} {k : Nat} (h : k < l.length) : mvA j (l.take (k + 1)) = mvA j (l.take k) ++ [[gi l k, (j : Int)]] := by
  rw [mvA, mvA, List.take_add_one, List.map_append, List.getElem?_eq_getElem h, gi_get h]; rfl
theorem mvB_step (j : Nat) {l : List Int} {k : Nat} (h : k < l.length) : mvB j (l.take (k + 1)) = mvB j (l.take k) ++ [[(j : Int), gi l k]] := by
  rw [mvB, mvB, List.take_add_one, List.map_append, List.getElem?_eq_getElem h, gi_get h]; rfl
/-- The pairs to which a pair leads. -/
def repL (xs ys : List (List Int)) (n i j : Nat) : List (List Int) := mvA j (brF (colOf xs n j) i) ++ mvB i (brF (gr ys i) j)
noncomputable def repF (xs ys : List (List Int)) (i j : Int) : List (List Int) := if (pb (VG xs ys) && pb (Blw xs.length i) && pb (Blw (gr xs 0).length j)) = true then repL xs ys xs.length i.toNat j.toNat else []

set_option maxRecDepth 100000 in
set_option maxHeartbeats 3200000 in
theorem indexesOf_any (x : Int) (A : Option Addr) (n c : Nat) (xs : List Int) (w : World) (hx : Ints w A n c xs) (hn : n ≤ 100) :
    Calls Try.prog 93 #[.int .i64 x, .slice A n c] w (NewI w (selL (atB x xs) n)) := by
  have HX := Lib.hid hx
  clear hx
  have HS0 := Lib.hid (IU.nil w)
  go_enter Try.func93, Try.ntmps93
  go_wp2
  go_loopw [5, 10] (fun v i wr => ∃ k : Nat, k ≤ n ∧ i = .int .i64 k ∧ Hid (IU w v (selL (atB x xs) k) wr)) (fun _ i _ => n - (intOf i).toNat)
  case atStart => exact ⟨0, by omega, rfl, HS0⟩
  case round =>
    clear HS0
    obtain ⟨k, hk, rfl, HI⟩ := hrel
    obtain ⟨Av, cv, rfl⟩ := HI.out.bi.form
    by_cases hlt : k < n
    · obtain ⟨b, o, rfl, hc⟩ := (HX.out.keep (Keep.below HI.out.up)).at_ (by omega)
      have c1 := hc k hlt
      clear hc
      by_cases hm : gi xs k = x
      · have hm' : (gi xs k == x) = true := by simp [hm]
        have HCS := Lib.hid (selL_yes (f := atB x xs) (k := k) (by simp [atB, hm]))
        clear hm
        have HML := Lib.hid (selL_len (atB x xs) k)
        have hb := below_alloc wr (.cells #[iv (k : Int)] 3)
        have HB4 := Lib.hid (HI.out.bi.below hb).own
        have HN := Lib.hid (cell_one_new wr (iv (k : Int)) 3)
        have hwz := HI.out.up.size
        clear hb
        generalize selL (atB x xs) k = ys at *
        obtain ⟨i0, hi0, hz0, hz1, hz2⟩ := info_parts Try.info_int
        go_wp2_with (at_builtin; refine wpList_append_own_at _ rfl _ _ 36 rfl w.heap.size 3 i0 (.int .i64 0) 1 8 Try.underlying36 hi0 hz0 hz1 hz2 rfl (by decide) _ ys.length (ys.map iv) rfl HB4.out ⟨wr.heap.size, 0, none⟩ 1 1 [iv (k : Int)] rfl rfl ?c1 ?c2 ?c3 ?c4 ?c5 ?_)
        case c1 => exact HN.out
        case c2 => intro u hu; simp at hu; subst hu; rfl
        case c3 => have := HML.out; unfold maxLen; omega
        case c4 => have := HML.out; omega
        case c5 => simp; omega
        intro v' w5 hown' hgrow _ hat
        have HI5 := Lib.hid (HI.out.push hown' hgrow (by simpa using hat))
        clear HB4 HN hown' hgrow hat HI c1
        go_wp2
        go_roundw
        case rel => exact ⟨k + 1, by omega, by go_num, Lib.hid (by rw [HCS.out]; exact HI5.out)⟩
        case measure => simp [intOf]; omega
      · have hm' : (gi xs k == x) = false := by simp [hm]
        have HCS := Lib.hid (selL_no (f := atB x xs) (k := k) (by simp [atB, hm]))
        clear hm
        go_wp2
        go_roundw
        case rel => exact ⟨k + 1, by omega, by go_num, Lib.hid (by rw [HCS.out]; exact HI.out)⟩
        case measure => simp [intOf]; omega
    · obtain rfl : k = n := by omega
      have HNW := Lib.hid (HI.out.new (by have := selL_len (atB x xs) k; omega) (selL_small _ k hn))
      go_wp2
      go_ret
      exact HNW.out
set_option maxRecDepth 100000 in
set_option maxHeartbeats 1600000 in
theorem bestReplies_any (A : Option Addr) (n c : Nat) (xs : List Int) (now : Nat) (w : World) (hx : Ints w A n c xs) (hn : n ≤ 100) (h0 : now < n) :
    Calls Try.prog 89 #[.slice A n c, .int .i64 now] w (NewI w (brF xs now)) := by
  have HC := Lib.hid (Max_any A n c xs w hx (by omega))
  have HX := Lib.hid hx
  have hl := hx.len
  clear hx
  by_cases hm : gi xs now = mxl xs
  · have hm' : (gi xs now == mxl xs) = true := by simp [hm]
    have HE := Lib.hid (show brF xs now = [] by rw [brF, if_pos hm])
    clear hm hl
    go_enter Try.func89, Try.ntmps89
    go_wp2_with fail
    refine HC.out.mono ?_
    rintro e w1 ⟨rfl, hq⟩
    obtain ⟨b, o, rfl, hc⟩ := (HX.out.keep (Keep.quiet hq)).at_ (by omega)
    have c1 := hc now h0
    have HQ := Lib.hid (Quiet.below (B := w.heap.size) hq)
    clear hc hq HC
    go_wp2
    go_ret
    exact NewI.empty HQ.out HE.out
  · have hm' : (gi xs now == mxl xs) = false := by simp [hm]
    have HE := Lib.hid (show selL (atB (mxl xs) xs) n = brF xs now by rw [brF, if_neg hm, hl])
    clear hm hl
    go_enter Try.func89, Try.ntmps89
    go_wp2_with fail
    refine HC.out.mono ?_
    rintro e w1 ⟨rfl, hq⟩
    have HX1 := Lib.hid (HX.out.keep (Keep.quiet hq))
    have HQ := Lib.hid (Quiet.below (B := w.heap.size) hq)
    obtain ⟨b, o, rfl, hc⟩ := (HX.out.keep (Keep.quiet hq)).at_ (by omega)
    have c1 := hc now h0
    clear hc hq HC HX
    go_wp2_with fail
    refine (HE.out ▸ indexesOf_any _ _ _ _ xs _ HX1.out hn).mono ?_
    rintro e w2 hN
    have HN := Lib.hid (NewI.from HQ.out hN)
    obtain ⟨Av, k, cv, gg, rfl, -⟩ := hN
    clear HQ HX1 c1
    go_wp2
    go_ret
    exact HN.out
theorem NewT.is {w w' : World} {a b : List (List Int)} {e : Ending} (h : a = b) (k : NewT w a e w') : NewT w b e w' := h ▸ k
/-- Rows under way, and a list of ints that is read beside them. -/
structure RS (wb : World) (lo hi : Nat) (v : Value) (vs : List Value) (acc : List (List Int)) (gg : Nat) (A : Option Addr) (n c : Nat) (ls : List Int) (wr : World) : Prop where
  tm : TM wb v vs acc wr
  li : OwnI lo hi wr gg A n c ls
  hi_ : hi ≤ wr.heap.size
  far : ∀ k, v.ownBlock = some k → k < lo ∨ hi ≤ k
theorem RS.start {wb w1 w2 : World} {v : Value} {vs : List Value} {acc : List (List Int)} {gg : Nat} {A : Option Addr} {n c : Nat} {ls : List Int} (h : TM wb v vs acc w1) (ho : OwnI w1.heap.size w2.heap.size w2 gg A n c ls) (hb : Below w1.heap.size w1 w2) :
    RS wb w1.heap.size w2.heap.size v vs acc gg A n c ls w2 :=
  ⟨h.next hb, ho, Nat.le_refl _, fun k hk => .inl (h.bo.hi_ k hk)⟩
theorem RS.push {wb wr w6 : World} {lo hi : Nat} {v v' : Value} {vs : List Value} {acc : List (List Int)} {gg n c : Nat} {A : Option Addr} {ls : List Int} {x y : Int} (h : RS wb lo hi v vs acc gg A n c ls wr)
    (hr : OwnI wr.heap.size (wr.heap.size + 1) (wr.alloc (.cells #[.int .i64 x, .int .i64 y] 3)) wr.heap.size (some ⟨wr.heap.size, 0, none⟩) 2 2 [x, y])
    (hown : w6.ownsRow wb.heap.size 36 1 v' (acc.length + 1) (vs ++ [.slice (some ⟨wr.heap.size, 0, none⟩) 2 2]))
    (hgrow : ((wr.alloc (.cells #[.int .i64 x, .int .i64 y] 3)).alloc (.cells #[.slice (some ⟨wr.heap.size, 0, none⟩) 2 2] 36)).grownBy w6 v.ownBlock)
    (hat : v'.ownBlock = v.ownBlock ∨ v'.ownBlock = some ((wr.alloc (.cells #[.int .i64 x, .int .i64 y] 3)).heap.size + 1)) :
    RS wb lo hi v' (vs ++ [.slice (some ⟨wr.heap.size, 0, none⟩) 2 2]) (acc ++ [[x, y]]) gg A n c ls w6 := by
  have h1 := h.hi_
  have hk := below_alloc wr (.cells #[.int .i64 x, .int .i64 y] 3)
  have h3 := hgrow.size
  simp only [World.size_alloc] at h3
  refine ⟨h.tm.push (r := [x, y]) hk (hr.mono (Nat.le_refl _) (by simp)) hown hgrow hat, h.li.of_block fun hn => ?_, by omega, fun k hk => ?_⟩
  · obtain ⟨o, e, hl, hh, _⟩ := h.li.own hn
    refine (hgrow.block gg (by simp; omega) (fun e => ?_)).trans ((Below.heap_alloc _ _ _ (by simp; omega)).trans (hk.block gg (by omega)))
    have := h.far gg e.symm
    omega
  · rcases hat with hat | hat
    · exact h.far k (by rw [← hat]; exact hk)
    · rw [hat] at hk; injection hk with hk; simp at hk; omega

set_option maxRecDepth 100000 in
set_option maxHeartbeats 6400000 in
theorem ReplyMoves_impl (A B : Option Addr) (n c m d : Nat) (xs ys : List (List Int)) (i j : Int) (w : World) (hx : IntRows w A n c xs) (hy : IntRows w B m d ys) (hi : Fit i) (hj : Fit j) :
    Calls Try.prog 80 #[.agg #[.slice A n c, .slice B m d], .int .i64 i, .int .i64 j] w (NewT w (repF xs ys i j)) := by
  have hb0 := below_alloc w (.cells #[.slice A n c, .slice B m d] 43)
  have b0 := blk_new w 43 #[.slice A n c, .slice B m d]
  have HB := Lib.hid hb0
  have HK := Lib.hid b0
  have HX := Lib.hid (hx.keep (Keep.below hb0))
  have HY := Lib.hid (hy.keep (Keep.below hb0))
  have HX0 := Lib.hid hx
  have HY0 := Lib.hid hy
  have HFI := Lib.hid hi
  have HFJ := Lib.hid hj
  clear hx hy hb0 b0 hi hj
  go_enter Try.func80, Try.ntmps80
  go_wp2_with fail
  generalize w.alloc (.cells #[.slice A n c, .slice B m d] 43) = W1 at *
  have HC := Lib.hid (ValidGame_impl _ _ _ _ _ _ _ _ _ HX.out HY.out)
  by_cases hv : VG xs ys
  · refine ((pb_true hv) ▸ HC.out).mono ?_
    rintro e w1 ⟨rfl, hb⟩
    have hb2 := below_up HB.out hb
    have hk2 := blk_below HK.out hb
    obtain ⟨p, rfl, rfl, rfl, rfl, rfl, rfl, hg⟩ := GV.of HX0.out HY0.out hv
    have HT := Lib.hid (show GT p w w1 w.heap.size xs ys from ⟨hb2, hk2, hg⟩)
    have hn3 := hg.tx.n3
    have hm3 := hg.tx.m3
    have hn1 := hg.tx.n1
    have hm1 := hg.tx.m1
    have HP := Lib.hid (show repF xs ys i j = if (pb (Blw p.n i) && pb (Blw p.m j)) = true then repL xs ys p.n i.toNat j.toNat else [] by rw [repF, pb_true hv, hg.lx, hg.mx, Bool.true_and])
    have HLY := Lib.hid (show ∀ i, i < p.n → (gr ys i).length = p.m from fun i hi => (hg.ty.ints i hi).len)
    clear hb hv hb2 hk2 hg HX HY HX0 HY0 HB HK HC
    have k0 := HT.out.c0
    have r0 := HT.out.gv.tx.row 0 hn1
    simp only [Nat.add_zero] at r0
    by_cases hi : Blw p.n i
    · by_cases hj : Blw p.m j
      · have QI := Lib.hid (fun W => pb_true hi ▸ isBelow_any (p.n : Int) i W)
        have QJ := Lib.hid (fun W => pb_true hj ▸ isBelow_any (p.m : Int) j W)
        rw [pb_true hi, pb_true hj, Bool.and_self, if_pos rfl] at HP
        unfold Blw at hi hj
        obtain ⟨x, rfl⟩ : ∃ x : Nat, i = x := ⟨i.toNat, by omega⟩
        obtain ⟨y, rfl⟩ : ∃ y : Nat, j = y := ⟨j.toNat, by omega⟩
        have hxn : x < p.n := by omega
        have hym : y < p.m := by omega
        simp only [Int.toNat_natCast] at HP
        clear hi hj HFI HFJ
        go_wp2_with fail
        refine (QI.out _).mono ?_
        rintro e w2 ⟨rfl, rfl⟩
        go_wp2_with fail
        refine (QJ.out _).mono ?_
        rintro e w2 ⟨rfl, rfl⟩
        clear QI QJ
        go_wp2_with fail
        refine (turned_any _ _ _ _ _ _ _ _ _ _ HT.out.gv.tx).mono ?_
        rintro e w2 ⟨rfl, ho, hb, hlt⟩
        have HT2 := Lib.hid (HT.out.up hb)
        obtain ⟨R, cc, t1, tI⟩ := ho.row0 hym
        rw [flip_colOf hym, colOf_len] at t1 tI
        have HBR := Lib.hid (bestReplies_any _ _ _ _ x _ tI (by omega) hxn)
        have HTM := Lib.hid (TM.mk (wb := w2) (v := .slice none 0 0) (vs := []) (xss := []) (Bld.nil _ _ _) (Below.refl _ _))
        clear ho hb hlt HT k0 r0 tI
        generalize hw1 : w1.heap.size = N at *
        clear hw1
        go_wp2_with fail
        refine HBR.out.mono ?_
        rintro e w3 ⟨Al, nl, cl, gl, rfl, rfl, ho, hb⟩
        have HR := Lib.hid (RS.start HTM.out ho hb)
        have HLL := Lib.hid (show (brF (colOf xs p.n y) x).length ≤ 3 by have := brF_len (colOf xs p.n y) x; rw [colOf_len] at this; omega)
        have HMEM := Lib.hid (show ∀ z ∈ brF (colOf xs p.n y) x, -1000 ≤ z ∧ z ≤ 1000 from fun z hz => by
          obtain ⟨_, k, hk, _, rfl⟩ := brF_mem.1 hz
          rw [colOf_len] at hk; omega)
        clear HBR ho hb HTM t1
        have hl3 := HLL.out
        generalize hls : brF (colOf xs p.n y) x = ls at *
        have HLS := Lib.hid hls
        clear hls
        generalize hlo : w2.heap.size = lo at *
        have HLO := Lib.hid hlo
        clear hlo
        generalize w3.heap.size = hi at *
        go_wp2
        go_loopw [7, 42] (fun v s wr => ∃ (k : Nat) (vs : List Value), k ≤ ls.length ∧ s = .int .i64 k ∧ Hid (RS w2 lo hi v vs (mvA y (ls.take k)) gl Al ls.length cl ls wr)) (fun _ s _ => ls.length - (intOf s).toNat)
        case atStart => exact ⟨0, [], Nat.zero_le _, rfl, HR⟩
        case round =>
          clear HR
          obtain ⟨k, vs, hk, rfl, HR⟩ := hrel
          obtain ⟨Av, cv, rfl⟩ := HR.out.tm.bo.form
          by_cases hkl : k < ls.length
          · obtain ⟨bl, ol, rfl, hcl⟩ := HR.out.li.ints.at_ (by omega)
            have c1 := hcl k hkl
            have HMS := Lib.hid (mvA_step y hkl)
            have HGB := Lib.hid (HMEM.out _ (gi_mem hkl))
            have HLA := Lib.hid (show (mvA y (ls.take k)).length ≤ 3 by rw [mvA_len, List.length_take]; have := HLL.out; omega)
            clear hcl
            have HRT := Lib.hid HR.out.tm
            generalize gi ls k = z at *
            generalize mvA y (ls.take k) = acc at *
            have hb3 := below_alloc wr (.cells #[.int .i64 z, .int .i64 y] 3)
            have hb4 := below_alloc (wr.alloc (.cells #[.int .i64 z, .int .i64 y] 3)) (.cells #[.slice (some ⟨wr.heap.size, 0, none⟩) 2 2] 36)
            have HB4 := Lib.hid ((HRT.out.bo.below hb3).below hb4).own
            have HN := Lib.hid (cell_one_new (wr.alloc (.cells #[.int .i64 z, .int .i64 y] 3)) (.slice (some ⟨wr.heap.size, 0, none⟩) 2 2) 36)
            have HPO := Lib.hid (pair_own (lo := wr.heap.size) (w := wr) z y (by have := HGB.out; omega) (by omega) (Nat.le_refl _))
            have hlh : w2.heap.size ≤ wr.heap.size := HRT.out.up.size
            clear hb3 hb4
            obtain ⟨i0, hi0, hz0, hz1, hz2⟩ := info_parts Try.info_row9
            go_wp2_with (at_builtin; refine wpList_append_own_at _ rfl _ _ 22 rfl w2.heap.size 36 i0 (.slice none 0 0) 1 24 Try.underlying22 hi0 hz0 hz1 hz2 rfl (by decide) _ (acc).length vs rfl HB4.out ⟨wr.heap.size + 1, 0, none⟩ 1 1 [.slice (some ⟨wr.heap.size, 0, none⟩) 2 2] rfl rfl ?c1 ?c2 ?c3 ?c4 ?c5 ?_)
            case c1 => have h := HN.out; rw [World.size_alloc] at h; exact h
            case c2 => intro u hu; simp at hu; subst hu; rfl
            case c3 => have := HLA.out; unfold maxLen; omega
            case c4 => have := HLA.out; omega
            case c5 => simp; omega
            intro v' w5 hown' hgrow _ hat
            have hgrow2 : ((wr.alloc (.cells #[.int .i64 z, .int .i64 y] 3)).alloc (.cells #[.slice (some ⟨wr.heap.size, 0, none⟩) 2 2] 36)).grownBy w5 (Value.slice Av (acc).length cv).ownBlock := hgrow
            have hat2 : v'.ownBlock = (Value.slice Av (acc).length cv).ownBlock ∨ v'.ownBlock = some ((wr.alloc (.cells #[.int .i64 z, .int .i64 y] 3)).heap.size + 1) := by simpa using hat
            have HR5 := Lib.hid (HR.out.push HPO.out hown' hgrow2 hat2)
            clear HB4 HN HPO hown' hgrow hat hgrow2 hat2 HLA
            clear HR HRT c1
            go_wp2
            go_roundw
            case rel => exact ⟨k + 1, _, by omega, by go_num, Lib.hid (by rw [HMS.out]; exact HR5.out)⟩
            case measure => simp [intOf]; omega
          · obtain rfl : k = ls.length := by omega
            have HTM := Lib.hid HR.out.tm
            have HT3 := Lib.hid (HT2.out.up HTM.out.up)
            have HA1 := Lib.hid (show (mvA y (ls.take ls.length)).length ≤ 3 by rw [mvA_len, List.take_length]; exact HLL.out)
            have k1 := HT3.out.c1
            have r1 := HT3.out.gv.ty.row x hxn
            have HIY := Lib.hid (HT3.out.gv.ty.ints x hxn)
            have HBR := Lib.hid (bestReplies_any _ _ _ _ y _ HIY.out (by omega) hym)
            clear HR HIY
            go_wp2_with fail
            refine HBR.out.mono ?_
            rintro e w4 ⟨Am, nm, cm, gm, rfl, rfl, ho, hb⟩
            have HR := Lib.hid (RS.start HTM.out ho hb)
            have HLM := Lib.hid (show (brF (gr ys x) y).length ≤ 3 by have := brF_len (gr ys x) y; rw [HLY.out x hxn] at this; omega)
            have HMEM2 := Lib.hid (show ∀ z ∈ brF (gr ys x) y, -1000 ≤ z ∧ z ≤ 1000 from fun z hz => by
              obtain ⟨_, k, hk, _, rfl⟩ := brF_mem.1 hz
              rw [HLY.out x hxn] at hk; omega)
            clear HBR ho hb HTM r1 k1
            have hm3' := HLM.out
            generalize hms : brF (gr ys x) y = ms at *
            have HMSS := Lib.hid hms
            clear hms
            obtain ⟨wA, hwA⟩ : ∃ wA, wA = wr := ⟨_, rfl⟩
            subst hwA
            generalize hac0 : mvA y (ls.take ls.length) = ac0 at *
            have HAC0 := Lib.hid hac0
            clear hac0
            generalize wA.heap.size = lo2 at *
            generalize w4.heap.size = hi2 at *
            go_wp2
            go_loopw [7, 61] (fun v s wr => ∃ (k : Nat) (vs : List Value), k ≤ ms.length ∧ s = .int .i64 k ∧ Hid (RS w2 lo2 hi2 v vs (ac0 ++ mvB x (ms.take k)) gm Am ms.length cm ms wr)) (fun _ s _ => ms.length - (intOf s).toNat)
            case atStart => exact ⟨0, vs, Nat.zero_le _, rfl, Lib.hid (by simpa [mvB] using HR.out)⟩
            case round =>
              clear HR vs
              obtain ⟨k, vs, hk, rfl, HR⟩ := hrel
              obtain ⟨Av, cv, rfl⟩ := HR.out.tm.bo.form
              by_cases hkm : k < ms.length
              · obtain ⟨bl, ol, rfl, hcl⟩ := HR.out.li.ints.at_ (by omega)
                have c1 := hcl k hkm
                have HMS := Lib.hid (mvB_step x hkm)
                have HGB := Lib.hid (HMEM2.out _ (gi_mem hkm))
                have HLA := Lib.hid (show (ac0 ++ mvB x (ms.take k)).length ≤ 6 by rw [List.length_append, mvB_len, List.length_take]; have := HA1.out; have := HLM.out; omega)
                clear hcl
                have HRT := Lib.hid HR.out.tm
                generalize gi ms k = z at *
                generalize hpart : mvB x (ms.take k) = part at *
                clear hpart
                generalize hacc : ac0 ++ part = acc at *
                have HACC := Lib.hid hacc
                clear hacc
                have hb3 := below_alloc wr (.cells #[.int .i64 x, .int .i64 z] 3)
                have hb4 := below_alloc (wr.alloc (.cells #[.int .i64 x, .int .i64 z] 3)) (.cells #[.slice (some ⟨wr.heap.size, 0, none⟩) 2 2] 36)
                have HB4 := Lib.hid ((HRT.out.bo.below hb3).below hb4).own
                have HN := Lib.hid (cell_one_new (wr.alloc (.cells #[.int .i64 x, .int .i64 z] 3)) (.slice (some ⟨wr.heap.size, 0, none⟩) 2 2) 36)
                have HPO := Lib.hid (pair_own (lo := wr.heap.size) (w := wr) x z (by omega) (by have := HGB.out; omega) (Nat.le_refl _))
                have hlh : w2.heap.size ≤ wr.heap.size := HRT.out.up.size
                clear hb3 hb4
                obtain ⟨i0, hi0, hz0, hz1, hz2⟩ := info_parts Try.info_row9
                go_wp2_with (at_builtin; refine wpList_append_own_at _ rfl _ _ 22 rfl w2.heap.size 36 i0 (.slice none 0 0) 1 24 Try.underlying22 hi0 hz0 hz1 hz2 rfl (by decide) _ (acc).length vs rfl HB4.out ⟨wr.heap.size + 1, 0, none⟩ 1 1 [.slice (some ⟨wr.heap.size, 0, none⟩) 2 2] rfl rfl ?c1 ?c2 ?c3 ?c4 ?c5 ?_)
                case c1 => have h := HN.out; rw [World.size_alloc] at h; exact h
                case c2 => intro u hu; simp at hu; subst hu; rfl
                case c3 => have := HLA.out; unfold maxLen; omega
                case c4 => have := HLA.out; omega
                case c5 => simp; omega
                intro v' w5 hown' hgrow _ hat
                have hgrow2 : ((wr.alloc (.cells #[.int .i64 x, .int .i64 z] 3)).alloc (.cells #[.slice (some ⟨wr.heap.size, 0, none⟩) 2 2] 36)).grownBy w5 (Value.slice Av (acc).length cv).ownBlock := hgrow
                have hat2 : v'.ownBlock = (Value.slice Av (acc).length cv).ownBlock ∨ v'.ownBlock = some ((wr.alloc (.cells #[.int .i64 x, .int .i64 z] 3)).heap.size + 1) := by simpa using hat
                have HR5 := Lib.hid (HR.out.push HPO.out hown' hgrow2 hat2)
                clear HB4 HN HPO hown' hgrow hat hgrow2 hat2 HLA
                clear HR HRT c1
                go_wp2
                go_roundw
                case rel => exact ⟨k + 1, _, by omega, by go_num, Lib.hid (by rw [HMS.out, ← List.append_assoc, HACC.out]; exact HR5.out)⟩
                case measure => simp [intOf]; omega
              · obtain rfl : k = ms.length := by omega
                have HE := Lib.hid (show ac0 ++ mvB x (ms.take ms.length) = repF xs ys x y by rw [HP.out, repL, HLS.out, HMSS.out, List.take_length, ← HAC0.out, List.take_length])
                have HNT := Lib.hid (NewT.from HT2.out.below (HR.out.tm.new (by rw [List.length_append, mvB_len, List.length_take]; have := HA1.out; have := HLM.out; omega)))
                clear HR
                go_wp2
                go_ret
                exact NewT.is HE.out HNT.out
      · have QI := Lib.hid (fun W => pb_true hi ▸ isBelow_any (p.n : Int) i W)
        have QJ := Lib.hid (fun W => pb_false hj ▸ isBelow_any (p.m : Int) j W)
        have HE := Lib.hid (show repF xs ys i j = [] by rw [HP.out, pb_false hj, Bool.and_false]; rfl)
        clear hi hj HP
        go_wp2_with fail
        refine (QI.out _).mono ?_
        rintro e w2 ⟨rfl, rfl⟩
        go_wp2_with fail
        refine (QJ.out _).mono ?_
        rintro e w2 ⟨rfl, rfl⟩
        go_wp2
        go_ret
        exact NewT.none HT.out.below HE.out
    · have QI := Lib.hid (fun W => pb_false hi ▸ isBelow_any (p.n : Int) i W)
      have HE := Lib.hid (show repF xs ys i j = [] by rw [HP.out, pb_false hi, Bool.false_and]; rfl)
      clear hi HP
      go_wp2_with fail
      refine (QI.out _).mono ?_
      rintro e w2 ⟨rfl, rfl⟩
      go_wp2
      go_ret
      exact NewT.none HT.out.below HE.out
  · have HZ := Lib.hid (show repF xs ys i j = [] by rw [repF, pb_false hv]; rfl)
    refine ((pb_false hv) ▸ HC.out).mono ?_
    rintro e w1 ⟨rfl, hb⟩
    have HB2 := Lib.hid (below_up HB.out hb)
    clear hb hv HC
    go_wp2
    go_ret
    exact NewT.none HB2.out HZ.out
end Go.Proofs.Ytjmfkodbilknlaa

/- A table spoiled now and then, beside the box of a game. -/
namespace Go.Proofs.Ytjmfkodbilknlaa
open Go.RowKit

theorem box_ne_box {w : World} {h g : Nat} {t u : TypeId} {cs ds : Array Value} (a : Blk w h t cs) (b : Blk w g u ds) (ne : t ≠ u) : h ≠ g := by
  rintro rfl
  unfold Blk at a b
  rw [a] at b
  injection b with b
  injection b with _ b _
  exact ne b
theorem box_ne_int {w : World} {h b o : Nat} {t : TypeId} {cs : Array Value} {k : IntKind} (a : Blk w h t cs) (hcs : ∀ (k : Nat) (v : Value), cs[k]? = some v → ∀ (kk : IntKind) (x : Int), v ≠ Value.int kk x) (hc : ∃ y, w.cell? ⟨b, o, none⟩ = some (.int k y)) : h ≠ b := by
  rintro rfl
  obtain ⟨y, hc⟩ := hc
  unfold Blk at a
  simp only [World.cell?, a] at hc
  exact hcs o _ hc k y rfl
theorem box_ne_own {w : World} {h base n : Nat} {t e : TypeId} {cs : Array Value} {v : Value} {xs : List Value} (a : Blk w h t cs) (own : w.ownsRow base e 1 v n xs) (ne : t ≠ e) : v.ownBlock ≠ some h := by
  rcases own.2 with ⟨rfl, _⟩ | ⟨g, cap, cur, rfl, _, hg, _⟩
  · simp [Value.ownBlock]
  · intro e1
    have : g = h := by simpa [Value.ownBlock] using e1
    subst this
    unfold Blk at a
    rw [a] at hg
    injection hg with hg
    injection hg with _ hg _
    exact ne hg
def SpoilH (w0 wb : World) (g : Nat) (A : Option Addr) (l c p h : Nat) (cs : Array Value) (e : Ending) (w' : World) : Prop :=
  ∃ v' vs' xss' p', e = .returned v' ∧ Small xss' ∧ TO w0 wb g A l c p' v' vs' xss' w' ∧ p' ≤ p + 2 ∧ Blk w' h 43 cs

set_option maxHeartbeats 1000000 in
theorem spoilH_any (w0 wb w : World) (h : Nat) (cs : Array Value) (g : Nat) (A : Option Addr) (l c p : Nat) (Av : Option Addr) (cv : Nat) (vs : List Value) (xss : List (List Int)) (ht : TO w0 wb g A l c p (.slice Av xss.length cv) vs xss w) (hp : p < 900000000) (hs : Small xss) (h7 : xss.length ≤ 7) (hbx : Blk w h 43 cs) (hcs : ∀ (k : Nat) (v : Value), cs[k]? = some v → ∀ (kk : IntKind) (x : Int), v ≠ Value.int kk x) :
    Calls Try.prog 83 #[.pointer (some ⟨g, 0, none⟩), .slice Av xss.length cv] w (SpoilH w0 wb g A l c p h cs) := by
  have HT := Lib.hid ht
  have HBX := Lib.hid hbx
  have HCS := Lib.hid hcs
  have HNE := Lib.hid (box_ne_box (h := h) (g := g) hbx ht.rd.box (by decide))
  have HC := Lib.hid (pick_any w0 w g A l c p 40 ht.rd (by omega))
  have HS := Lib.hid hs
  clear ht hs hbx hcs
  go_enter Try.func83, Try.ntmps83
  go_wp2_with fail
  refine HC.out.mono ?_
  rintro e w2 ⟨k, rfl, hk1, _, hr, z, hw⟩
  have hone := Rdr.one (g := g) w (.int .i64 (p + 1 : Nat)) z
  rw [← hw] at hone
  obtain ⟨k0, k1⟩ := hk1 (by omega)
  have HT2 := Lib.hid (HT.out.one hr hone)
  have HB2 := Lib.hid (show Blk w2 h 43 cs from (hone.block h HNE.out).trans HBX.out)
  clear hr hone hw hk1 HC HT HBX
  by_cases e0 : k = 0
  · subst e0
    by_cases hx0 : 0 < xss.length
    · obtain ⟨b0, c0, R0, cc0, ev, hb0, hv0, hcell0⟩ := HT2.out.bo.head hx0
      injection ev with ev1 _ ev3
      subst ev1
      subst ev3
      by_cases hx1 : 0 < (gr xss 0).length
      · obtain ⟨b, o, cc, ev, _⟩ := HT2.out.set0 hx0 hx1 (x := 10) (by omega)
        rw [hv0] at ev
        injection ev with ev
        injection ev with ev1 _ ev3
        subst ev1
        subst ev3
        have HTA := Lib.hid ((HT2.out.below (below_alloc w2 (.cells #[iv 10, iv (-10)] 3))).below ((Below.refl _ _).drew))
        have HBA := Lib.hid (show Blk (w2.alloc (.cells #[iv 10, iv (-10)] 3)).drew h 43 cs from blk_below HB2.out (below_alloc w2 (.cells #[iv 10, iv (-10)] 3)).drew)
        have HCA := Lib.hid ((HTA.out.bo.head_at hx0).trans hv0)
        have HIA := Lib.hid (Ints.two w2 10 (-10)).drew
        have hgl := HT2.out.gl
        have hgw := HT2.out.up.size
        go_wp2_with fail
        go_region_held3 (fun W => W.cell? ⟨b0, 0, none⟩ = some (.slice (some ⟨b, o, none⟩) (gr xss 0).length cc0)) (first | exact hcell0 | exact HCA.out | exact HCB.out | exact HCC.out)
          (first
          | (go_at_call 52; refine (one_any w0 _ g A l c (p + 1) _ 2 2 [10, -10] ?_ (by omega) ?_ (by omega) ?_).mono ?_; exact HTA.out.rd; exact HIA.out; (intro b' o' e'; injection e' with e'; injection e' with e1 _ _; omega); rintro e w4 ⟨x, rfl, hx, hr, ho⟩; have HT4 := Lib.hid (HTA.out.one hr ho); have HCB := Lib.hid ((HT4.out.bo.head_at hx0).trans hv0); have hx3 : -1000 ≤ x ∧ x ≤ 1000 := (by simp at hx; omega); obtain ⟨⟨y, hc5⟩, hf5, hT5⟩ := HT4.out.set0_at hx0 hx1 hv0 hx3; have HT5 := Lib.hid hT5; have HBD := Lib.hid (show Blk w4 h 43 cs from (ho.block h HNE.out).trans HBA.out); have HBE := Lib.hid (blk_other HBD.out (p := ⟨b, o, none⟩) (box_ne_int (k := .i64) HBD.out HCS.out ⟨_, hc5⟩) (.int .i64 x)); have HCC := Lib.hid ((HT5.out.bo.head_at (by rw [List.length_set]; exact hx0)).trans hv0); clear hr ho hT5 hx HTA HIA))
        go_wp2
        go_ret
        exact ⟨_, _, _, _, rfl, HS.out.set0 hx0 hx3, HT5.out, by omega, HBE.out⟩
      · go_wp2
        go_ret
        exact ⟨_, _, _, _, rfl, HS.out, HT2.out, by omega, HB2.out⟩
    · go_wp2
      go_ret
      exact ⟨_, _, _, _, rfl, HS.out, HT2.out, by omega, HB2.out⟩
  · by_cases e1 : k = 1
    · subst e1
      have HI := Lib.hid (HT2.out.lit 1)
      have HNO := Lib.hid (box_ne_own HB2.out HT2.out.bo.own (by decide))
      have HBF := Lib.hid (blk_below (blk_below HB2.out (below_alloc w2 (.cells #[iv 1] 3))) (below_alloc _ (.cells #[.slice (some ⟨w2.heap.size, 0, none⟩) 1 1] 36)))
      clear HT2
      have hWs : (w2.alloc (.cells #[iv 1] 3)).heap.size = w2.heap.size + 1 := by simp
      obtain ⟨Ar, nr, cr, gg, e, hn, ho, _⟩ := HI.out.bi.owns (by simp) (fun x hx => by simp at hx; omega)
      injection e with e1 e2 e3
      subst e1
      subst e2
      subst e3
      have HO := Lib.hid ho
      have hb := below_alloc (w2.alloc (.cells #[iv 1] 3)) (.cells #[.slice (some ⟨w2.heap.size, 0, none⟩) 1 1] 36)
      have HB4 := Lib.hid (HI.out.bo.below hb).own
      have HN := Lib.hid (cell_one_new (w2.alloc (.cells #[iv 1] 3)) (.slice (some ⟨w2.heap.size, 0, none⟩) 1 1) 36)
      have hHs := HI.out.hs
      have hlh := HI.out.lh
      clear hb ho hn
      obtain ⟨i0, hi0, hz0, hz1, hz2⟩ := info_parts Try.info_row
      go_wp2_with (at_builtin; refine wpList_append_own_at _ rfl _ _ 22 rfl wb.heap.size 36 i0 (.slice none 0 0) 1 24 Try.underlying22 hi0 hz0 hz1 hz2 rfl (by decide) _ xss.length vs rfl HB4.out ⟨w2.heap.size + 1, 0, none⟩ 1 1 [.slice (some ⟨w2.heap.size, 0, none⟩) 1 1] rfl rfl ?d1 ?d2 ?d3 ?d4 ?d5 ?_)
      case d1 => have := HN.out; rw [hWs] at this; exact this
      case d2 => intro u hu; simp at hu; subst hu; rfl
      case d3 => unfold maxLen; omega
      case d4 => omega
      case d5 => simp; omega
      intro v' w5 hown' hgrow _ hat
      have HT5 := Lib.hid (TI.done (w := w2.alloc (.cells #[iv 1] 3)) (ys := [1]) (xss := xss) (v := .slice Av xss.length cv) (v' := v') (vs := vs) (Ar := some ⟨w2.heap.size, 0, none⟩) (cr := 1) HI.out HO.out hown' hgrow (by simpa using hat))
      have HBG := Lib.hid (show Blk w5 h 43 cs from (hgrow.block h (blk_lt HBF.out) (fun e => HNO.out e.symm)).trans HBF.out)
      clear HB4 HN hown' hgrow hat HI HO
      go_wp2
      go_ret
      exact ⟨_, _, _, _, rfl, HS.out.snoc h7 (by omega), HT5.out, by omega, HBG.out⟩
    · by_cases e2 : k = 2
      · subst e2
        have HF := Lib.hid HT2.out.fresh
        have HBF := Lib.hid (blk_below HB2.out (below_alloc w2 (.cells #[] 36)))
        go_wp2
        go_ret
        exact ⟨_, _, _, _, rfl, Small.nil, HF.out, by omega, HBF.out⟩
      · go_wp2
        go_ret
        exact ⟨_, _, _, _, rfl, HS.out, HT2.out, by omega, HB2.out⟩
end Go.Proofs.Ytjmfkodbilknlaa

/- A game under way: both tables and the box. -/
namespace Go.Proofs.Ytjmfkodbilknlaa
open Go.RowKit

theorem add_at (b o i : Nat) : (⟨b, o, none⟩ : Addr).add i = ⟨b, o + i, none⟩ := by unfold Addr.add; split <;> simp_all
theorem OwnI.mono_lo {lo hi lo' w b A n c xs} (h : OwnI lo hi w b A n c xs) (k : lo' ≤ lo) : OwnI lo' hi w b A n c xs := h.mono k (Nat.le_refl _)
theorem ownsRow_lo {w : World} {base base' : Nat} {e : TypeId} {size n : Nat} {v : Value} {xs : List Value} (h : w.ownsRow base e size v n xs) (k : base' ≤ base) : w.ownsRow base' e size v n xs := by
  obtain ⟨h1, h2⟩ := h
  refine ⟨h1, ?_⟩
  rcases h2 with h2 | ⟨g, cap, cur, rfl, hb, r⟩
  · exact .inl h2
  · exact .inr ⟨g, cap, cur, rfl, Nat.le_trans k hb, r⟩
theorem Bld.mono_lo {lo hi lo' w v vs xss} (h : Bld lo hi w v vs xss) (k : lo' ≤ lo) : Bld lo' hi w v vs xss := by
  obtain ⟨h1, h4, G, R, C, h2, h3⟩ := h
  exact ⟨ownsRow_lo h1 k, h4, G, R, C, fun j hj => ⟨(h2 j hj).1, (h2 j hj).2.1.mono_lo k, (h2 j hj).2.2⟩, h3⟩

/-- A number of a table that append has made is set. -/
theorem Bld.set_at {lo hi w v vs xss} (h : Bld lo hi w v vs xss) {i j : Nat} (h0 : i < xss.length) (h1 : j < (gr xss i).length) {x : Int} (hx : -9223372036854775808 ≤ x ∧ x ≤ 9223372036854775807) :
    ∃ bo c b o cc, v = .slice (some ⟨bo, 0, none⟩) xss.length c ∧ w.cell? ⟨bo, i, none⟩ = some (.slice (some ⟨b, o, none⟩) (gr xss i).length cc) ∧ lo ≤ b ∧ b < hi ∧ (∃ y, w.cell? ⟨b, o + j, none⟩ = some (.int .i64 y)) ∧ w.frozen? ⟨b, o + j, none⟩ = false ∧
      Bld lo hi (w.setCell ⟨b, o + j, none⟩ (.int .i64 x)) v vs (xss.set i ((gr xss i).set j x)) := by
  obtain ⟨ho, h4, G, R, C, h2, h3⟩ := h
  obtain ⟨q0, q1, q2⟩ := h2 i h0
  obtain ⟨o, e, l1, l2, hf⟩ := q1.own (by omega)
  have q1' := q1
  rw [e] at q1' q0
  have hset := q1'.set h1 hx
  obtain ⟨b', o', e', hc⟩ := q1.ints.at_ (by omega)
  rw [e] at e'
  injection e' with e'
  injection e' with e1 e2 _
  have hc0 := hc j h1
  rw [← e1, ← e2] at hc0
  have hlen : ∀ k, (gr (xss.set i ((gr xss i).set j x)) k).length = (gr xss k).length := fun k => by
    by_cases e : k = i
    · subst e; rw [gr_set_eq h0, List.length_set]
    · rw [gr_set_ne e]
  have hv : ∃ bo c, v = .slice (some ⟨bo, 0, none⟩) xss.length c ∧ w.cell? ⟨bo, i, none⟩ = vs[i]? := by
    rcases ho.2 with ⟨_, h5⟩ | ⟨g, cap, cur, rfl, hb, _⟩
    · omega
    · have hcx := ho.cells (g := g) rfl i _ q0
      rw [add_at, Nat.zero_add] at hcx
      exact ⟨g, cap, rfl, by rw [q0]; exact hcx⟩
  obtain ⟨bo, c, ev, hcv⟩ := hv
  refine ⟨bo, c, G i, o, C i, ev, by rw [hcv, q0], l1, l2, ⟨_, hc0⟩, hf j h1, ⟨?_, h4, G, R, C, fun k hk => ?_, fun k l hkl hl hk0 hl0 => ?_⟩⟩
  · rw [List.length_set]
    exact blk_kept ho fun g hg => Below.heap_setCell _ _ _ _ (fun e => q2 (by omega) (by rw [hg, e]))
  · rw [List.length_set] at hk
    rw [hlen]
    obtain ⟨a, b, c⟩ := h2 k hk
    refine ⟨a, ?_, c⟩
    by_cases ek : k = i
    · subst ek
      rw [gr_set_eq h0, e]
      exact hset
    · rw [gr_set_ne ek]
      exact b.of_block fun hp => Below.heap_setCell _ _ _ _ (by
        show G k ≠ G i
        rcases Nat.lt_or_gt_of_ne ek with hl | hl
        · exact h3 k i hl h0 hp (by omega)
        · exact Ne.symm (h3 i k hl hk (by omega) hp))
  · rw [List.length_set] at hl
    rw [hlen] at hk0 hl0
    exact h3 k l hkl hl hk0 hl0
/-- .. and of a table of one's own. -/
theorem OwnR.set_at {lo hi w b A n c xss} (h : OwnR lo hi w b A n c xss) {i j : Nat} (h0 : i < n) (h1 : j < (gr xss i).length) {x : Int} (hx : -9223372036854775808 ≤ x ∧ x ≤ 9223372036854775807) :
    ∃ o g r cc, A = some ⟨b, o, none⟩ ∧ w.cell? ⟨b, o + i, none⟩ = some (.slice (some ⟨g, r, none⟩) (gr xss i).length cc) ∧ lo ≤ g ∧ g < hi ∧ (∃ y, w.cell? ⟨g, r + j, none⟩ = some (.int .i64 y)) ∧ w.frozen? ⟨g, r + j, none⟩ = false ∧
      OwnR lo hi (w.setCell ⟨g, r + j, none⟩ (.int .i64 x)) b A n c (xss.set i ((gr xss i).set j x)) := by
  obtain ⟨o, g, R, cc, e, c1, hI, hset⟩ := h.at_row h0
  obtain ⟨r, e2, l1, l2, hf⟩ := hI.own (by omega)
  subst e2
  obtain ⟨b', o', e', hc⟩ := hI.ints.at_ (by omega)
  injection e' with e'
  injection e' with e3 e4 _
  subst e3
  subst e4
  exact ⟨o, g, r, cc, e, c1, l1, l2, ⟨_, hc j h1⟩, hf j h1, (hset _ _ (by rw [List.length_set]) (hI.set h1 hx) (fun hz => absurd hz (by omega)) ((One.refl g w).set _ _)).1⟩

/-- Rows of as many numbers. -/
structure Shp (n m : Nat) (xss : List (List Int)) : Prop where
  len : xss.length = n
  row : ∀ k, k < n → (gr xss k).length = m
  sm : Small xss
theorem Shp.set {n m xss} (h : Shp n m xss) {i j : Nat} (hi : i < n) {x : Int} (hx : -1000 ≤ x ∧ x ≤ 1000) : Shp n m (xss.set i ((gr xss i).set j x)) := by
  have hl := h.len
  have hm := h.sm.rows _ (gr_mem (xs := xss) (k := i) (by omega))
  refine ⟨by rw [List.length_set]; exact hl, fun k hk => ?_, ⟨by rw [List.length_set]; exact h.sm.n, fun r hr => ?_⟩⟩
  · by_cases e : k = i
    · subst e; rw [gr_set_eq (by omega), List.length_set]; exact h.row k hk
    · rw [gr_set_ne e]; exact h.row k hk
  · rcases List.mem_or_eq_of_mem_set hr with hr | rfl
    · exact h.sm.rows r hr
    · refine ⟨by rw [List.length_set]; exact hm.1, fun y hy => ?_⟩
      rcases List.mem_or_eq_of_mem_set hy with hy | rfl
      · exact hm.2 y hy
      · exact hx

structure GO (w0 w3 : World) (mid g : Nat) (A : Option Addr) (l c p : Nat) (Aa : Option Addr) (na ca ga : Nat) (xa : List (List Int)) (v : Value) (vs : List Value) (xb : List (List Int)) (h : Nat) (w : World) : Prop where
  rd : Rdr w0 w g A l c p
  a : OwnR w3.heap.size mid w ga Aa na ca xa
  b : Bld mid w.heap.size w v vs xb
  gl : g < w3.heap.size
  lm : w3.heap.size ≤ mid
  mw : mid ≤ w.heap.size
  up : w3.grownBy w (some g)
  box : Blk w h 43 #[.slice Aa na ca, v]
theorem box_slices (Aa Bb : Option Addr) (na ca nb cb : Nat) : ∀ (k : Nat) (v : Value), (#[.slice Aa na ca, .slice Bb nb cb] : Array Value)[k]? = some v → ∀ (kk : IntKind) (x : Int), v ≠ Value.int kk x := by
  intro k v h kk x e
  subst e
  match k, h with
  | 0, h => simp at h
  | 1, h => simp at h
  | k + 2, h => simp at h
theorem GO.below {w0 w3 mid g A l c p Aa na ca ga xa v vs xb h w w'} (o : GO w0 w3 mid g A l c p Aa na ca ga xa v vs xb h w) (k : Below w.heap.size w w') : GO w0 w3 mid g A l c p Aa na ca ga xa v vs xb h w' :=
  ⟨o.rd.below_ k, o.a.below k, (o.b.below k).mono k.size, o.gl, o.lm, Nat.le_trans o.mw k.size, grown_below o.up k, blk_below o.box k⟩
theorem GO.one {w0 w3 mid g A l c p p' Aa na ca ga xa v vs xb h w w'} (o : GO w0 w3 mid g A l c p Aa na ca ga xa v vs xb h w) (hr : Rdr w0 w' g A l c p') (ho : One g w w') : GO w0 w3 mid g A l c p' Aa na ca ga xa v vs xb h w' := by
  have hgl := o.gl
  have hlm := o.lm
  have hne : h ≠ g := box_ne_box o.box o.rd.box (by decide)
  exact ⟨hr, o.a.of_blocks fun k h1 _ _ => ho.block k (by omega), by rw [ho.size]; exact o.b.of_blocks fun k h1 _ _ => ho.block k (by omega), o.gl, o.lm, by rw [ho.size]; exact o.mw,
    ⟨ho.os.trans o.up.os, ho.tape.trans o.up.tape, ho.output.trans o.up.output, by rw [ho.size]; exact o.up.size, fun k hk hne' => (ho.block k (fun e => hne' (by rw [e]))).trans (o.up.block k hk hne')⟩, (ho.block h hne).trans o.box⟩
/-- A cell from the third world on is set: what has its memory elsewhere stays. -/
theorem GO.setA {w0 w3 mid g A l c p Aa na ca ga xa Bb nb cb vs xb h w} (o : GO w0 w3 mid g A l c p Aa na ca ga xa (.slice Bb nb cb) vs xb h w) {i j : Nat} (h0 : i < na) (h1 : j < (gr xa i).length) {x : Int} (hx : -1000 ≤ x ∧ x ≤ 1000) :
    ∃ oo gg r cc, Aa = some ⟨ga, oo, none⟩ ∧ w.cell? ⟨ga, oo + i, none⟩ = some (.slice (some ⟨gg, r, none⟩) (gr xa i).length cc) ∧ (∃ y, w.cell? ⟨gg, r + j, none⟩ = some (.int .i64 y)) ∧ w.frozen? ⟨gg, r + j, none⟩ = false ∧
      GO w0 w3 mid g A l c p Aa na ca ga (xa.set i ((gr xa i).set j x)) (.slice Bb nb cb) vs xb h (w.setCell ⟨gg, r + j, none⟩ (.int .i64 x)) := by
  obtain ⟨oo, gg, r, cc, e, c1, l1, l2, hy, hf, hown⟩ := o.a.set_at h0 h1 (x := x) (by omega)
  have hgl := o.gl
  have hlm := o.lm
  have hs : (w.setCell ⟨gg, r + j, none⟩ (.int .i64 x)).heap.size = w.heap.size := by simp [World.setCell]
  have hne : h ≠ gg := box_ne_int (k := .i64) o.box (box_slices _ _ _ _ _ _) hy
  refine ⟨oo, gg, r, cc, e, c1, hy, hf, ⟨⟨blk_other o.rd.box (by show g ≠ gg; omega) _, o.rd.bytes, o.rd.below.setCell (by show w0.heap.size ≤ gg; have := o.rd.lt; omega) _, o.rd.lt, o.rd.small⟩, hown, by rw [hs]; exact o.b.of_blocks fun k h1 _ _ => Below.heap_setCell _ _ _ _ (by show k ≠ gg; omega), o.gl, o.lm, by rw [hs]; exact o.mw, ?_, blk_other o.box hne _⟩⟩
  exact ⟨o.up.os, o.up.tape, o.up.output, by rw [hs]; exact o.up.size, fun k hk hne => (Below.heap_setCell _ _ _ _ (by show k ≠ gg; omega)).trans (o.up.block k hk hne)⟩
theorem GO.setB {w0 w3 mid g A l c p Aa na ca ga xa Bb nb cb vs xb h w} (o : GO w0 w3 mid g A l c p Aa na ca ga xa (.slice Bb nb cb) vs xb h w) {i j : Nat} (h0 : i < xb.length) (h1 : j < (gr xb i).length) {x : Int} (hx : -1000 ≤ x ∧ x ≤ 1000) :
    ∃ bo gg r cc, Bb = some ⟨bo, 0, none⟩ ∧ w.cell? ⟨bo, i, none⟩ = some (.slice (some ⟨gg, r, none⟩) (gr xb i).length cc) ∧ (∃ y, w.cell? ⟨gg, r + j, none⟩ = some (.int .i64 y)) ∧ w.frozen? ⟨gg, r + j, none⟩ = false ∧
      GO w0 w3 mid g A l c p Aa na ca ga xa (.slice Bb nb cb) vs (xb.set i ((gr xb i).set j x)) h (w.setCell ⟨gg, r + j, none⟩ (.int .i64 x)) := by
  obtain ⟨bo, c', gg, r, cc, e, c1, l1, l2, hy, hf, hown⟩ := o.b.set_at h0 h1 (x := x) (by omega)
  have hgl := o.gl
  have hlm := o.lm
  have hs : (w.setCell ⟨gg, r + j, none⟩ (.int .i64 x)).heap.size = w.heap.size := by simp [World.setCell]
  have hne : h ≠ gg := box_ne_int (k := .i64) o.box (box_slices _ _ _ _ _ _) hy
  injection e with e1 _ _
  refine ⟨bo, gg, r, cc, e1, c1, hy, hf, ⟨⟨blk_other o.rd.box (by show g ≠ gg; omega) _, o.rd.bytes, o.rd.below.setCell (by show w0.heap.size ≤ gg; have := o.rd.lt; omega) _, o.rd.lt, o.rd.small⟩, o.a.of_blocks fun k _ h2 _ => Below.heap_setCell _ _ _ _ (by show k ≠ gg; omega), by rw [hs]; exact hown, o.gl, o.lm, by rw [hs]; exact o.mw, ?_, blk_other o.box hne _⟩⟩
  exact ⟨o.up.os, o.up.tape, o.up.output, by rw [hs]; exact o.up.size, fun k hk hne => (Below.heap_setCell _ _ _ _ (by show k ≠ gg; omega)).trans (o.up.block k hk hne)⟩
end Go.Proofs.Ytjmfkodbilknlaa

/- A game under way: the box is written; the second table is appended to. -/
namespace Go.Proofs.Ytjmfkodbilknlaa
open Go.RowKit

theorem Bld.set_box {lo hi w v vs xss} {h : Nat} {cs : Array Value} (b : Bld lo hi w v vs xss) (hb : Blk w h 43 cs) (hcs : ∀ (k : Nat) (v : Value), cs[k]? = some v → ∀ (kk : IntKind) (x : Int), v ≠ Value.int kk x) (i : Nat) (u : Value) :
    Bld lo hi (w.setCell ⟨h, i, none⟩ u) v vs xss := by
  have hno := box_ne_own hb b.own (by decide)
  obtain ⟨ho, h4, G, R, C, h2, h3⟩ := b
  refine ⟨blk_kept ho fun g hg => Below.heap_setCell _ _ _ _ (fun e => hno (by rw [hg, e])), h4, G, R, C, fun k hk => ⟨(h2 k hk).1, (h2 k hk).2.1.of_block fun hp => Below.heap_setCell _ _ _ _ ?_, (h2 k hk).2.2⟩, h3⟩
  show G k ≠ h
  obtain ⟨o, e, _, _, _⟩ := (h2 k hk).2.1.own hp
  obtain ⟨b', o', e', hc⟩ := (h2 k hk).2.1.ints.at_ hp
  rw [e] at e'
  injection e' with e'
  injection e' with e1 _ _
  rw [e1]
  exact Ne.symm (box_ne_int (k := .i64) hb hcs ⟨_, hc 0 hp⟩)

/-- The box's second cell is written. -/
theorem GO.rebox {w0 w3 mid g A l c p Aa na ca ga xa Bb nb cb vs xb h w Nb nn cn vs' xb'} (o : GO w0 w3 mid g A l c p Aa na ca ga xa (.slice Bb nb cb) vs xb h w) (hmh : mid ≤ h) (hb : Bld mid w.heap.size w (.slice Nb nn cn) vs' xb') :
    GO w0 w3 mid g A l c p Aa na ca ga xa (.slice Nb nn cn) vs' xb' h (w.setCell ⟨h, 1, none⟩ (.slice Nb nn cn)) := by
  have hgl := o.gl
  have hlm := o.lm
  have hs : (w.setCell ⟨h, 1, none⟩ (.slice Nb nn cn)).heap.size = w.heap.size := by simp [World.setCell]
  refine ⟨⟨blk_other o.rd.box (by show g ≠ h; omega) _, o.rd.bytes, o.rd.below.setCell (by show w0.heap.size ≤ h; have := o.rd.lt; omega) _, o.rd.lt, o.rd.small⟩, o.a.of_blocks fun k _ h2 _ => Below.heap_setCell _ _ _ _ (by show k ≠ h; omega), by rw [hs]; exact hb.set_box o.box (box_slices _ _ _ _ _ _) 1 _, o.gl, o.lm, by rw [hs]; exact o.mw, ?_, blk_set o.box 1 _⟩
  exact ⟨o.up.os, o.up.tape, o.up.output, by rw [hs]; exact o.up.size, fun k hk hne => (Below.heap_setCell _ _ _ _ (by show k ≠ h; omega)).trans (o.up.block k hk hne)⟩

def cutW (w : World) (m : Nat) : World := { w with heap := w.heap.extract 0 m }
theorem cutW_size {w : World} {m : Nat} (h : m ≤ w.heap.size) : (cutW w m).heap.size = m := by simp [cutW]; omega
theorem cutW_block {w : World} {m k : Nat} (hm : m ≤ w.heap.size) (h : k < m) : (cutW w m).heap[k]? = w.heap[k]? := by
  simp only [cutW]
  rw [Array.getElem?_extract]
  simp
  omega
theorem GO.to {w0 w3 mid g A l c p Aa na ca ga xa v vs xb h w} (o : GO w0 w3 mid g A l c p Aa na ca ga xa v vs xb h w) : TO w0 (cutW w mid) g A l c p v vs xb w := by
  have hgl := o.gl
  have hlm := o.lm
  have hs := cutW_size o.mw
  refine ⟨o.rd, by rw [hs]; exact o.b, by rw [hs]; omega, ⟨rfl, rfl, rfl, by rw [hs]; exact o.mw, fun k hk _ => ?_⟩⟩
  rw [hs] at hk
  exact (cutW_block o.mw hk).symm
/-- What lies below mid is as it was. -/
theorem grown_cut {w w' : World} {mid g k : Nat} (u : (cutW w mid).grownBy w' (some g)) (hm : mid ≤ w.heap.size) (hk : k < mid) (hne : k ≠ g) : w'.heap[k]? = w.heap[k]? := by
  have := u.block k (by rw [cutW_size hm]; exact hk) (fun e => hne (by injection e))
  rw [this, cutW_block hm hk]
theorem Bld.small_rows {lo hi w v vs xss} (b : Bld lo hi w v vs xss) (s : Small xss) : ∃ A n c, v = .slice A n c ∧ IntRows w A n c xss := by
  obtain ⟨A, n, c, g, e, _, ho⟩ := b.owns (by have := s.n; omega)
  exact ⟨A, n, c, e, ho.rows⟩

/-- A game drawn: its tables are of small numbers, in memory of their own behind st. -/
def GameOut (w0 : World) (st g : Nat) (A : Option Addr) (l c p : Nat) (e : Ending) (w' : World) : Prop :=
  ∃ Aa na ca ga ha xa Ab nb cb gb hb xb lo p', e = .returned (.agg #[.slice Aa na ca, .slice Ab nb cb]) ∧ Small xa ∧ Small xb ∧ st < lo ∧ OwnR lo ha w' ga Aa na ca xa ∧ OwnR lo hb w' gb Ab nb cb xb ∧ Rdr w0 w' g A l c p' ∧ p' ≤ p + 100
/-- At the end: the box's cells go to the result's. -/
theorem game_done {w0 w3 mid g A l c p p0 Aa na ca ga xa w r} {v : Value} {vs : List Value} {xb : List (List Int)} {Ab : Option Addr} {nb cb : Nat} (rd : Rdr w0 w g A l c p) (a : OwnR w3 mid w ga Aa na ca xa) (b : Bld mid w.heap.size w (.slice Ab nb cb) vs xb)
    (sa : Small xa) (sb : Small xb) (hr : r < w3) (hlm : w3 ≤ mid) (hg : g ≠ r) (hw : w0.heap.size ≤ r) (hp : p ≤ p0 + 100) (x y : Value) (hv : v = .agg #[.slice Aa na ca, .slice Ab nb cb]) :
    GameOut w0 r g A l c p0 (.returned v) ((w.setCell ⟨r, 0, none⟩ x).setCell ⟨r, 1, none⟩ y) := by
  have hs : ((w.setCell ⟨r, 0, none⟩ x).setCell ⟨r, 1, none⟩ y).heap.size = w.heap.size := by simp [World.setCell]
  have hk : ∀ k, k ≠ r → ((w.setCell ⟨r, 0, none⟩ x).setCell ⟨r, 1, none⟩ y).heap[k]? = w.heap[k]? := fun k hne => (Below.heap_setCell _ _ _ _ hne).trans (Below.heap_setCell _ _ _ _ hne)
  have hbb := b.of_blocks (w' := (w.setCell ⟨r, 0, none⟩ x).setCell ⟨r, 1, none⟩ y) fun k h1 _ _ => hk k (by omega)
  obtain ⟨A', n', c', gb, e, _, hown⟩ := hbb.owns (by have := sb.n; omega)
  injection e with e1 e2 e3
  subst e1
  subst e2
  subst e3
  exact ⟨Aa, na, ca, ga, mid, xa, Ab, nb, cb, gb, w.heap.size, xb, w3, p, by rw [hv], sa, sb, hr, a.of_blocks fun k h1 _ _ => hk k (by omega), hown.mono hlm (Nat.le_refl _), ⟨blk_other (blk_other rd.box (p := ⟨r, 0, none⟩) hg _) (p := ⟨r, 1, none⟩) hg _, rd.bytes, (rd.below.setCell (p := ⟨r, 0, none⟩) hw _).setCell (p := ⟨r, 1, none⟩) hw _, rd.lt, rd.small⟩, hp⟩
end Go.Proofs.Ytjmfkodbilknlaa

/- A game drawn. -/
namespace Go.Proofs.Ytjmfkodbilknlaa
open Go.RowKit

set_option maxRecDepth 100000 in
set_option maxHeartbeats 3200000 in
theorem someGame_any (w0 w : World) (g : Nat) (A : Option Addr) (l c p : Nat) (hrd : Rdr w0 w g A l c p) (hp : p < 700000000) :
    Calls Try.prog 61 #[.pointer (some ⟨g, 0, none⟩)] w (GameOut w0 w.heap.size g A l c p) := by
  obtain ⟨i0, hi0, hz0, hz1, hz2⟩ := info_parts Try.info_row
  have HR := Lib.hid (hrd.below_ (below_alloc w (.cells #[.slice none 0 0, .slice none 0 0] 43)))
  have HB0 := Lib.hid (blk_new w 43 #[.slice none 0 0, .slice none 0 0])
  have HNE := Lib.hid (show g ≠ w.heap.size from by have := blk_lt hrd.box; omega)
  have HW0 := Lib.hid hrd.below.size
  have HI1 : Hid (Ints ((w.alloc (.cells #[.slice none 0 0, .slice none 0 0] 43)).alloc (.cells #[iv 2, iv 3, iv 2, iv 1] 3)) (some ⟨w.heap.size + 1, 0, none⟩) 4 4 [2, 3, 2, 1]) := Lib.hid (by
    have h := Ints.lit (w.alloc (.cells #[.slice none 0 0, .slice none 0 0] 43)) [2, 3, 2, 1] (by decide) (by decide)
    rw [World.size_alloc] at h
    exact h)
  clear hrd
  go_enter Try.func61, Try.ntmps61
  go_wp2_with fail
  have HZ0 : Hid (w.heap.size < (w.alloc (.cells #[.slice none 0 0, .slice none 0 0] 43)).heap.size) := Lib.hid (by simp)
  have HZ1 : Hid ((w.alloc (.cells #[.slice none 0 0, .slice none 0 0] 43)).heap.size ≤ w.heap.size + 1) := Lib.hid (by simp)
  generalize hr0 : w.heap.size = r0 at *
  have HR0 := Lib.hid hr0
  clear hr0
  generalize w.alloc (.cells #[.slice none 0 0, .slice none 0 0] 43) = W0 at *
  have H1 := Lib.hid (one_lit w0 W0 _ g A l c p (r0 + 1) 4 [2, 3, 2, 1] HR.out (by omega) (below_alloc W0 (.cells #[iv 2, iv 3, iv 2, iv 1] 3)) HZ1.out HI1.out (by omega))
  refine H1.out.mono ?_
  rintro e w1 ⟨n, rfl, hx, hr, hgr⟩
  have hn1 : 1 ≤ n ∧ n ≤ 3 := by simp at hx; omega
  have HG1 := Lib.hid hgr
  have H2 := Lib.hid (one_lit w0 w1 _ g A l c (p + 1) w1.heap.size 4 [2, 3, 2, 1] hr (by omega) (below_alloc w1 (.cells #[iv 2, iv 3, iv 2, iv 1] 3)) (Nat.le_refl _) (Ints.lit w1 [2, 3, 2, 1] (by decide) (by decide)) (by omega))
  clear hx hr hgr H1 HR HI1
  go_wp2_with fail
  refine H2.out.mono ?_
  rintro e w2 ⟨m, rfl, hx, hr, hgr⟩
  have hm1 : 1 ≤ m ∧ m ≤ 3 := by simp at hx; omega
  have HG2 := Lib.hid (grown_trans HG1.out hgr)
  have H3 := Lib.hid (one_lit w0 w2 _ g A l c (p + 2) w2.heap.size 3 [3, 1, 9] hr (by omega) (below_alloc w2 (.cells #[iv 3, iv 1, iv 9] 3)) (Nat.le_refl _) (Ints.lit w2 [3, 1, 9] (by decide) (by decide)) (by omega))
  clear hx hr hgr H2 HG1
  go_wp2_with fail
  refine H3.out.mono ?_
  rintro e w3 ⟨x, rfl, hx, hr, hgr⟩
  have hx1 : 1 ≤ x ∧ x ≤ 9 := by simp at hx; omega
  have HG3 := Lib.hid (grown_trans HG2.out hgr)
  obtain ⟨n, rfl⟩ := Int.eq_ofNat_of_zero_le (show 0 ≤ n by omega)
  obtain ⟨m, rfl⟩ := Int.eq_ofNat_of_zero_le (show 0 ≤ m by omega)
  obtain ⟨hn1, hn3⟩ := hn1
  obtain ⟨hm1, hm3⟩ := hm1
  have HRS := Lib.hid (show r0 < w3.heap.size by have := HG3.out.size; have := HZ0.out; omega)
  have HRB := Lib.hid (show Blk w3 r0 43 #[.slice none 0 0, .slice none 0 0] from (HG3.out.block r0 HZ0.out (fun e => HNE.out (by injection e with e; exact e.symm))).trans HB0.out)
  have H4 := Lib.hid (tableOf_any w0 w3 g A l c (p + 3) n m (-x) x hr (by omega) (by omega) (by omega) (by omega) (by omega) (by omega))
  clear hx hr hgr H3 HG2 HG3 HB0 HZ0 HZ1
  go_wp2_with fail
  refine H4.out.mono ?_
  rintro e w4 ⟨Av, cv, vsa, xa, p4, rfl, hla, hxa, hto, hp4⟩
  have HSA := Lib.hid (show Shp n m xa from ⟨hla, fun k hk => (hxa _ (gr_mem (by omega))).1, ⟨by omega, fun r hr => ⟨by have := (hxa r hr).1; omega, fun y hy => by have := (hxa r hr).2 y hy; omega⟩⟩⟩)
  obtain ⟨A', n', c', ga, e, -, hown⟩ := hto.bo.owns (by omega)
  injection e with e1 e2 e3
  subst e1
  subst e2
  subst e3
  have HOA := Lib.hid hown
  have HTA := Lib.hid hto
  have H5 := Lib.hid (tableOf_any w0 w4 g A l c p4 n m (-x) x hto.rd (by omega) (by omega) (by omega) (by omega) (by omega) (by omega))
  clear hxa hto hown H4 hla
  go_wp2_with fail
  refine H5.out.mono ?_
  rintro e w5 ⟨Bv, bv, vsb, xb, p5, rfl, hlb, hxb, hto, hp5⟩
  have HSB := Lib.hid (show Shp n m xb from ⟨hlb, fun k hk => (hxb _ (gr_mem (by omega))).1, ⟨by omega, fun r hr => ⟨by have := (hxb r hr).1; omega, fun y hy => by have := (hxb r hr).2 y hy; omega⟩⟩⟩)
  have HMH := Lib.hid hto.up.size
  have HGO : Hid (GO w0 w3 w4.heap.size g A l c p5 Av n cv ga xa (.slice Bv n bv) vsb xb w5.heap.size (w5.alloc (.cells #[.slice Av n cv, .slice Bv n bv] 43))) := Lib.hid (by
    have hgl := HTA.out.gl
    have hlm := HTA.out.up.size
    have hb := below_alloc w5 (.cells #[.slice Av n cv, .slice Bv n bv] 43)
    exact ⟨hto.rd.below_ hb, (HOA.out.of_blocks fun k h1 _ h3 => hto.up.block k h3 (fun e => by injection e with e; omega)).below hb, (hto.bo.below hb).mono hb.size, hgl, hlm, Nat.le_trans hto.up.size hb.size, grown_below (grown_trans HTA.out.up hto.up) hb, blk_new _ _ _⟩)
  clear hxb hto H5 HTA HOA hlb
  go_wp2_with fail
  generalize w5.alloc (.cells #[.slice Av n cv, .slice Bv n bv] 43) = W6 at *
  generalize w5.heap.size = h at *
  generalize hmid : w4.heap.size = mid at *
  clear hmid
  have hmh : mid ≤ h := HMH.out
  have HC := Lib.hid (pick_any w0 W6 g A l c p5 6 HGO.out.rd (by omega))
  refine HC.out.mono ?_
  rintro e w7 ⟨k, rfl, hk1, _, hr, z, hw⟩
  have hone := Rdr.one (g := g) W6 (.int .i64 (p5 + 1 : Nat)) z
  rw [← hw] at hone
  obtain ⟨k0, k1⟩ := hk1 (by omega)
  have HG7 := Lib.hid (HGO.out.one hr hone)
  clear hr hone hw hk1 HC HGO HMH
  by_cases ek0 : k = 0
  · subst ek0
    have c0 := blk_cell HG7.out.box (i := 0) (v := .slice Av n cv) rfl
    have HC := Lib.hid (negatedB_any Av n cv xa w7 HG7.out.a.rows HSA.out.sm)
    go_wp2_with fail
    refine HC.out.mono ?_
    rintro e w8 ⟨Nv, cn, vsn, rfl, hbld, hb⟩
    have HG8 := Lib.hid ((HG7.out.below hb).rebox hmh (hbld.mono_lo HG7.out.mw))
    have HSN := Lib.hid HSA.out.sm.mtab
    have HNL : Hid ((mtab xa xa.length).length ≤ 3) := Lib.hid (by rw [mtab_len, HSA.out.len]; omega)
    have HOX := Lib.hid (HG7.out.below hb).box
    have c1 := blk_cell HOX.out (i := 1) (v := .slice Bv n bv) rfl
    have f1 := blk_frozen HOX.out 1
    clear hbld hb HC HG7 c0 HSB HOX
    generalize mtab xa xa.length = ys at *
    generalize hN : ys.length = N at *
    have HBL := Lib.hid hN
    clear hN
    go_wp2_with fail
    clear c1 f1
    generalize hW : w8.setCell ⟨h, 1, none⟩ (.slice Nv N cn) = WT at *
    clear hW
    have HT := HG8
    have HSMA := Lib.hid HSA.out.sm
    have HSMB := HSN
    have hl7 : N ≤ 3 := HNL.out
    clear HG8 HSA HSN HNL
    have HC := Lib.hid (pick_any w0 WT g A l c (p5 + 1) 40 HT.out.rd (by omega))
    go_wp2_with fail
    refine HC.out.mono ?_
    rintro e x1 ⟨kk, rfl, hk1, _, hr, z, hw⟩
    have hone := Rdr.one (g := g) WT (.int .i64 (p5 + 1 + 1 : Nat)) z
    rw [← hw] at hone
    obtain ⟨kk0, kk1⟩ := hk1 (by omega)
    have HT2 := Lib.hid (HT.out.one hr hone)
    have HRX := Lib.hid (show Blk x1 r0 43 #[.slice none 0 0, .slice none 0 0] from (HT2.out.up.block r0 HRS.out (fun e => HNE.out (by injection e with e; exact e.symm))).trans HRB.out)
    clear hr hone hw hk1 HC HT HRB
    by_cases e0 : kk = 0
    · subst e0
      have HTO := Lib.hid HT2.out.to
      have HI := Lib.hid (HTO.out.lit 0)
      have hWs : (x1.alloc (.cells #[iv 0] 3)).heap.size = x1.heap.size + 1 := by simp
      obtain ⟨Ar, nr, cr, gg, e, hn, ho, _⟩ := HI.out.bi.owns (by simp) (fun x hx => by simp at hx; omega)
      injection e with e1 e2 e3
      subst e1
      subst e2
      subst e3
      have HO := Lib.hid ho
      have hb := below_alloc (x1.alloc (.cells #[iv 0] 3)) (.cells #[.slice (some ⟨x1.heap.size, 0, none⟩) 1 1] 36)
      have HB4 := Lib.hid (HI.out.bo.below hb).own
      have HN := Lib.hid (cell_one_new (x1.alloc (.cells #[iv 0] 3)) (.slice (some ⟨x1.heap.size, 0, none⟩) 1 1) 36)
      have HNO := Lib.hid (box_ne_own HT2.out.box HTO.out.bo.own (by decide))
      have HBF := Lib.hid (blk_below (blk_below HT2.out.box (below_alloc x1 (.cells #[iv 0] 3))) (below_alloc _ (.cells #[.slice (some ⟨x1.heap.size, 0, none⟩) 1 1] 36)))
      have hHs := HI.out.hs
      have hlh := HI.out.lh
      have c1 := blk_cell HT2.out.box (i := 1) (v := .slice Nv N cn) rfl
      have HLB : Hid (ys.length = N) := Lib.hid HBL.out
      rw [HLB.out] at HB4
      clear hb ho hn
      go_wp2_with (at_builtin; refine wpList_append_own_at _ rfl _ _ 22 rfl (cutW x1 mid).heap.size 36 i0 (.slice none 0 0) 1 24 Try.underlying22 hi0 hz0 hz1 hz2 rfl (by decide) _ (N) vsn rfl HB4.out ⟨x1.heap.size + 1, 0, none⟩ 1 1 [.slice (some ⟨x1.heap.size, 0, none⟩) 1 1] rfl rfl ?d1 ?d2 ?d3 ?d4 ?d5 ?_)
      case d1 => have := HN.out; rw [hWs] at this; exact this
      case d2 => intro u hu; simp at hu; subst hu; rfl
      case d3 => unfold maxLen; omega
      case d4 => omega
      case d5 => simp; omega
      intro v' x2 hown' hgrow _ hat
      rw [← HLB.out] at hown'
      have HT5 := Lib.hid (TI.done (w := x1.alloc (.cells #[iv 0] 3)) (ys := [0]) (xss := ys) (v' := v') (vs := vsn) (Ar := some ⟨x1.heap.size, 0, none⟩) (cr := 1) HI.out HO.out hown' hgrow (by simpa using hat))
      have HBG := Lib.hid (show Blk x2 h 43 #[.slice Av n cv, .slice Nv (N) cn] from (hgrow.block h (blk_lt HBF.out) (fun e => HNO.out e.symm)).trans HBF.out)
      clear HB4 HN hown' hgrow hat HI HO HBF HNO HTO c1
      obtain ⟨Av2, cv2, rfl⟩ := HT5.out.bo.form
      have HS4 := Lib.hid (HSMB.out.snoc (x := 0) (by rw [HLB.out]; omega) (by omega))
      have hl8 : (ys ++ [[0]]).length ≤ 7 := by rw [List.length_append, HLB.out]; simp; omega
      generalize ys ++ [[0]] = zs at *
      have HSP := Lib.hid (spoilH_any w0 (cutW x1 mid) x2 h _ g A l c (p5 + 1 + 1) Av2 cv2 _ zs HT5.out (by omega) HS4.out hl8 HBG.out (box_slices _ _ _ _ _ _))
      clear HT5 HBG HS4
      go_wp2_with fail
      refine HSP.out.mono ?_
      rintro e x3 ⟨vv, vs3, xs3, p3, rfl, hsm3, hto3, hp3, hbx3⟩
      obtain ⟨Ab, nb, cb, gb, ev, -, hob⟩ := hto3.bo.owns (by have := hsm3.n; omega)
      subst ev
      have HSM3 := Lib.hid hsm3
      have HTO3 := Lib.hid hto3
      have HBX3 := Lib.hid hbx3
      have HMW := Lib.hid HT2.out.mw
      have HKE := Lib.hid (fun k (hk : k < mid) (hne : k ≠ g) => grown_cut hto3.up HT2.out.mw hk hne)
      have HA3 := Lib.hid (HT2.out.a.of_blocks (w' := x3) fun k h1 h2 _ => HKE.out k h2 (by have := HT2.out.gl; omega))
      have HR3 := Lib.hid (show Blk x3 r0 43 #[.slice none 0 0, .slice none 0 0] from (HKE.out r0 (by have := HRS.out; have := HT2.out.lm; omega) (Ne.symm HNE.out)).trans HRX.out)
      have HLM := Lib.hid HT2.out.lm
      clear hsm3 hto3 hbx3 hob HSP HT2 HRX
      have hneh : r0 ≠ h := by have := HRS.out; have := HLM.out; omega
      have c1 := blk_cell HBX3.out (i := 1) (v := .slice Nv (N) cn) rfl
      have f1 := blk_frozen HBX3.out 1
      have c0 := blk_cell HBX3.out (i := 0) (v := .slice Av n cv) rfl
      have d0 := blk_cell HR3.out (i := 0) (v := .slice none 0 0) rfl
      have d1 := blk_cell HR3.out (i := 1) (v := .slice none 0 0) rfl
      have g0 := blk_frozen HR3.out 0
      have g1 := blk_frozen HR3.out 1
      go_wp2
      clear c1 f1 c0 d0 d1 g0 g1
      have HBB := Lib.hid ((HTO3.out.bo.mono_lo (lo' := mid) (by rw [cutW_size HMW.out]; exact Nat.le_refl _)).set_box HBX3.out (box_slices _ _ _ _ _ _) 1 (.slice Ab nb cb))
      have hs1 : (x3.setCell ⟨h, 1, none⟩ (.slice Ab nb cb)).heap.size = x3.heap.size := by simp [World.setCell]
      have HAA := Lib.hid (HA3.out.of_blocks (w' := x3.setCell ⟨h, 1, none⟩ (.slice Ab nb cb)) fun k _ h2 _ => Below.heap_setCell _ _ _ _ (by show k ≠ h; omega))
      have HNH := Lib.hid (box_ne_box HBX3.out HTO3.out.rd.box (by decide))
      have HRR := Lib.hid (show Rdr w0 (x3.setCell ⟨h, 1, none⟩ (.slice Ab nb cb)) g A l c p3 from ⟨blk_other HTO3.out.rd.box (Ne.symm HNH.out) _, HTO3.out.rd.bytes, HTO3.out.rd.below.setCell (by show w0.heap.size ≤ h; have := HTO3.out.rd.lt; have := HTO3.out.gl; rw [cutW_size HMW.out] at this; omega) _, HTO3.out.rd.lt, HTO3.out.rd.small⟩)
      have HRZ := Lib.hid (blk_other HR3.out (p := ⟨h, 1, none⟩) hneh (.slice Ab nb cb))
      rw [← hs1] at HBB
      clear hs1 HA3 HTO3 HBX3 HR3
      have B1 := blk_set (blk_set HRZ.out 0 (.slice Av n cv)) 1 (.slice Ab nb cb)
      have q0 := blk_cell B1 (i := 0) (v := .slice Av n cv) rfl
      have q1 := blk_cell B1 (i := 1) (v := .slice Ab nb cb) rfl
      clear B1 HRZ
      generalize x3.setCell ⟨h, 1, none⟩ (.slice Ab nb cb) = X3 at *
      have HFIN := Lib.hid (game_done (w3 := w3.heap.size) (p0 := p) (x := .slice Av n cv) (y := .slice Ab nb cb) HRR.out HAA.out HBB.out HSMA.out HSM3.out HRS.out HLM.out HNE.out HW0.out (by omega) rfl)
      refine bodyPost_ret (v := .agg #[.slice Av n cv, .slice Ab nb cb]) (by simp [results, Try.results61, go_sem, q0, q1]) rfl ?_
      exact HFIN.out
    · have c0 := blk_cell HT2.out.box (i := 0) (v := .slice Av n cv) rfl
      have c1 := blk_cell HT2.out.box (i := 1) (v := .slice Nv (N) cn) rfl
      have d0 := blk_cell HRX.out (i := 0) (v := .slice none 0 0) rfl
      have d1 := blk_cell HRX.out (i := 1) (v := .slice none 0 0) rfl
      have g0 := blk_frozen HRX.out 0
      have g1 := blk_frozen HRX.out 1
      go_wp2
      clear c0 c1 d0 d1 g0 g1
      have B1 := blk_set (blk_set HRX.out 0 (.slice Av n cv)) 1 (.slice Nv (N) cn)
      have q0 := blk_cell B1 (i := 0) (v := .slice Av n cv) rfl
      have q1 := blk_cell B1 (i := 1) (v := .slice Nv (N) cn) rfl
      clear B1
      have HFIN := Lib.hid (game_done (w3 := w3.heap.size) (p0 := p) (x := .slice Av n cv) (y := .slice Nv (N) cn) HT2.out.rd HT2.out.a HT2.out.b HSMA.out HSMB.out HRS.out HT2.out.lm HNE.out HW0.out (by omega) rfl)
      refine bodyPost_ret (v := .agg #[.slice Av n cv, .slice Nv (N) cn]) (by simp [results, Try.results61, go_sem, q0, q1]) rfl ?_
      exact HFIN.out
  · by_cases ek1 : k = 1
    · subst ek1
      go_wp2
      go_loopw [7] (fun i wr => ∃ (ii q : Nat) (ya yb : List (List Int)), ii ≤ n ∧ i = .int .i64 ii ∧ q ≤ p5 + 1 + 3 * ii ∧ Hid (Shp n m ya) ∧ Hid (Shp n m yb) ∧ Hid (GO w0 w3 mid g A l c q Av n cv ga ya (.slice Bv n bv) vsb yb h wr)) (fun i _ => n - (intOf i).toNat)
      case atStart => exact ⟨0, p5 + 1, xa, xb, Nat.zero_le _, rfl, by omega, HSA, HSB, HG7⟩
      case round =>
        clear HG7 HSA HSB
        obtain ⟨ii, q, ya, yb, hii, rfl, hq, HSA, HSB, HG7⟩ := hrel
        by_cases hlt : ii < n
        · go_wp2
          go_loopw [8] (fun j wi => ∃ (jj q' : Nat) (za zb : List (List Int)), jj ≤ m ∧ j = .int .i64 jj ∧ q' ≤ p5 + 1 + 3 * ii + jj ∧ Hid (Shp n m za) ∧ Hid (Shp n m zb) ∧ Hid (GO w0 w3 mid g A l c q' Av n cv ga za (.slice Bv n bv) vsb zb h wi)) (fun j _ => m - (intOf j).toNat)
          case atStart => exact ⟨0, q, ya, yb, Nat.zero_le _, rfl, by omega, HSA, HSB, HG7⟩
          case round =>
            clear HG7 HSA HSB
            obtain ⟨jj, q', za, zb, hjj, rfl, hq', HSA, HSB, HG7⟩ := hrel
            by_cases hlj : jj < m
            · have HC := Lib.hid (pick_any w0 wr g A l c q' 5 HG7.out.rd (by omega))
              go_wp2_with fail
              refine HC.out.mono ?_
              rintro e w8 ⟨kk, rfl, hk1, _, hr, z, hw⟩
              have hone := Rdr.one (g := g) wr (.int .i64 (q' + 1 : Nat)) z
              rw [← hw] at hone
              obtain ⟨kk0, kk1⟩ := hk1 (by omega)
              have HG8 := Lib.hid (HG7.out.one hr hone)
              clear hr hone hw hk1 HC HG7
              have HRA := Lib.hid (HSA.out.row ii hlt)
              have HRBm := Lib.hid (HSB.out.row ii hlt)
              obtain ⟨oo, gg, r, cc, e, c1, ⟨y, hy⟩, hf, hset⟩ := HG8.out.setA (i := ii) (j := jj) (x := kk - 2 + (jj : Int)) hlt (by rw [HRA.out]; exact hlj) (by omega)
              subst e
              rw [HRA.out] at c1
              have c0 := blk_cell HG8.out.box (i := 0) (v := .slice (some ⟨ga, oo, none⟩) n cv) rfl
              have HG9 := Lib.hid hset
              have HSA2 := Lib.hid (HSA.out.set (i := ii) (j := jj) (x := kk - 2 + (jj : Int)) hlt (by omega))
              clear hset HG8
              have d0 := blk_cell HG9.out.box (i := 1) (v := .slice Bv n bv) rfl
              obtain ⟨bo, gg2, r2, cc2, e, c2, ⟨y2, hy2⟩, hf2, hset2⟩ := HG9.out.setB (i := ii) (j := jj) (x := kk - 2 - (ii : Int)) (by rw [HSB.out.len]; exact hlt) (by rw [HRBm.out]; exact hlj) (by omega)
              subst e
              rw [HRBm.out] at c2
              have HG10 := Lib.hid hset2
              have HSB2 := Lib.hid (HSB.out.set (i := ii) (j := jj) (x := kk - 2 - (ii : Int)) hlt (by omega))
              clear hset2 HG9
              go_wp2
              go_roundw
              case rel => exact ⟨jj + 1, q' + 1, _, _, by omega, by go_num, by omega, HSA2, HSB2, HG10⟩
              case measure => simp [intOf]; omega
            · go_wp2
              go_roundw
              case rel => exact ⟨ii + 1, q', za, zb, by omega, by go_num, by omega, HSA, HSB, HG7⟩
              case measure => simp [intOf]; omega
        · have HT := HG7
          have HSMA := Lib.hid HSA.out.sm
          have HSMB := Lib.hid HSB.out.sm
          have hl7 : n ≤ 3 := by omega
          have HBL := Lib.hid HSB.out.len
          clear HG7 HSA HSB
          have HC := Lib.hid (pick_any w0 wr g A l c (q) 40 HT.out.rd (by omega))
          go_wp2_with fail
          refine HC.out.mono ?_
          rintro e x1 ⟨kk, rfl, hk1, _, hr, z, hw⟩
          have hone := Rdr.one (g := g) wr (.int .i64 (q + 1 : Nat)) z
          rw [← hw] at hone
          obtain ⟨kk0, kk1⟩ := hk1 (by omega)
          have HT2 := Lib.hid (HT.out.one hr hone)
          have HRX := Lib.hid (show Blk x1 r0 43 #[.slice none 0 0, .slice none 0 0] from (HT2.out.up.block r0 HRS.out (fun e => HNE.out (by injection e with e; exact e.symm))).trans HRB.out)
          clear hr hone hw hk1 HC HT HRB
          by_cases e0 : kk = 0
          · subst e0
            have HTO := Lib.hid HT2.out.to
            have HI := Lib.hid (HTO.out.lit 0)
            have hWs : (x1.alloc (.cells #[iv 0] 3)).heap.size = x1.heap.size + 1 := by simp
            obtain ⟨Ar, nr, cr, gg, e, hn, ho, _⟩ := HI.out.bi.owns (by simp) (fun x hx => by simp at hx; omega)
            injection e with e1 e2 e3
            subst e1
            subst e2
            subst e3
            have HO := Lib.hid ho
            have hb := below_alloc (x1.alloc (.cells #[iv 0] 3)) (.cells #[.slice (some ⟨x1.heap.size, 0, none⟩) 1 1] 36)
            have HB4 := Lib.hid (HI.out.bo.below hb).own
            have HN := Lib.hid (cell_one_new (x1.alloc (.cells #[iv 0] 3)) (.slice (some ⟨x1.heap.size, 0, none⟩) 1 1) 36)
            have HNO := Lib.hid (box_ne_own HT2.out.box HTO.out.bo.own (by decide))
            have HBF := Lib.hid (blk_below (blk_below HT2.out.box (below_alloc x1 (.cells #[iv 0] 3))) (below_alloc _ (.cells #[.slice (some ⟨x1.heap.size, 0, none⟩) 1 1] 36)))
            have hHs := HI.out.hs
            have hlh := HI.out.lh
            have c1 := blk_cell HT2.out.box (i := 1) (v := .slice Bv n bv) rfl
            have HLB : Hid (yb.length = n) := Lib.hid HBL.out
            rw [HLB.out] at HB4
            clear hb ho hn
            go_wp2_with (at_builtin; refine wpList_append_own_at _ rfl _ _ 22 rfl (cutW x1 mid).heap.size 36 i0 (.slice none 0 0) 1 24 Try.underlying22 hi0 hz0 hz1 hz2 rfl (by decide) _ (n) vsb rfl HB4.out ⟨x1.heap.size + 1, 0, none⟩ 1 1 [.slice (some ⟨x1.heap.size, 0, none⟩) 1 1] rfl rfl ?d1 ?d2 ?d3 ?d4 ?d5 ?_)
            case d1 => have := HN.out; rw [hWs] at this; exact this
            case d2 => intro u hu; simp at hu; subst hu; rfl
            case d3 => unfold maxLen; omega
            case d4 => omega
            case d5 => simp; omega
            intro v' x2 hown' hgrow _ hat
            rw [← HLB.out] at hown'
            have HT5 := Lib.hid (TI.done (w := x1.alloc (.cells #[iv 0] 3)) (ys := [0]) (xss := yb) (v' := v') (vs := vsb) (Ar := some ⟨x1.heap.size, 0, none⟩) (cr := 1) HI.out HO.out hown' hgrow (by simpa using hat))
            have HBG := Lib.hid (show Blk x2 h 43 #[.slice Av n cv, .slice Bv (n) bv] from (hgrow.block h (blk_lt HBF.out) (fun e => HNO.out e.symm)).trans HBF.out)
            clear HB4 HN hown' hgrow hat HI HO HBF HNO HTO c1
            obtain ⟨Av2, cv2, rfl⟩ := HT5.out.bo.form
            have HS4 := Lib.hid (HSMB.out.snoc (x := 0) (by rw [HLB.out]; omega) (by omega))
            have hl8 : (yb ++ [[0]]).length ≤ 7 := by rw [List.length_append, HLB.out]; simp; omega
            generalize yb ++ [[0]] = zs at *
            have HSP := Lib.hid (spoilH_any w0 (cutW x1 mid) x2 h _ g A l c (q + 1) Av2 cv2 _ zs HT5.out (by omega) HS4.out hl8 HBG.out (box_slices _ _ _ _ _ _))
            clear HT5 HBG HS4
            go_wp2_with fail
            refine HSP.out.mono ?_
            rintro e x3 ⟨vv, vs3, xs3, p3, rfl, hsm3, hto3, hp3, hbx3⟩
            obtain ⟨Ab, nb, cb, gb, ev, -, hob⟩ := hto3.bo.owns (by have := hsm3.n; omega)
            subst ev
            have HSM3 := Lib.hid hsm3
            have HTO3 := Lib.hid hto3
            have HBX3 := Lib.hid hbx3
            have HMW := Lib.hid HT2.out.mw
            have HKE := Lib.hid (fun k (hk : k < mid) (hne : k ≠ g) => grown_cut hto3.up HT2.out.mw hk hne)
            have HA3 := Lib.hid (HT2.out.a.of_blocks (w' := x3) fun k h1 h2 _ => HKE.out k h2 (by have := HT2.out.gl; omega))
            have HR3 := Lib.hid (show Blk x3 r0 43 #[.slice none 0 0, .slice none 0 0] from (HKE.out r0 (by have := HRS.out; have := HT2.out.lm; omega) (Ne.symm HNE.out)).trans HRX.out)
            have HLM := Lib.hid HT2.out.lm
            clear hsm3 hto3 hbx3 hob HSP HT2 HRX
            have hneh : r0 ≠ h := by have := HRS.out; have := HLM.out; omega
            have c1 := blk_cell HBX3.out (i := 1) (v := .slice Bv (n) bv) rfl
            have f1 := blk_frozen HBX3.out 1
            have c0 := blk_cell HBX3.out (i := 0) (v := .slice Av n cv) rfl
            have d0 := blk_cell HR3.out (i := 0) (v := .slice none 0 0) rfl
            have d1 := blk_cell HR3.out (i := 1) (v := .slice none 0 0) rfl
            have g0 := blk_frozen HR3.out 0
            have g1 := blk_frozen HR3.out 1
            go_wp2
            clear c1 f1 c0 d0 d1 g0 g1
            have HBB := Lib.hid ((HTO3.out.bo.mono_lo (lo' := mid) (by rw [cutW_size HMW.out]; exact Nat.le_refl _)).set_box HBX3.out (box_slices _ _ _ _ _ _) 1 (.slice Ab nb cb))
            have hs1 : (x3.setCell ⟨h, 1, none⟩ (.slice Ab nb cb)).heap.size = x3.heap.size := by simp [World.setCell]
            have HAA := Lib.hid (HA3.out.of_blocks (w' := x3.setCell ⟨h, 1, none⟩ (.slice Ab nb cb)) fun k _ h2 _ => Below.heap_setCell _ _ _ _ (by show k ≠ h; omega))
            have HNH := Lib.hid (box_ne_box HBX3.out HTO3.out.rd.box (by decide))
            have HRR := Lib.hid (show Rdr w0 (x3.setCell ⟨h, 1, none⟩ (.slice Ab nb cb)) g A l c p3 from ⟨blk_other HTO3.out.rd.box (Ne.symm HNH.out) _, HTO3.out.rd.bytes, HTO3.out.rd.below.setCell (by show w0.heap.size ≤ h; have := HTO3.out.rd.lt; have := HTO3.out.gl; rw [cutW_size HMW.out] at this; omega) _, HTO3.out.rd.lt, HTO3.out.rd.small⟩)
            have HRZ := Lib.hid (blk_other HR3.out (p := ⟨h, 1, none⟩) hneh (.slice Ab nb cb))
            rw [← hs1] at HBB
            clear hs1 HA3 HTO3 HBX3 HR3
            have B1 := blk_set (blk_set HRZ.out 0 (.slice Av n cv)) 1 (.slice Ab nb cb)
            have q0 := blk_cell B1 (i := 0) (v := .slice Av n cv) rfl
            have q1 := blk_cell B1 (i := 1) (v := .slice Ab nb cb) rfl
            clear B1 HRZ
            generalize x3.setCell ⟨h, 1, none⟩ (.slice Ab nb cb) = X3 at *
            have HFIN := Lib.hid (game_done (w3 := w3.heap.size) (p0 := p) (x := .slice Av n cv) (y := .slice Ab nb cb) HRR.out HAA.out HBB.out HSMA.out HSM3.out HRS.out HLM.out HNE.out HW0.out (by omega) rfl)
            refine bodyPost_ret (v := .agg #[.slice Av n cv, .slice Ab nb cb]) (by simp [results, Try.results61, go_sem, q0, q1]) rfl ?_
            exact HFIN.out
          · have c0 := blk_cell HT2.out.box (i := 0) (v := .slice Av n cv) rfl
            have c1 := blk_cell HT2.out.box (i := 1) (v := .slice Bv (n) bv) rfl
            have d0 := blk_cell HRX.out (i := 0) (v := .slice none 0 0) rfl
            have d1 := blk_cell HRX.out (i := 1) (v := .slice none 0 0) rfl
            have g0 := blk_frozen HRX.out 0
            have g1 := blk_frozen HRX.out 1
            go_wp2
            clear c0 c1 d0 d1 g0 g1
            have B1 := blk_set (blk_set HRX.out 0 (.slice Av n cv)) 1 (.slice Bv (n) bv)
            have q0 := blk_cell B1 (i := 0) (v := .slice Av n cv) rfl
            have q1 := blk_cell B1 (i := 1) (v := .slice Bv (n) bv) rfl
            clear B1
            have HFIN := Lib.hid (game_done (w3 := w3.heap.size) (p0 := p) (x := .slice Av n cv) (y := .slice Bv (n) bv) HT2.out.rd HT2.out.a HT2.out.b HSMA.out HSMB.out HRS.out HT2.out.lm HNE.out HW0.out (by omega) rfl)
            refine bodyPost_ret (v := .agg #[.slice Av n cv, .slice Bv (n) bv]) (by simp [results, Try.results61, go_sem, q0, q1]) rfl ?_
            exact HFIN.out
    · have HT := HG7
      have HSMA := Lib.hid HSA.out.sm
      have HSMB := Lib.hid HSB.out.sm
      have hl7 : n ≤ 3 := by omega
      have HBL := Lib.hid HSB.out.len
      clear HG7 HSA HSB
      have HC := Lib.hid (pick_any w0 w7 g A l c (p5 + 1) 40 HT.out.rd (by omega))
      go_wp2_with fail
      refine HC.out.mono ?_
      rintro e x1 ⟨kk, rfl, hk1, _, hr, z, hw⟩
      have hone := Rdr.one (g := g) w7 (.int .i64 (p5 + 1 + 1 : Nat)) z
      rw [← hw] at hone
      obtain ⟨kk0, kk1⟩ := hk1 (by omega)
      have HT2 := Lib.hid (HT.out.one hr hone)
      have HRX := Lib.hid (show Blk x1 r0 43 #[.slice none 0 0, .slice none 0 0] from (HT2.out.up.block r0 HRS.out (fun e => HNE.out (by injection e with e; exact e.symm))).trans HRB.out)
      clear hr hone hw hk1 HC HT HRB
      by_cases e0 : kk = 0
      · subst e0
        have HTO := Lib.hid HT2.out.to
        have HI := Lib.hid (HTO.out.lit 0)
        have hWs : (x1.alloc (.cells #[iv 0] 3)).heap.size = x1.heap.size + 1 := by simp
        obtain ⟨Ar, nr, cr, gg, e, hn, ho, _⟩ := HI.out.bi.owns (by simp) (fun x hx => by simp at hx; omega)
        injection e with e1 e2 e3
        subst e1
        subst e2
        subst e3
        have HO := Lib.hid ho
        have hb := below_alloc (x1.alloc (.cells #[iv 0] 3)) (.cells #[.slice (some ⟨x1.heap.size, 0, none⟩) 1 1] 36)
        have HB4 := Lib.hid (HI.out.bo.below hb).own
        have HN := Lib.hid (cell_one_new (x1.alloc (.cells #[iv 0] 3)) (.slice (some ⟨x1.heap.size, 0, none⟩) 1 1) 36)
        have HNO := Lib.hid (box_ne_own HT2.out.box HTO.out.bo.own (by decide))
        have HBF := Lib.hid (blk_below (blk_below HT2.out.box (below_alloc x1 (.cells #[iv 0] 3))) (below_alloc _ (.cells #[.slice (some ⟨x1.heap.size, 0, none⟩) 1 1] 36)))
        have hHs := HI.out.hs
        have hlh := HI.out.lh
        have c1 := blk_cell HT2.out.box (i := 1) (v := .slice Bv n bv) rfl
        have HLB : Hid (xb.length = n) := Lib.hid HBL.out
        rw [HLB.out] at HB4
        clear hb ho hn
        go_wp2_with (at_builtin; refine wpList_append_own_at _ rfl _ _ 22 rfl (cutW x1 mid).heap.size 36 i0 (.slice none 0 0) 1 24 Try.underlying22 hi0 hz0 hz1 hz2 rfl (by decide) _ (n) vsb rfl HB4.out ⟨x1.heap.size + 1, 0, none⟩ 1 1 [.slice (some ⟨x1.heap.size, 0, none⟩) 1 1] rfl rfl ?d1 ?d2 ?d3 ?d4 ?d5 ?_)
        case d1 => have := HN.out; rw [hWs] at this; exact this
        case d2 => intro u hu; simp at hu; subst hu; rfl
        case d3 => unfold maxLen; omega
        case d4 => omega
        case d5 => simp; omega
        intro v' x2 hown' hgrow _ hat
        rw [← HLB.out] at hown'
        have HT5 := Lib.hid (TI.done (w := x1.alloc (.cells #[iv 0] 3)) (ys := [0]) (xss := xb) (v' := v') (vs := vsb) (Ar := some ⟨x1.heap.size, 0, none⟩) (cr := 1) HI.out HO.out hown' hgrow (by simpa using hat))
        have HBG := Lib.hid (show Blk x2 h 43 #[.slice Av n cv, .slice Bv (n) bv] from (hgrow.block h (blk_lt HBF.out) (fun e => HNO.out e.symm)).trans HBF.out)
        clear HB4 HN hown' hgrow hat HI HO HBF HNO HTO c1
        obtain ⟨Av2, cv2, rfl⟩ := HT5.out.bo.form
        have HS4 := Lib.hid (HSMB.out.snoc (x := 0) (by rw [HLB.out]; omega) (by omega))
        have hl8 : (xb ++ [[0]]).length ≤ 7 := by rw [List.length_append, HLB.out]; simp; omega
        generalize xb ++ [[0]] = zs at *
        have HSP := Lib.hid (spoilH_any w0 (cutW x1 mid) x2 h _ g A l c (p5 + 1 + 1) Av2 cv2 _ zs HT5.out (by omega) HS4.out hl8 HBG.out (box_slices _ _ _ _ _ _))
        clear HT5 HBG HS4
        go_wp2_with fail
        refine HSP.out.mono ?_
        rintro e x3 ⟨vv, vs3, xs3, p3, rfl, hsm3, hto3, hp3, hbx3⟩
        obtain ⟨Ab, nb, cb, gb, ev, -, hob⟩ := hto3.bo.owns (by have := hsm3.n; omega)
        subst ev
        have HSM3 := Lib.hid hsm3
        have HTO3 := Lib.hid hto3
        have HBX3 := Lib.hid hbx3
        have HMW := Lib.hid HT2.out.mw
        have HKE := Lib.hid (fun k (hk : k < mid) (hne : k ≠ g) => grown_cut hto3.up HT2.out.mw hk hne)
        have HA3 := Lib.hid (HT2.out.a.of_blocks (w' := x3) fun k h1 h2 _ => HKE.out k h2 (by have := HT2.out.gl; omega))
        have HR3 := Lib.hid (show Blk x3 r0 43 #[.slice none 0 0, .slice none 0 0] from (HKE.out r0 (by have := HRS.out; have := HT2.out.lm; omega) (Ne.symm HNE.out)).trans HRX.out)
        have HLM := Lib.hid HT2.out.lm
        clear hsm3 hto3 hbx3 hob HSP HT2 HRX
        have hneh : r0 ≠ h := by have := HRS.out; have := HLM.out; omega
        have c1 := blk_cell HBX3.out (i := 1) (v := .slice Bv (n) bv) rfl
        have f1 := blk_frozen HBX3.out 1
        have c0 := blk_cell HBX3.out (i := 0) (v := .slice Av n cv) rfl
        have d0 := blk_cell HR3.out (i := 0) (v := .slice none 0 0) rfl
        have d1 := blk_cell HR3.out (i := 1) (v := .slice none 0 0) rfl
        have g0 := blk_frozen HR3.out 0
        have g1 := blk_frozen HR3.out 1
        go_wp2
        clear c1 f1 c0 d0 d1 g0 g1
        have HBB := Lib.hid ((HTO3.out.bo.mono_lo (lo' := mid) (by rw [cutW_size HMW.out]; exact Nat.le_refl _)).set_box HBX3.out (box_slices _ _ _ _ _ _) 1 (.slice Ab nb cb))
        have hs1 : (x3.setCell ⟨h, 1, none⟩ (.slice Ab nb cb)).heap.size = x3.heap.size := by simp [World.setCell]
        have HAA := Lib.hid (HA3.out.of_blocks (w' := x3.setCell ⟨h, 1, none⟩ (.slice Ab nb cb)) fun k _ h2 _ => Below.heap_setCell _ _ _ _ (by show k ≠ h; omega))
        have HNH := Lib.hid (box_ne_box HBX3.out HTO3.out.rd.box (by decide))
        have HRR := Lib.hid (show Rdr w0 (x3.setCell ⟨h, 1, none⟩ (.slice Ab nb cb)) g A l c p3 from ⟨blk_other HTO3.out.rd.box (Ne.symm HNH.out) _, HTO3.out.rd.bytes, HTO3.out.rd.below.setCell (by show w0.heap.size ≤ h; have := HTO3.out.rd.lt; have := HTO3.out.gl; rw [cutW_size HMW.out] at this; omega) _, HTO3.out.rd.lt, HTO3.out.rd.small⟩)
        have HRZ := Lib.hid (blk_other HR3.out (p := ⟨h, 1, none⟩) hneh (.slice Ab nb cb))
        rw [← hs1] at HBB
        clear hs1 HA3 HTO3 HBX3 HR3
        have B1 := blk_set (blk_set HRZ.out 0 (.slice Av n cv)) 1 (.slice Ab nb cb)
        have q0 := blk_cell B1 (i := 0) (v := .slice Av n cv) rfl
        have q1 := blk_cell B1 (i := 1) (v := .slice Ab nb cb) rfl
        clear B1 HRZ
        generalize x3.setCell ⟨h, 1, none⟩ (.slice Ab nb cb) = X3 at *
        have HFIN := Lib.hid (game_done (w3 := w3.heap.size) (p0 := p) (x := .slice Av n cv) (y := .slice Ab nb cb) HRR.out HAA.out HBB.out HSMA.out HSM3.out HRS.out HLM.out HNE.out HW0.out (by omega) rfl)
        refine bodyPost_ret (v := .agg #[.slice Av n cv, .slice Ab nb cb]) (by simp [results, Try.results61, go_sem, q0, q1]) rfl ?_
        exact HFIN.out
      · have c0 := blk_cell HT2.out.box (i := 0) (v := .slice Av n cv) rfl
        have c1 := blk_cell HT2.out.box (i := 1) (v := .slice Bv (n) bv) rfl
        have d0 := blk_cell HRX.out (i := 0) (v := .slice none 0 0) rfl
        have d1 := blk_cell HRX.out (i := 1) (v := .slice none 0 0) rfl
        have g0 := blk_frozen HRX.out 0
        have g1 := blk_frozen HRX.out 1
        go_wp2
        clear c0 c1 d0 d1 g0 g1
        have B1 := blk_set (blk_set HRX.out 0 (.slice Av n cv)) 1 (.slice Bv (n) bv)
        have q0 := blk_cell B1 (i := 0) (v := .slice Av n cv) rfl
        have q1 := blk_cell B1 (i := 1) (v := .slice Bv (n) bv) rfl
        clear B1
        have HFIN := Lib.hid (game_done (w3 := w3.heap.size) (p0 := p) (x := .slice Av n cv) (y := .slice Bv (n) bv) HT2.out.rd HT2.out.a HT2.out.b HSMA.out HSMB.out HRS.out HT2.out.lm HNE.out HW0.out (by omega) rfl)
        refine bodyPost_ret (v := .agg #[.slice Av n cv, .slice Bv (n) bv]) (by simp [results, Try.results61, go_sem, q0, q1]) rfl ?_
        exact HFIN.out

end Go.Proofs.Ytjmfkodbilknlaa

/- Games drawn from bytes. -/
namespace Go.Proofs.Ytjmfkodbilknlaa
open Go.RowKit

/-- A game of small numbers, in memory of its own. -/
def DrawnG (w : World) (e : Ending) (w' : World) : Prop :=
  ∃ Aa na ca xa Ab nb cb xb, e = .returned (.agg #[.slice Aa na ca, .slice Ab nb cb]) ∧ Small xa ∧ Small xb ∧ IntRows w' Aa na ca xa ∧ IntRows w' Ab nb cb xb ∧ Below w.heap.size w w'
/-- A law's game: its box at h, and both tables. -/
structure GW (w : World) (h : Nat) (A : Option Addr) (n c : Nat) (xs : List (List Int)) (B : Option Addr) (m d : Nat) (ys : List (List Int)) (W : World) : Prop where
  below : Below w.heap.size w W
  box : Blk W h 43 #[.slice A n c, .slice B m d]
  ra : IntRows W A n c xs
  rb : IntRows W B m d ys
theorem GW.up {w h A n c xs B m d ys W W'} (o : GW w h A n c xs B m d ys W) (k : Below W.heap.size W W') : GW w h A n c xs B m d ys W' :=
  ⟨below_up o.below k, blk_below o.box k, o.ra.keep (Keep.below k), o.rb.keep (Keep.below k)⟩
theorem GW.start {w A n c xs B m d ys W} (hb : Below w.heap.size w W) (ra : IntRows W A n c xs) (rb : IntRows W B m d ys) : GW w W.heap.size A n c xs B m d ys (W.alloc (.cells #[.slice A n c, .slice B m d] 43)) :=
  ⟨below_up hb (below_alloc _ _), blk_new _ _ _, ra.keep (Keep.below (below_alloc _ _)), rb.keep (Keep.below (below_alloc _ _))⟩
theorem GW.cells {w h A n c xs B m d ys W} (o : GW w h A n c xs B m d ys W) : W.cell? ⟨h, 0, none⟩ = some (.slice A n c) ∧ W.cell? ⟨h, 1, none⟩ = some (.slice B m d) := ⟨blk_cell o.box rfl, blk_cell o.box rfl⟩






set_option maxRecDepth 100000 in
set_option maxHeartbeats 1000000 in
theorem DrawEndsAlways_any (A : Option Addr) (n c : Nat) (w : World) (h : Bytes w A n c) :
    Calls Try.prog 27 #[.slice A n c] w (DrawnG w) := by
  have HB := Lib.hid (below_alloc w (.cells #[.slice none 0 0, .slice none 0 0] 43))
  have HK := Lib.hid (blk_new w 43 #[.slice none 0 0, .slice none 0 0])
  have H0 := Lib.hid (newReader_any A n c _ (h.keep (Keep.below (below_alloc w (.cells #[.slice none 0 0, .slice none 0 0] 43)))))
  clear h
  go_enter Try.func27, Try.ntmps27
  go_wp2_with fail
  have HZ : Hid (w.heap.size < (w.alloc (.cells #[.slice none 0 0, .slice none 0 0] 43)).heap.size) := Lib.hid (by simp)
  generalize w.alloc (.cells #[.slice none 0 0, .slice none 0 0] 43) = W0 at *
  refine H0.out.mono ?_
  rintro e w1 ⟨A1, l, c1, rfl, hl, hr, hs⟩
  have HS := Lib.hid (show W0.heap.size ≤ w1.heap.size by omega)
  have H1 := Lib.hid (someGame_any W0 w1 W0.heap.size A1 l c1 0 hr (by omega))
  clear hr hl hs H0
  go_wp2_with fail
  refine H1.out.mono ?_
  rintro e w2 ⟨Aa, na, ca, ga, ha, xa, Ab, nb, cb, gb, hb, xb, lo, p', rfl, sa, sb, hlo, oa, ob, rd, hp⟩
  have HK2 := Lib.hid (blk_below HK.out rd.below)
  have HB2 := Lib.hid (below_up HB.out rd.below)
  have HSA := Lib.hid sa
  have HSB := Lib.hid sb
  have HLO := Lib.hid (show w.heap.size < lo by have := HZ.out; have := HS.out; omega)
  have HOA := Lib.hid oa
  have HOB := Lib.hid ob
  clear sa sb oa ob rd H1 HB HK HZ HS
  have d0 := blk_cell HK2.out (i := 0) (v := .slice none 0 0) rfl
  have d1 := blk_cell HK2.out (i := 1) (v := .slice none 0 0) rfl
  have g0 := blk_frozen HK2.out 0
  have g1 := blk_frozen HK2.out 1
  go_wp2
  clear d0 d1 g0 g1
  have B1 := blk_set (blk_set HK2.out 0 (.slice Aa na ca)) 1 (.slice Ab nb cb)
  have q0 := blk_cell B1 (i := 0) (v := .slice Aa na ca) rfl
  have q1 := blk_cell B1 (i := 1) (v := .slice Ab nb cb) rfl
  have hk : ∀ k, k ≠ w.heap.size → ((w2.setCell ⟨w.heap.size, 0, none⟩ (.slice Aa na ca)).setCell ⟨w.heap.size, 1, none⟩ (.slice Ab nb cb)).heap[k]? = w2.heap[k]? := fun k hne => (Below.heap_setCell _ _ _ _ hne).trans (Below.heap_setCell _ _ _ _ hne)
  have HRA := Lib.hid (HOA.out.of_blocks (w' := (w2.setCell ⟨w.heap.size, 0, none⟩ (.slice Aa na ca)).setCell ⟨w.heap.size, 1, none⟩ (.slice Ab nb cb)) fun k h1 _ _ => hk k (by have := HLO.out; omega)).rows
  have HRB := Lib.hid (HOB.out.of_blocks (w' := (w2.setCell ⟨w.heap.size, 0, none⟩ (.slice Aa na ca)).setCell ⟨w.heap.size, 1, none⟩ (.slice Ab nb cb)) fun k h1 _ _ => hk k (by have := HLO.out; omega)).rows
  have HBX := Lib.hid ((HB2.out.setCell (p := ⟨w.heap.size, 0, none⟩) (Nat.le_refl _) (.slice Aa na ca)).setCell (p := ⟨w.heap.size, 1, none⟩) (Nat.le_refl _) (.slice Ab nb cb))
  clear B1 hk HK2 HB2 HOA HOB
  generalize (w2.setCell ⟨w.heap.size, 0, none⟩ (.slice Aa na ca)).setCell ⟨w.heap.size, 1, none⟩ (.slice Ab nb cb) = WE at *
  refine bodyPost_ret (v := .agg #[.slice Aa na ca, .slice Ab nb cb]) (by simp [results, Try.results27, go_sem, q0, q1]) rfl ?_
  exact ⟨_, _, _, _, _, _, _, _, rfl, HSA.out, HSB.out, HRA.out, HRB.out, HBX.out⟩
end Go.Proofs.Ytjmfkodbilknlaa

/- Both players exchanged. -/
namespace Go.Proofs.Ytjmfkodbilknlaa
open Go.RowKit

theorem VG.flip2 {a b : List (List Int)} (v : VG a b) : VG (flip b b.length (gr b 0).length) (flip a a.length (gr a 0).length) := by
  have h1 := v.tb.m1
  have h2 := v.ta.m1
  exact ⟨v.tb.flip, v.ta.flip, by rw [flip_len, flip_len]; exact v.m.symm, by rw [gr_flip h1, gr_flip h2]; simp; exact v.n.symm⟩

theorem g2_flip {a : List (List Int)} {n m i j : Nat} (hi : i < m) (hj : j < n) : g2 (flip a n m) i j = g2 a j i := by
  unfold g2
  rw [gr_flip hi, gi_col hj]
  rfl
theorem NR.flip {a b : List (List Int)} (v : VG a b) : NR (flip b b.length (gr b 0).length) (flip a a.length (gr a 0).length) ↔ NR a b := by
  have h1 := v.tb.m1
  have h2 := v.ta.m1
  have hn := v.n
  have hm := v.m
  have hl : (Go.Proofs.Ytjmfkodbilknlaa.flip b b.length (gr b 0).length).length = (gr b 0).length := flip_len _ _ _
  have hl0 : (gr (Go.Proofs.Ytjmfkodbilknlaa.flip b b.length (gr b 0).length) 0).length = b.length := by rw [gr_flip h1]; simp
  have hr : ∀ i k j l, i < (gr a 0).length → k < (gr a 0).length → j < a.length → l < a.length →
      rnd (Go.Proofs.Ytjmfkodbilknlaa.flip b b.length (gr b 0).length) (Go.Proofs.Ytjmfkodbilknlaa.flip a a.length (gr a 0).length) i k j l = rnd a b j l k i := fun i k j l hi hk hj hl => by
    unfold rnd
    rw [g2_flip (a := b) (by omega) (by omega), g2_flip (a := b) (by omega) (by omega), g2_flip (a := a) hk hl, g2_flip (a := a) hk hj, g2_flip (a := b) (by omega) (by omega), g2_flip (a := b) (by omega) (by omega), g2_flip (a := a) hi hj, g2_flip (a := a) hi hl]
    omega
  constructor
  · intro h
    refine ⟨v, fun i k j l hi hk hj hl' => ?_⟩
    have := h.no l j i k (by rw [hl]; omega) (by rw [hl]; omega) (by rw [hl0]; omega) (by rw [hl0]; omega)
    rw [hr l j i k hl' hj hi hk] at this
    exact this
  · intro h
    refine ⟨v.flip2, fun i k j l hi hk hj hl' => ?_⟩
    rw [hl] at hi hk
    rw [hl0] at hj hl'
    rw [hr i k j l (by omega) (by omega) (by omega) (by omega)]
    exact h.no j l k i (by omega) (by omega) (by omega) (by omega)
theorem NR.one {a b : List (List Int)} (v : VG a b) (h : a.length ≤ 1 ∨ (gr a 0).length ≤ 1) : NR a b := by
  refine ⟨v, fun i k j l hi hk hj hl => ?_⟩
  rcases h with h | h
  · obtain rfl : i = k := by omega
    unfold rnd; omega
  · obtain rfl : j = l := by omega
    unfold rnd; omega

/-- .. with the first row of the first table. -/
def GX (w : World) (h : Nat) (A : Option Addr) (n c : Nat) (xs : List (List Int)) (B : Option Addr) (m d : Nat) (ys : List (List Int)) (ba oa : Nat) (v : Value) (W : World) : Prop :=
  GW w h A n c xs B m d ys W ∧ W.cell? ⟨ba, oa, none⟩ = some v
theorem GX.up {w h A n c xs B m d ys ba oa v W W'} (o : GX w h A n c xs B m d ys ba oa v W) (k : Below W.heap.size W W') : GX w h A n c xs B m d ys ba oa v W' := ⟨o.1.up k, Keep.below k _ _ o.2⟩
theorem GX.cells {w h A n c xs B m d ys ba oa v W} (o : GX w h A n c xs B m d ys ba oa v W) : (W.cell? ⟨h, 0, none⟩ = some (.slice A n c) ∧ W.cell? ⟨h, 1, none⟩ = some (.slice B m d)) ∧ W.cell? ⟨ba, oa, none⟩ = some v := ⟨o.1.cells, o.2⟩
end Go.Proofs.Ytjmfkodbilknlaa

/- Fractions of whole numbers; one alone is a share; the pure rests. Plain. -/
namespace Go.Proofs.Ytjmfkodbilknlaa

theorem fr_one (u : Int) : frU u 1 = u ∧ frD u 1 = 1 := by
  have g : gcdI u 1 = 1 := by unfold gcdI; simp
  unfold frU frD; rw [g]; simp
theorem frV_one (u : Int) : frV u 1 = .agg #[.int .i64 u, .int .i64 1] := by unfold frV; rw [(fr_one u).1, (fr_one u).2]
theorem onl_VS {n i : Nat} (hi : i < n) : VS (onl n i) n :=
  ⟨by rw [onl_len], fun j hj => by rw [onl_len] at hj; have := onl_bd (n := n) (i := i) hj; exact ⟨this.1, by omega⟩, by rw [tot_onl hi]; omega⟩
theorem rowRests_mem {a b : List (List Int)} {n m i : Nat} {r : List Int} : ∀ {j : Nat}, r ∈ rowRests a b n m i j ↔ ∃ l, l < j ∧ r = [(i : Int), (l : Int)] ∧ RestAt a b n m i l
  | 0 => by simp [rowRests]
  | j + 1 => by
    rw [rowRests, List.mem_append, rowRests_mem]
    constructor
    · rintro (⟨l, h1, h2⟩ | h)
      · exact ⟨l, by omega, h2⟩
      · split at h
        · rename_i hp
          simp only [List.mem_singleton] at h
          exact ⟨j, by omega, h, pb_iff.1 hp⟩
        · simp at h
    · rintro ⟨l, h1, h2, h3⟩
      by_cases e : l = j
      · subst e
        right
        rw [if_pos (pb_true h3), h2]; simp
      · exact .inl ⟨l, by omega, h2, h3⟩
theorem allRests_mem {a b : List (List Int)} {n m : Nat} {r : List Int} : ∀ {i : Nat}, r ∈ allRests a b n m i ↔ ∃ k l, k < i ∧ l < m ∧ r = [(k : Int), (l : Int)] ∧ RestAt a b n m k l
  | 0 => by simp [allRests]
  | i + 1 => by
    rw [allRests, List.mem_append, allRests_mem, rowRests_mem]
    constructor
    · rintro (⟨k, l, h1, h2⟩ | ⟨l, h2⟩)
      · exact ⟨k, l, by omega, h2⟩
      · exact ⟨i, l, by omega, h2⟩
    · rintro ⟨k, l, h1, h2⟩
      by_cases e : k = i
      · subst e; exact .inr ⟨l, h2⟩
      · exact .inl ⟨k, l, by omega, h2⟩
end Go.Proofs.Ytjmfkodbilknlaa

/- Rests are where replies are none; rests with both players exchanged. -/
namespace Go.Proofs.Ytjmfkodbilknlaa
open Go.RowKit

theorem brF_nil {pays : List Int} {now : Nat} (h : now < pays.length) : brF pays now = [] ↔ gi pays now = mxl pays := by
  constructor
  · intro e
    refine Classical.byContradiction fun hne => ?_
    obtain ⟨j, hj, e2⟩ := mx_at pays (pays.length - 1)
    have : (j : Int) ∈ brF pays now := brF_mem.2 ⟨hne, j, by omega, e2, rfl⟩
    rw [e] at this; simp at this
  · intro e; rw [brF, if_pos e]
theorem repL_nil {xs ys : List (List Int)} {n m i j : Nat} (hi : i < n) (hj : j < m) (hl : (gr ys i).length = m) : repL xs ys n i j = [] ↔ RestAt xs ys n m i j := by
  rw [RestAt_iff hi hj hl, repL, List.append_eq_nil_iff, flip_colOf hj]
  have e1 : mvA j (brF (colOf xs n j) i) = [] ↔ brF (colOf xs n j) i = [] := by simp [mvA]
  have e2 : mvB i (brF (gr ys i) j) = [] ↔ brF (gr ys i) j = [] := by simp [mvB]
  rw [e1, e2, brF_nil (by rw [colOf_len]; exact hi), brF_nil (by rw [hl]; exact hj), gi_colOf hi]
  exact Iff.rfl
theorem repF_in {xs ys : List (List Int)} {i j : Nat} (v : VG xs ys) (hi : i < xs.length) (hj : j < (gr xs 0).length) : repF xs ys i j = repL xs ys xs.length i j := by
  unfold repF
  rw [pb_true v, pb_true (p := Blw xs.length i) ⟨by omega, by omega⟩, pb_true (p := Blw (gr xs 0).length j) ⟨by omega, by omega⟩]
  simp
theorem repF_rest {xs ys : List (List Int)} {i j : Nat} (v : VG xs ys) (hi : i < xs.length) (hj : j < (gr xs 0).length) : repF xs ys i j = [] ↔ RestAt xs ys xs.length (gr xs 0).length i j := by
  rw [repF_in v hi hj]
  exact repL_nil hi hj (by rw [(v.tb.rows i (by rw [← v.n]; exact hi)).1, v.m])
theorem pureR_mem {xs ys : List (List Int)} {i j : Nat} (v : VG xs ys) (hi : i < xs.length) (hj : j < (gr xs 0).length) : [(i : Int), (j : Int)] ∈ pureR xs ys ↔ RestAt xs ys xs.length (gr xs 0).length i j := by
  rw [pureR, if_pos (pb_true v), allRests_mem]
  constructor
  · rintro ⟨k, l, _, _, e, h⟩
    injection e with e1 e2
    injection e2 with e2 _
    obtain rfl : i = k := by omega
    obtain rfl : j = l := by omega
    exact h
  · intro h; exact ⟨i, j, hi, hj, rfl, h⟩
theorem rest_flip {xs ys : List (List Int)} {n m i j : Nat} (hi : i < n) (hj : j < m) : RestAt (flip ys n m) (flip xs n m) m n j i ↔ RestAt xs ys n m i j := by
  unfold RestAt
  constructor
  · rintro ⟨h1, h2⟩
    refine ⟨fun k hk => ?_, fun k hk => ?_⟩
    · have := h2 k hk; rw [g2_flip hj hk, g2_flip hj hi] at this; exact this
    · have := h1 k hk; rw [g2_flip hk hi, g2_flip hj hi] at this; exact this
  · rintro ⟨h1, h2⟩
    refine ⟨fun k hk => ?_, fun k hk => ?_⟩
    · rw [g2_flip hk hi, g2_flip hj hi]; exact h2 k hk
    · rw [g2_flip hj hk, g2_flip hj hi]; exact h1 k hk
/-- How many of a row, of all. -/
noncomputable def cR (f : Nat → Nat → Prop) (i : Nat) : Nat → Nat
  | 0 => 0
  | j + 1 => cR f i j + if pb (f i j) = true then 1 else 0
noncomputable def cA (f : Nat → Nat → Prop) (m : Nat) : Nat → Nat
  | 0 => 0
  | i + 1 => cA f m i + cR f i m
theorem rowRests_cR (a b : List (List Int)) (n m i : Nat) : ∀ j, (rowRests a b n m i j).length = cR (fun i j => RestAt a b n m i j) i j
  | 0 => rfl
  | j + 1 => by rw [rowRests, List.length_append, rowRests_cR a b n m i j, cR]; split <;> simp
theorem allRests_cA (a b : List (List Int)) (n m : Nat) : ∀ i, (allRests a b n m i).length = cA (fun i j => RestAt a b n m i j) m i
  | 0 => rfl
  | i + 1 => by rw [allRests, List.length_append, allRests_cA a b n m i, rowRests_cR, cA]
theorem cA_zero (f : Nat → Nat → Prop) : ∀ i, cA f 0 i = 0
  | 0 => rfl
  | i + 1 => by rw [cA, cA_zero f i]; rfl
theorem cA_col (f : Nat → Nat → Prop) (m : Nat) : ∀ i, cA f (m + 1) i = cA f m i + cR (fun a b => f b a) m i
  | 0 => rfl
  | i + 1 => by rw [cA, cA_col f m i, cA, cR, cR]; omega
theorem cA_swap (f : Nat → Nat → Prop) (n : Nat) : ∀ m, cA f m n = cA (fun a b => f b a) n m
  | 0 => by rw [cA_zero]; rfl
  | m + 1 => by rw [cA_col, cA_swap f n m, cA]
theorem cR_congr {f g : Nat → Nat → Prop} {i : Nat} : ∀ {j : Nat}, (∀ l, l < j → (f i l ↔ g i l)) → cR f i j = cR g i j
  | 0, _ => rfl
  | j + 1, h => by rw [cR, cR, cR_congr (fun l hl => h l (by omega)), pb_congr (h j (by omega))]
theorem cA_congr {f g : Nat → Nat → Prop} {m : Nat} : ∀ {i : Nat}, (∀ k l, k < i → l < m → (f k l ↔ g k l)) → cA f m i = cA g m i
  | 0, _ => rfl
  | i + 1, h => by rw [cA, cA, cA_congr (fun k l hk hl => h k l (by omega) hl), cR_congr (fun l hl => h i l (by omega) hl)]
theorem pureR_flip_len {xs ys : List (List Int)} (v : VG xs ys) : (pureR (flip ys ys.length (gr ys 0).length) (flip xs xs.length (gr xs 0).length)).length = (pureR xs ys).length := by
  have v2 := v.flip2
  have hn := v.n
  have hm := v.m
  have h1 := v.tb.m1
  have hl : (flip ys ys.length (gr ys 0).length).length = (gr ys 0).length := flip_len _ _ _
  have hl0 : (gr (flip ys ys.length (gr ys 0).length) 0).length = ys.length := by rw [gr_flip h1]; simp
  rw [pureR, if_pos (pb_true v2), pureR, if_pos (pb_true v), hl, hl0, allRests_cA, allRests_cA, cA_swap]
  rw [← hn, ← hm]
  exact cA_congr fun k l hk hl => rest_flip hk hl
end Go.Proofs.Ytjmfkodbilknlaa

/- Replies that end, in plain words: moves from all pairs at once, as many as there are pairs, come to none just where no row of one more goes on from any. -/
namespace Go.Proofs.Ytjmfkodbilknlaa

/-- Counting what holds in a list. -/
theorem cp_eq {α : Type} {p q : α → Bool} : ∀ {L : List α}, (∀ x ∈ L, p x = true → q x = true) → L.countP p = L.countP q → ∀ x ∈ L, p x = q x
  | [], _, _ => fun x h => by cases h
  | y :: L, h, e => fun x hx => by
    have hL := List.countP_mono_left (fun x hx => h x (List.mem_cons_of_mem _ hx))
    have hy := h y (List.mem_cons_self ..)
    rw [List.countP_cons, List.countP_cons] at e
    have e2 : p y = q y ∧ L.countP p = L.countP q := by
      cases hp : p y <;> cases hq : q y <;> simp [hp, hq] at e hy ⊢ <;> omega
    rcases List.mem_cons.1 hx with rfl | hx
    · exact e2.1
    · exact cp_eq (fun x hx => h x (List.mem_cons_of_mem _ hx)) e2.2 x hx
/-- Sets that shrink, and stay once they have stayed, are empty behind as many steps as there are things, if ever. -/
theorem shrink {α : Type} (L : List α) (R : Nat → α → Bool) (h0 : ∀ s, ∀ x ∈ L, R (s + 1) x = true → R s x = true)
    (hst : ∀ s, (∀ x ∈ L, R (s + 1) x = R s x) → ∀ x ∈ L, R (s + 2) x = R (s + 1) x) (he : ∀ x ∈ L, R (L.length + 1) x = false) : ∀ x ∈ L, R L.length x = false := by
  have stay : ∀ s, (∀ x ∈ L, R (s + 1) x = R s x) → ∀ k, ∀ x ∈ L, R (s + k + 1) x = R (s + k) x := by
    intro s h k
    induction k with
    | zero => exact h
    | succ k ih => exact hst _ ih
  have main : ∀ s, s ≤ L.length → L.countP (R s) + s ≤ L.length ∨ ∃ t, t < s ∧ ∀ x ∈ L, R (t + 1) x = R t x := by
    intro s
    induction s with
    | zero => intro _; exact .inl (by have := List.countP_le_length (p := R 0) (l := L); omega)
    | succ s ih =>
      intro hs
      rcases ih (by omega) with h | ⟨t, ht, h⟩
      · by_cases e : L.countP (R (s + 1)) = L.countP (R s)
        · exact .inr ⟨s, by omega, cp_eq (h0 s) e⟩
        · have := List.countP_mono_left (h0 s)
          exact .inl (by omega)
      · exact .inr ⟨t, by omega, h⟩
  intro x hx
  rcases main L.length (Nat.le_refl _) with h | ⟨t, ht, h⟩
  · have hc : L.countP (R L.length) = 0 := by omega
    have := List.countP_eq_zero.1 hc x hx
    simpa using this
  · have h2 := stay t h (L.length - t) x hx
    rw [show t + (L.length - t) = L.length by omega] at h2
    rw [← h2]; exact he x hx

/-- Where a move leads. -/
theorem repL_in {xs ys : List (List Int)} {n m i j : Nat} (hi : i < n) (hj : j < m) (hl : (gr ys i).length = m) : ∀ r ∈ repL xs ys n i j, ∃ a b : Nat, r = [(a : Int), (b : Int)] ∧ a < n ∧ b < m := by
  intro r hr
  unfold repL at hr
  rcases List.mem_append.1 hr with h | h
  · obtain ⟨x, hx, rfl⟩ := List.mem_map.1 h
    obtain ⟨_, k, hk, _, rfl⟩ := brF_mem.1 hx
    exact ⟨k, j, rfl, by rw [colOf_len] at hk; exact hk, hj⟩
  · obtain ⟨x, hx, rfl⟩ := List.mem_map.1 h
    obtain ⟨_, k, hk, _, rfl⟩ := brF_mem.1 hx
    exact ⟨i, k, rfl, hi, by rw [← hl]; exact hk⟩
theorem repL_len (xs ys : List (List Int)) (n i j : Nat) : (repL xs ys n i j).length ≤ n + (gr ys i).length := by
  unfold repL
  rw [List.length_append, mvA_len, mvB_len]
  have h1 := brF_len (colOf xs n j) i
  have h2 := brF_len (gr ys i) j
  rw [colOf_len] at h1
  omega
/-- All rows of moves from a pair on end within k more moves. -/
def eF (xs ys : List (List Int)) (n : Nat) : Nat → Nat → Nat → Bool
  | 0, i, j => (repL xs ys n i j).isEmpty
  | k + 1, i, j => (repL xs ys n i j).all fun r => eF xs ys n k (gi r 0).toNat (gi r 1).toNat
/-- One more pair. -/
def putP (G : Nat → Nat → Bool) (r : List Int) : Nat → Nat → Bool := fun a b => G a b || (decide (r = [(a : Int), (b : Int)]))
def putPs (G : Nat → Nat → Bool) (L : List (List Int)) : Nat → Nat → Bool := L.foldl putP G
theorem putPs_at : ∀ (L : List (List Int)) (G : Nat → Nat → Bool) (a b : Nat), putPs G L a b = true ↔ G a b = true ∨ [(a : Int), (b : Int)] ∈ L
  | [], G, a, b => by simp [putPs]
  | r :: L, G, a, b => by
    rw [putPs, List.foldl_cons, show L.foldl putP (putP G r) = putPs (putP G r) L from rfl, putPs_at L, List.mem_cons]
    unfold putP
    simp only [Bool.or_eq_true, decide_eq_true_eq]
    constructor
    · rintro ((h | h) | h)
      · exact .inl h
      · exact .inr (.inl h.symm)
      · exact .inr (.inr h)
    · rintro (h | h | h)
      · exact .inl (.inl h)
      · exact .inl (.inr h.symm)
      · exact .inr h
theorem fold_next {α β : Type} (f : β → α → β) (b : β) (L : List α) {k : Nat} (h : k < L.length) : (L.take (k + 1)).foldl f b = f ((L.take k).foldl f b) L[k] := by
  rw [List.take_add_one, List.getElem?_eq_getElem h, List.foldl_append]; rfl
/-- The moves from all marked pairs of a row. -/
noncomputable def rowP (xs ys : List (List Int)) (i : Nat) (G : Nat → Nat → Bool) (l : List Int) : Nat → Nat → Bool := l.foldl (fun G (j : Int) => putPs G (repF xs ys i j)) G
/-- .. and of all rows below. -/
noncomputable def oneP (xs ys : List (List Int)) (F : Nat → Nat → Bool) : Nat → Nat → Nat → Bool
  | 0 => fun _ _ => false
  | i + 1 => rowP xs ys i (oneP xs ys F i) (selL (F i) 3)
theorem rowP_at {xs ys : List (List Int)} {i : Nat} : ∀ (l : List Int) (G : Nat → Nat → Bool) (a b : Nat), rowP xs ys i G l a b = true ↔ G a b = true ∨ ∃ j ∈ l, [(a : Int), (b : Int)] ∈ repF xs ys i j
  | [], G, a, b => by simp [rowP]
  | j :: l, G, a, b => by
    rw [rowP, List.foldl_cons]
    have hh := rowP_at (xs := xs) (ys := ys) (i := i) l (putPs G (repF xs ys i j)) a b
    rw [rowP] at hh
    rw [hh, putPs_at]
    clear hh
    constructor
    · rintro ((h | h) | ⟨k, hk, h⟩)
      · exact .inl h
      · exact .inr ⟨j, List.mem_cons_self .., h⟩
      · exact .inr ⟨k, List.mem_cons_of_mem _ hk, h⟩
    · rintro (h | ⟨k, hk, h⟩)
      · exact .inl (.inl h)
      · rcases List.mem_cons.1 hk with rfl | hk
        · exact .inl (.inr h)
        · exact .inr ⟨k, hk, h⟩
theorem oneP_at {xs ys : List (List Int)} {F : Nat → Nat → Bool} : ∀ (k a b : Nat), oneP xs ys F k a b = true ↔ ∃ i j : Nat, i < k ∧ j < 3 ∧ F i j = true ∧ [(a : Int), (b : Int)] ∈ repF xs ys i j
  | 0, a, b => by simp [oneP]
  | k + 1, a, b => by
    rw [oneP, rowP_at, oneP_at k]
    constructor
    · rintro (⟨i, j, hi, hj, hF, h⟩ | ⟨x, hx, h⟩)
      · exact ⟨i, j, by omega, hj, hF, h⟩
      · obtain ⟨j, hj, hF, rfl⟩ := selL_mem.1 hx
        exact ⟨k, j, by omega, hj, hF, h⟩
    · rintro ⟨i, j, hi, hj, hF, h⟩
      by_cases e : i = k
      · subst e
        exact .inr ⟨(j : Int), selL_mem.2 ⟨j, hj, hF, rfl⟩, h⟩
      · exact .inl ⟨i, j, by omega, hj, hF, h⟩
/-- The pairs that are reached by s moves. -/
noncomputable def mvS (xs ys : List (List Int)) : Nat → Nat → Nat → Bool
  | 0 => fun i j => decide (i < xs.length) && decide (j < (gr xs 0).length)
  | s + 1 => oneP xs ys (mvS xs ys s) 3
theorem repF_val {xs ys : List (List Int)} (v : VG xs ys) {i j : Nat} {r : List Int} (h : r ∈ repF xs ys i j) : i < xs.length ∧ j < (gr xs 0).length ∧ r ∈ repL xs ys xs.length i j := by
  by_cases hi : i < xs.length
  · by_cases hj : j < (gr xs 0).length
    · rw [repF_in v hi hj] at h; exact ⟨hi, hj, h⟩
    · unfold repF at h
      rw [if_neg (by rw [pb_false (p := Blw (gr xs 0).length (j : Int)) (fun k => hj (by have := k.2; omega))]; simp)] at h; cases h
  · unfold repF at h
    rw [if_neg (by rw [pb_false (p := Blw xs.length (i : Int)) (fun k => hi (by have := k.2; omega))]; simp)] at h; cases h
theorem VG.rowy {xs ys : List (List Int)} (v : VG xs ys) {i : Nat} (hi : i < xs.length) : (gr ys i).length = (gr xs 0).length := by
  rw [v.m]; exact v.tb.len (by rw [← v.n]; exact hi)
theorem mvS_in {xs ys : List (List Int)} (v : VG xs ys) : ∀ {s a b}, mvS xs ys s a b = true → a < xs.length ∧ b < (gr xs 0).length
  | 0, a, b, h => by simpa [mvS] using h
  | s + 1, a, b, h => by
    rw [mvS, oneP_at] at h
    obtain ⟨i, j, _, _, _, h⟩ := h
    obtain ⟨hi, hj, h⟩ := repF_val v h
    obtain ⟨a', b', e, ha, hb⟩ := repL_in hi hj (v.rowy hi) _ h
    simp only [List.cons.injEq, and_true] at e
    omega
theorem mvS_next {xs ys : List (List Int)} (v : VG xs ys) {s a b : Nat} : mvS xs ys (s + 1) a b = true ↔ ∃ i j, mvS xs ys s i j = true ∧ [(a : Int), (b : Int)] ∈ repL xs ys xs.length i j := by
  rw [mvS, oneP_at]
  constructor
  · rintro ⟨i, j, _, _, hF, h⟩
    exact ⟨i, j, hF, (repF_val v h).2.2⟩
  · rintro ⟨i, j, hF, h⟩
    obtain ⟨hi, hj⟩ := mvS_in v hF
    have h3 := v.ta.n3
    have h4 := v.ta.m3
    exact ⟨i, j, by omega, by omega, hF, by rw [repF_in v hi hj]; exact h⟩
/-- All pairs. -/
def prs (n m : Nat) : List (Nat × Nat) := (List.range n).flatMap fun i => (List.range m).map fun j => (i, j)
theorem prs_mem {n m : Nat} {p : Nat × Nat} : p ∈ prs n m ↔ p.1 < n ∧ p.2 < m := by
  obtain ⟨a, b⟩ := p
  simp [prs]
theorem prs_len : ∀ n, n < 4 → ∀ m, m < 4 → (prs n m).length = n * m := by decide
theorem walkEnd {xs ys : List (List Int)} (v : VG xs ys) : ∀ k s, (∃ a b, mvS xs ys (s + k + 1) a b = true) ↔ ∃ i j, mvS xs ys s i j = true ∧ eF xs ys xs.length k i j = false
  | 0, s => by
    constructor
    · rintro ⟨a, b, h⟩
      obtain ⟨i, j, hF, h⟩ := (mvS_next v).1 h
      refine ⟨i, j, hF, ?_⟩
      rw [eF]
      cases hq : repL xs ys xs.length i j with
      | nil => rw [hq] at h; cases h
      | cons x l => rfl
    · rintro ⟨i, j, hF, h⟩
      obtain ⟨hi, hj⟩ := mvS_in v hF
      rw [eF] at h
      cases hq : repL xs ys xs.length i j with
      | nil => rw [hq] at h; cases h
      | cons x l =>
        obtain ⟨a, b, e, _, _⟩ := repL_in hi hj (v.rowy hi) x (by rw [hq]; exact List.mem_cons_self ..)
        exact ⟨a, b, (mvS_next v).2 ⟨i, j, hF, by rw [hq, ← e]; exact List.mem_cons_self ..⟩⟩
  | k + 1, s => by
    have ih := walkEnd v k (s + 1)
    rw [show s + (k + 1) + 1 = s + 1 + k + 1 by omega, ih]
    constructor
    · rintro ⟨a, b, hF, he⟩
      obtain ⟨i, j, hF, h⟩ := (mvS_next v).1 hF
      refine ⟨i, j, hF, ?_⟩
      rw [eF, List.all_eq_false]
      exact ⟨_, h, by simpa [gi] using he⟩
    · rintro ⟨i, j, hF, he⟩
      obtain ⟨hi, hj⟩ := mvS_in v hF
      rw [eF, List.all_eq_false] at he
      obtain ⟨r, hr, he⟩ := he
      obtain ⟨a, b, rfl, _, _⟩ := repL_in hi hj (v.rowy hi) r hr
      exact ⟨a, b, (mvS_next v).2 ⟨i, j, hF, hr⟩, by simpa [gi] using he⟩
/-- Replies end from everywhere. -/
structure EnP (xs ys : List (List Int)) : Prop where
  v : VG xs ys
  all : ∀ i j, i < xs.length → j < (gr xs 0).length → eF xs ys xs.length (xs.length * (gr xs 0).length) i j = true
theorem ends_moves {xs ys : List (List Int)} (v : VG xs ys) : EnP xs ys ↔ ∀ a b, mvS xs ys (xs.length * (gr xs 0).length) a b = false := by
  have hl := prs_len xs.length (by have := v.ta.n3; omega) (gr xs 0).length (by have := v.ta.m3; omega)
  have hR : (∀ p ∈ prs xs.length (gr xs 0).length, mvS xs ys ((prs xs.length (gr xs 0).length).length + 1) p.1 p.2 = false) → ∀ p ∈ prs xs.length (gr xs 0).length, mvS xs ys (prs xs.length (gr xs 0).length).length p.1 p.2 = false :=
    shrink _ (fun s (p : Nat × Nat) => mvS xs ys s p.1 p.2) (fun s => by
      induction s with
      | zero => intro p hp _; rw [prs_mem] at hp; simp [mvS, hp.1, hp.2]
      | succ s ih =>
        intro p hp h
        obtain ⟨i, j, hF, h⟩ := (mvS_next v).1 h
        exact (mvS_next v).2 ⟨i, j, ih (i, j) (prs_mem.2 (mvS_in v hF)) hF, h⟩) (fun s hs p hp => by
      rw [Bool.eq_iff_iff]
      rw [mvS_next v, mvS_next v]
      constructor
      · rintro ⟨i, j, hF, h⟩
        exact ⟨i, j, (hs (i, j) (prs_mem.2 (mvS_in v hF))) ▸ hF, h⟩
      · rintro ⟨i, j, hF, h⟩
        exact ⟨i, j, (hs (i, j) (prs_mem.2 (mvS_in v hF))).symm ▸ hF, h⟩)
  rw [hl] at hR
  have hW := walkEnd v (xs.length * (gr xs 0).length) 0
  constructor
  · intro h a b
    cases hab : mvS xs ys (xs.length * (gr xs 0).length) a b with
    | false => rfl
    | true =>
      have hp := mvS_in v hab
      have := hR (fun p _ => by
        cases hx : mvS xs ys (xs.length * (gr xs 0).length + 1) p.1 p.2 with
        | false => rfl
        | true =>
          obtain ⟨i, j, hF, he⟩ := hW.1 ⟨p.1, p.2, by rw [Nat.zero_add]; exact hx⟩
          obtain ⟨hi, hj⟩ := mvS_in v hF
          rw [h.all i j hi hj] at he; cases he) (a, b) (prs_mem.2 hp)
      rw [hab] at this; cases this
  · intro h
    refine ⟨v, fun i j hi hj => ?_⟩
    cases he : eF xs ys xs.length (xs.length * (gr xs 0).length) i j with
    | true => rfl
    | false =>
      obtain ⟨a, b, hx⟩ := hW.2 ⟨i, j, by simp [mvS, hi, hj], he⟩
      rw [Nat.zero_add] at hx
      obtain ⟨i', j', hF, _⟩ := (mvS_next v).1 hx
      rw [h i' j'] at hF; cases hF
end Go.Proofs.Ytjmfkodbilknlaa

/- Pure rests, by the model. -/
namespace Go.Proofs.Ytjmfkodbilknlaa
open Go.RowKit

theorem Try.info32_ : (Try.prog.info? 36).map (fun i => (i.zero, i.size, i.bytes)) = some (some (.slice none 0 0), 1, 24) := by kernel_rfl
end Go.Proofs.Ytjmfkodbilknlaa

/- Best replies, and the pairs to which they lead, by the model. -/
namespace Go.Proofs.Ytjmfkodbilknlaa
open Go.RowKit

/-- The greatest of a number and the first ones of a list. -/
def fm (b : Int) (xs : List Int) : Nat → Int
  | 0 => b
  | k + 1 => if fm b xs k < gi xs k then gi xs k else fm b xs k
theorem fm_ge (b : Int) (xs : List Int) : ∀ k, b ≤ fm b xs k ∧ ∀ j, j < k → gi xs j ≤ fm b xs k
  | 0 => ⟨Int.le_refl _, fun j h => by omega⟩
  | k + 1 => by
    have h := fm_ge b xs k
    simp only [fm]
    split
    · exact ⟨by omega, fun j hj => by
        by_cases hjk : j = k
        · subst hjk; omega
        · have := h.2 j (by omega); omega⟩
    · exact ⟨h.1, fun j hj => by
        by_cases hjk : j = k
        · subst hjk; omega
        · exact h.2 j (by omega)⟩
theorem fm_at (b : Int) (xs : List Int) : ∀ k, fm b xs k = b ∨ ∃ j, j < k ∧ gi xs j = fm b xs k
  | 0 => .inl rfl
  | k + 1 => by
    simp only [fm]
    split
    · exact .inr ⟨k, by omega, rfl⟩
    · rcases fm_at b xs k with h | ⟨j, hj, h⟩
      · exact .inl h
      · exact .inr ⟨j, by omega, h⟩
theorem fm_mxl {xs : List Int} {i : Nat} (h : i < xs.length) : fm (gi xs i) xs xs.length = mxl xs := by
  obtain ⟨j, hj, e⟩ : ∃ j, j < xs.length ∧ gi xs j = fm (gi xs i) xs xs.length := by
    rcases fm_at (gi xs i) xs xs.length with h1 | ⟨j, hj, e⟩
    · exact ⟨i, h, h1.symm⟩
    · exact ⟨j, hj, e⟩
  rw [← e, mxl_iff hj]
  intro k hk
  rw [e]
  exact (fm_ge _ _ _).2 k hk
theorem fm_bd {b lo hi : Int} {xs : List Int} (hb : lo ≤ b ∧ b ≤ hi) : ∀ k, (∀ j, j < k → lo ≤ gi xs j ∧ gi xs j ≤ hi) → lo ≤ fm b xs k ∧ fm b xs k ≤ hi
  | 0, _ => hb
  | k + 1, h => by
    have h1 := fm_bd hb k (fun j hj => h j (by omega))
    have h2 := h k (by omega)
    simp only [fm]; split <;> omega
/-- Which replies are best: the model asks both at once. -/
def brB (pays : List Int) (now : Nat) : Nat → Bool := fun k => decide (gi pays k = mxl pays) && decide (gi pays now < mxl pays)
theorem le_mxl {xs : List Int} {k : Nat} (h : k < xs.length) : gi xs k ≤ mxl xs := mx_ge xs (by omega)
theorem brB_sel {pays : List Int} {now : Nat} (h : now < pays.length) : selL (brB pays now) pays.length = brF pays now := by
  have h1 := le_mxl h
  unfold brF
  by_cases he : gi pays now = mxl pays
  · rw [if_pos he]
    have : selL (brB pays now) pays.length = selL (fun _ => false) pays.length := selL_congr fun k _ => by simp [brB, he]
    rw [this]; simp [selL]
  · rw [if_neg he]
    exact selL_congr fun k _ => by have : gi pays now < mxl pays := by omega
                                   simp [brB, atB, this]
theorem mvA_yes {j k : Nat} {f : Nat → Bool} (h : f k = true) : mvA j (selL f (k + 1)) = mvA j (selL f k) ++ [[(k : Int), (j : Int)]] := by rw [selL_yes h, mvA, mvA, List.map_append]; rfl
theorem mvB_yes {j k : Nat} {f : Nat → Bool} (h : f k = true) : mvB j (selL f (k + 1)) = mvB j (selL f k) ++ [[(j : Int), (k : Int)]] := by rw [selL_yes h, mvB, mvB, List.map_append]; rfl
/-- What the loops know. -/
structure RQ9 (p : GP) (w w1 : World) (v : Value) (vs : List Value) (acc xs ys : List (List Int)) (wr : World) : Prop where
  tm : TM w1 v vs acc wr
  gt : GT p w w1 w.heap.size xs ys
theorem RQ9.gr_ {p w w1 v vs acc xs ys wr} (h : RQ9 p w w1 v vs acc xs ys wr) : GT p w wr w.heap.size xs ys := h.gt.up h.tm.up

set_option maxRecDepth 100000 in
set_option maxHeartbeats 6400000 in
theorem replies_any (p : GP) (i j : Nat) (xs ys : List (List Int)) (w : World) (hg : GV p w xs ys) (hi : i < p.n) (hj : j < p.m) :
    Calls Try.prog 77 #[.agg #[.slice (some ⟨p.ba, p.oa, none⟩) p.n p.c, .slice (some ⟨p.bb, p.ob, none⟩) p.n p.d], .int .i64 i, .int .i64 j] w (NewT w (repL xs ys p.n i j)) := by
  have HT := Lib.hid (GT.start hg)
  have hn3 := hg.tx.n3
  have hm3 := hg.tx.m3
  have hn1 := hg.tx.n1
  have hm1 := hg.tx.m1
  have HLY := Lib.hid (show (gr ys i).length = p.m from (hg.ty.ints i hi).len)
  have HBA := Lib.hid (fun k (hk : k < p.n) => show -9 ≤ gi (colOf xs p.n j) k ∧ gi (colOf xs p.n j) k ≤ 9 by rw [gi_colOf hk]; exact hg.tx.bd k j hk hj)
  have HBB := Lib.hid (fun k (hk : k < p.m) => show -9 ≤ gi (gr ys i) k ∧ gi (gr ys i) k ≤ 9 from hg.ty.bd i k hi hk)
  have HMA := Lib.hid (show fm (gi (colOf xs p.n j) i) (colOf xs p.n j) p.n = mxl (colOf xs p.n j) by have h := fm_mxl (xs := colOf xs p.n j) (i := i) (by rw [colOf_len]; exact hi); rw [colOf_len] at h; exact h)
  have HMB := Lib.hid (show fm (gi (gr ys i) j) (gr ys i) p.m = mxl (gr ys i) by have h := fm_mxl (xs := gr ys i) (i := j) (by rw [HLY.out]; exact hj); rw [HLY.out] at h; exact h)
  have HSA := Lib.hid (show mvA j (selL (brB (colOf xs p.n j) i) p.n) = mvA j (brF (colOf xs p.n j) i) by have h := brB_sel (pays := colOf xs p.n j) (now := i) (by rw [colOf_len]; exact hi); rw [colOf_len] at h; rw [h])
  have HSB := Lib.hid (show mvB i (selL (brB (gr ys i) j) p.m) = mvB i (brF (gr ys i) j) by have h := brB_sel (pays := gr ys i) (now := j) (by rw [HLY.out]; exact hj); rw [HLY.out] at h; rw [h])
  have HA0 := Lib.hid (gi_colOf (xs := xs) (j := j) hi)
  clear hg
  go_enter Try.func77, Try.ntmps77
  have hw1 : w.heap.size < (w.alloc (.cells #[.slice (some ⟨p.ba, p.oa, none⟩) p.n p.c, .slice (some ⟨p.bb, p.ob, none⟩) p.n p.d] 43)).heap.size := by simp
  have HTM := Lib.hid (TM.start (w.alloc (.cells #[.slice (some ⟨p.ba, p.oa, none⟩) p.n p.c, .slice (some ⟨p.bb, p.ob, none⟩) p.n p.d] 43)))
  have HT1 := Lib.hid (HT.out.up (below_alloc _ (.cells #[] 36)))
  have k0 := HT1.out.c0
  have r0 := HT1.out.gv.tx.row i hi
  have c0 := HT1.out.gv.tx.cell i j hi hj
  rw [← HA0.out] at c0
  go_wp2
  clear k0 r0 c0
  have hwz : (w.alloc (.cells #[.slice (some ⟨p.ba, p.oa, none⟩) p.n p.c, .slice (some ⟨p.bb, p.ob, none⟩) p.n p.d] 43)).heap.size = w.heap.size + 1 := by simp
  simp only [hwz] at HTM
  generalize w.alloc (.cells #[.slice (some ⟨p.ba, p.oa, none⟩) p.n p.c, .slice (some ⟨p.bb, p.ob, none⟩) p.n p.d] 43) = w1 at *
  clear hwz hw1
  generalize hcol : colOf xs p.n j = col at *
  have HCOL := Lib.hid hcol
  clear hcol HT1
  generalize hv0 : (Value.slice (some (Addr.mk (w.heap.size + 1) 0 none)) 0 0) = v0 at *
  obtain ⟨w2, hw2⟩ : ∃ w2, w2 = w1.alloc (.cells #[] 36) := ⟨_, rfl⟩
  rw [← hw2] at HTM ⊢
  have HQ0 := Lib.hid (RQ9.mk (p := p) HTM.out HT.out)
  clear HTM HT hw2 hv0
  have hb0 := HBA.out i hi
  go_loopw [8, 9] (fun b s wr => ∃ (k : Nat), k ≤ p.n ∧ s = .int .i64 k ∧ b = .int .i64 (fm (gi col i) col k) ∧ wr = w2) (fun _ s _ => p.n - (intOf s).toNat)
  case atStart => exact ⟨0, Nat.zero_le _, rfl, rfl, rfl⟩
  case round =>
    obtain ⟨k, hk, rfl, rfl, rfl⟩ := hrel
    have k0 := HQ0.out.gr_.c0
    by_cases hkn : k < p.n
    · have r1 := HQ0.out.gr_.gv.tx.row k hkn
      have c1 := HQ0.out.gr_.gv.tx.cell k j hkn hj
      rw [← gi_colOf (n := p.n) hkn, HCOL.out] at c1
      have b1 := fm_bd hb0 k (fun q hq => HBA.out q (by omega))
      have b2 := HBA.out k hkn
      have HF : Hid (fm (gi col i) col (k + 1) = if fm (gi col i) col k < gi col k then gi col k else fm (gi col i) col k) := Lib.hid rfl
      generalize fm (gi col i) col k = f at *
      generalize gi col k = g at *
      go_wp2
      go_roundw
      case rel => exact ⟨k + 1, by omega, by go_num, congrArg (Value.int .i64) (by rw [HF.out]), by first | exact rfl | trivial⟩
      case measure => simp [intOf]; omega
    · obtain rfl : k = p.n := by omega
      rw [HMA.out]
      have bm : -9 ≤ mxl col ∧ mxl col ≤ 9 := by rw [← HMA.out]; exact fm_bd hb0 _ HBA.out
      go_wp2
      clear k0
      go_loopw [7, 10] (fun v s wr => ∃ (k : Nat) (vs : List Value), k ≤ p.n ∧ s = .int .i64 k ∧ Hid (RQ9 p w w1 v vs (mvA j (selL (brB col i) k)) xs ys wr)) (fun _ s _ => p.n - (intOf s).toNat)
      case atStart => exact ⟨0, [], Nat.zero_le _, rfl, HQ0⟩
      case round =>
        clear HQ0
        obtain ⟨k, vs, hk, rfl, HQ⟩ := hrel
        obtain ⟨Av, cv, rfl⟩ := HQ.out.tm.bo.form
        have k0 := HQ.out.gr_.c0
        have k1 := HQ.out.gr_.c1
        by_cases hkn : k < p.n
        · have r1 := HQ.out.gr_.gv.tx.row k hkn
          have r2 := HQ.out.gr_.gv.tx.row i hi
          have c1 := HQ.out.gr_.gv.tx.cell k j hkn hj
          have c2 := HQ.out.gr_.gv.tx.cell i j hi hj
          rw [← gi_colOf (n := p.n) hkn, HCOL.out] at c1
          rw [← HA0.out] at c2
          by_cases hm : gi col k = mxl col
          · have hm' : (gi col k == mxl col) = true := by simp [hm]
            by_cases hl : gi col i < mxl col
            · have HCS := Lib.hid (mvA_yes (j := j) (f := brB col i) (k := k) (by simp [brB, hm, hl]))
              have HLA := Lib.hid (show (mvA j (selL (brB col i) k)).length ≤ 3 by rw [mvA_len]; have := selL_len (brB col i) k; omega)
              have HRT := Lib.hid HQ.out.tm
              clear hm
              generalize mvA j (selL (brB col i) k) = acc at *
              generalize gi col k = g at *
              have hb3 := below_alloc wr (.cells #[.int .i64 k, .int .i64 j] 3)
              have hb4 := below_alloc (wr.alloc (.cells #[.int .i64 k, .int .i64 j] 3)) (.cells #[.slice (some ⟨wr.heap.size, 0, none⟩) 2 2] 36)
              have HB4 := Lib.hid ((HRT.out.bo.below hb3).below hb4).own
              have HN := Lib.hid (cell_one_new (wr.alloc (.cells #[.int .i64 k, .int .i64 j] 3)) (.slice (some ⟨wr.heap.size, 0, none⟩) 2 2) 36)
              have HPO := Lib.hid (pair_own (lo := wr.heap.size) (w := wr) k j (by omega) (by omega) (Nat.le_refl _))
              have hlh : w1.heap.size ≤ wr.heap.size := HRT.out.up.size
              clear hb3 hb4
              obtain ⟨i0, hi0, hz0, hz1, hz2⟩ := info_parts Try.info_row9
              go_wp2_with (at_builtin; refine wpList_append_own_at _ rfl _ _ 22 rfl w1.heap.size 36 i0 (.slice none 0 0) 1 24 Try.underlying22 hi0 hz0 hz1 hz2 rfl (by decide) _ (acc).length vs rfl HB4.out ⟨wr.heap.size + 1, 0, none⟩ 1 1 [.slice (some ⟨wr.heap.size, 0, none⟩) 2 2] rfl rfl ?c1 ?c2 ?c3 ?c4 ?c5 ?_)
              case c1 => have h := HN.out; rw [World.size_alloc] at h; exact h
              case c2 => intro u hu; simp at hu; subst hu; rfl
              case c3 => have := HLA.out; unfold maxLen; omega
              case c4 => have := HLA.out; omega
              case c5 => simp; omega
              intro v' w5 hown' hgrow _ hat
              have hgrow2 : ((wr.alloc (.cells #[.int .i64 k, .int .i64 j] 3)).alloc (.cells #[.slice (some ⟨wr.heap.size, 0, none⟩) 2 2] 36)).grownBy w5 (Value.slice Av (acc).length cv).ownBlock := hgrow
              have hat2 : v'.ownBlock = (Value.slice Av (acc).length cv).ownBlock ∨ v'.ownBlock = some ((wr.alloc (.cells #[.int .i64 k, .int .i64 j] 3)).heap.size + 1) := by simpa using hat
              have HQ5 := Lib.hid (RQ9.mk (p := p) (HQ.out.tm.push (r := [(k : Int), (j : Int)]) (below_alloc wr (.cells #[.int .i64 k, .int .i64 j] 3)) (HPO.out.mono (Nat.le_refl _) (by simp)) hown' hgrow2 hat2) HQ.out.gt)
              clear HB4 HN HPO hown' hgrow hat hgrow2 hat2 HLA
              clear HQ HRT c1 c2 r1 r2 k0 k1
              go_wp2
              go_roundw
              case rel => exact ⟨k + 1, _, by omega, by go_num, Lib.hid (by rw [HCS.out]; exact HQ5.out)⟩
              case measure => simp [intOf]; omega
            · have HCS := Lib.hid (show mvA j (selL (brB col i) (k + 1)) = mvA j (selL (brB col i) k) by rw [selL_no (by simp [brB, hl])])
              go_wp2
              go_roundw
              case rel => exact ⟨k + 1, vs, by omega, by go_num, Lib.hid (by rw [HCS.out]; exact HQ.out)⟩
              case measure => simp [intOf]; omega
          · have hm' : (gi col k == mxl col) = false := by simp [hm]
            have HCS := Lib.hid (show mvA j (selL (brB col i) (k + 1)) = mvA j (selL (brB col i) k) by rw [selL_no (by simp [brB, hm])])
            clear hm
            go_wp2
            go_roundw
            case rel => exact ⟨k + 1, vs, by omega, by go_num, Lib.hid (by rw [HCS.out]; exact HQ.out)⟩
            case measure => simp [intOf]; omega
        · obtain rfl : k = p.n := by omega
          have r2 := HQ.out.gr_.gv.ty.row i hi
          have c2 := HQ.out.gr_.gv.ty.cell i j hi hj
          have hb1 := HBB.out j hj
          have HLA1 := Lib.hid (show (mvA j (selL (brB col i) p.n)).length ≤ 3 by rw [mvA_len]; have := selL_len (brB col i) p.n; omega)
          generalize hac0 : mvA j (selL (brB col i) p.n) = ac0 at *
          have HAC0 := Lib.hid hac0
          clear hac0
          simp only [show g2 ys i j = gi (gr ys i) j from rfl] at c2
          generalize hrow : gr ys i = row at *
          have HROW := Lib.hid hrow
          clear hrow
          go_wp2
          clear k0 k1 r2 c2
          obtain ⟨w3, hw3⟩ : ∃ w3, w3 = wr := ⟨_, rfl⟩
          rw [← hw3] at HQ ⊢
          clear hw3
          go_loopw [8, 11] (fun b s wr => ∃ (k : Nat), k ≤ p.m ∧ s = .int .i64 k ∧ b = .int .i64 (fm (gi row j) row k) ∧ wr = w3) (fun _ s _ => p.m - (intOf s).toNat)
          case atStart => exact ⟨0, Nat.zero_le _, rfl, rfl, rfl⟩
          case round =>
            obtain ⟨k, hk, rfl, rfl, rfl⟩ := hrel
            have k1 := HQ.out.gr_.c1
            have r0 := HQ.out.gr_.gv.ty.row 0 hn1
            simp only [Nat.add_zero] at r0
            by_cases hkm : k < p.m
            · have r1 := HQ.out.gr_.gv.ty.row i hi
              have c1 := HQ.out.gr_.gv.ty.cell i k hi hkm
              rw [show g2 ys i k = gi row k by rw [← HROW.out]; rfl] at c1
              have b1 := fm_bd hb1 k (fun q hq => HBB.out q (by omega))
              have b2 := HBB.out k hkm
              have HF : Hid (fm (gi row j) row (k + 1) = if fm (gi row j) row k < gi row k then gi row k else fm (gi row j) row k) := Lib.hid rfl
              generalize fm (gi row j) row k = f at *
              generalize gi row k = g at *
              go_wp2
              go_roundw
              case rel => exact ⟨k + 1, by omega, by go_num, congrArg (Value.int .i64) (by rw [HF.out]), by first | exact rfl | trivial⟩
              case measure => simp [intOf]; omega
            · obtain rfl : k = p.m := by omega
              rw [HMB.out]
              have bm2 : -9 ≤ mxl row ∧ mxl row ≤ 9 := by rw [← HMB.out]; exact fm_bd hb1 _ HBB.out
              go_wp2
              clear k1 r0
              go_loopw [7, 12] (fun v s wr => ∃ (k : Nat) (vs : List Value), k ≤ p.m ∧ s = .int .i64 k ∧ Hid (RQ9 p w w1 v vs (ac0 ++ mvB i (selL (brB row j) k)) xs ys wr)) (fun _ s _ => p.m - (intOf s).toNat)
              case atStart => exact ⟨0, vs, Nat.zero_le _, rfl, Lib.hid (by simpa [mvB, selL] using HQ.out)⟩
              case round =>
                clear HQ vs
                obtain ⟨k, vs, hk, rfl, HQ⟩ := hrel
                obtain ⟨Av, cv, rfl⟩ := HQ.out.tm.bo.form
                have k1 := HQ.out.gr_.c1
                have r0 := HQ.out.gr_.gv.ty.row 0 hn1
                simp only [Nat.add_zero] at r0
                by_cases hkm : k < p.m
                · have r1 := HQ.out.gr_.gv.ty.row i hi
                  have c1 := HQ.out.gr_.gv.ty.cell i k hi hkm
                  have c2 := HQ.out.gr_.gv.ty.cell i j hi hj
                  rw [show g2 ys i k = gi row k by rw [← HROW.out]; rfl] at c1
                  rw [show g2 ys i j = gi row j by rw [← HROW.out]; rfl] at c2
                  by_cases hm : gi row k = mxl row
                  · have hm' : (gi row k == mxl row) = true := by simp [hm]
                    by_cases hl : gi row j < mxl row
                    · have HCS := Lib.hid (mvB_yes (j := i) (f := brB row j) (k := k) (by simp [brB, hm, hl]))
                      have HLA := Lib.hid (show (ac0 ++ mvB i (selL (brB row j) k)).length ≤ 6 by rw [List.length_append, mvB_len]; have := selL_len (brB row j) k; have := HLA1.out; omega)
                      have HRT := Lib.hid HQ.out.tm
                      clear hm
                      generalize hpart : mvB i (selL (brB row j) k) = part at *
                      clear hpart
                      generalize hacc : ac0 ++ part = acc at *
                      have HACC := Lib.hid hacc
                      clear hacc
                      generalize gi row k = g at *
                      have hb3 := below_alloc wr (.cells #[.int .i64 i, .int .i64 k] 3)
                      have hb4 := below_alloc (wr.alloc (.cells #[.int .i64 i, .int .i64 k] 3)) (.cells #[.slice (some ⟨wr.heap.size, 0, none⟩) 2 2] 36)
                      have HB4 := Lib.hid ((HRT.out.bo.below hb3).below hb4).own
                      have HN := Lib.hid (cell_one_new (wr.alloc (.cells #[.int .i64 i, .int .i64 k] 3)) (.slice (some ⟨wr.heap.size, 0, none⟩) 2 2) 36)
                      have HPO := Lib.hid (pair_own (lo := wr.heap.size) (w := wr) i k (by omega) (by omega) (Nat.le_refl _))
                      have hlh : w1.heap.size ≤ wr.heap.size := HRT.out.up.size
                      clear hb3 hb4
                      obtain ⟨i0, hi0, hz0, hz1, hz2⟩ := info_parts Try.info_row9
                      go_wp2_with (at_builtin; refine wpList_append_own_at _ rfl _ _ 22 rfl w1.heap.size 36 i0 (.slice none 0 0) 1 24 Try.underlying22 hi0 hz0 hz1 hz2 rfl (by decide) _ (acc).length vs rfl HB4.out ⟨wr.heap.size + 1, 0, none⟩ 1 1 [.slice (some ⟨wr.heap.size, 0, none⟩) 2 2] rfl rfl ?c1 ?c2 ?c3 ?c4 ?c5 ?_)
                      case c1 => have h := HN.out; rw [World.size_alloc] at h; exact h
                      case c2 => intro u hu; simp at hu; subst hu; rfl
                      case c3 => have := HLA.out; unfold maxLen; omega
                      case c4 => have := HLA.out; omega
                      case c5 => simp; omega
                      intro v' w5 hown' hgrow _ hat
                      have hgrow2 : ((wr.alloc (.cells #[.int .i64 i, .int .i64 k] 3)).alloc (.cells #[.slice (some ⟨wr.heap.size, 0, none⟩) 2 2] 36)).grownBy w5 (Value.slice Av (acc).length cv).ownBlock := hgrow
                      have hat2 : v'.ownBlock = (Value.slice Av (acc).length cv).ownBlock ∨ v'.ownBlock = some ((wr.alloc (.cells #[.int .i64 i, .int .i64 k] 3)).heap.size + 1) := by simpa using hat
                      have HQ5 := Lib.hid (RQ9.mk (p := p) (HQ.out.tm.push (r := [(i : Int), (k : Int)]) (below_alloc wr (.cells #[.int .i64 i, .int .i64 k] 3)) (HPO.out.mono (Nat.le_refl _) (by simp)) hown' hgrow2 hat2) HQ.out.gt)
                      clear HB4 HN HPO hown' hgrow hat hgrow2 hat2 HLA
                      clear HQ HRT c1 c2 r0 r1 k1
                      go_wp2
                      go_roundw
                      case rel => exact ⟨k + 1, _, by omega, by go_num, Lib.hid (by rw [HCS.out, ← List.append_assoc, HACC.out]; exact HQ5.out)⟩
                      case measure => simp [intOf]; omega
                    · have HCS := Lib.hid (show mvB i (selL (brB row j) (k + 1)) = mvB i (selL (brB row j) k) by rw [selL_no (by simp [brB, hl])])
                      go_wp2
                      go_roundw
                      case rel => exact ⟨k + 1, vs, by omega, by go_num, Lib.hid (by rw [HCS.out]; exact HQ.out)⟩
                      case measure => simp [intOf]; omega
                  · have hm' : (gi row k == mxl row) = false := by simp [hm]
                    have HCS := Lib.hid (show mvB i (selL (brB row j) (k + 1)) = mvB i (selL (brB row j) k) by rw [selL_no (by simp [brB, hm])])
                    clear hm
                    go_wp2
                    go_roundw
                    case rel => exact ⟨k + 1, vs, by omega, by go_num, Lib.hid (by rw [HCS.out]; exact HQ.out)⟩
                    case measure => simp [intOf]; omega
                · obtain rfl : k = p.m := by omega
                  have HE := Lib.hid (show ac0 ++ mvB i (selL (brB row j) p.m) = repL xs ys p.n i j by rw [repL, HCOL.out, HROW.out, ← HSA.out, ← HSB.out])
                  have HNT := Lib.hid (NewT.from HQ.out.gt.below (HQ.out.tm.new (by rw [List.length_append, mvB_len]; have := HLA1.out; have := selL_len (brB row j) p.m; omega)))
                  clear HQ
                  go_wp2
                  go_ret
                  exact NewT.is HE.out HNT.out

end Go.Proofs.Ytjmfkodbilknlaa

