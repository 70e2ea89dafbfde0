/- Texts merged: K8 K9 LO8 D4 K4 Math20 Z4 Z5 IB C92 Pl1 Math60 Math81 Math82 Math85 EA3 EA4 D2. -/
import Derived.Test.YtbpjblefmammcaaQ11
import Derived.Laws.CopyOwn
/- The next shares, by both programs. -/
namespace Go.Proofs.Ytbpjblefmammcaa
open Go.RowKit

/-- What the next shares are to each other. -/
def nxV (a : List (List Int)) (x : List Int) (n i : Nat) : Int := gi x i * dotr a x i n
def nxL (a : List (List Int)) (x : List Int) (n k : Nat) : List Int := (List.range k).map (nxV a x n)
theorem nxL_succ (a : List (List Int)) (x : List Int) (n k : Nat) : nxL a x n (k + 1) = nxL a x n k ++ [nxV a x n k] := by simp [nxL, List.range_succ]
theorem nxL_len (a : List (List Int)) (x : List Int) (n k : Nat) : (nxL a x n k).length = k := by simp [nxL]
theorem gi_nxL {a : List (List Int)} {x : List Int} {n k i : Nat} (h : i < k) : gi (nxL a x n k) i = nxV a x n i := gi_range h
theorem VQ.len2' {a : List (List Int)} {n : Nat} (v : VQ a) (hl : a.length = n) : (gr a 0).length = n := by have := v.2; omega
theorem dotr_pos {a : List (List Int)} {x : List Int} {i n : Nat} (ha : ∀ j, j < n → 1 ≤ g2 a i j) (hx : ∀ j, j < n → 0 ≤ gi x j) : ∀ {k}, k ≤ n → sm x k ≤ dotr a x i k
  | 0, _ => Int.le_refl _
  | k + 1, h => by
    have h1 := dotr_pos ha hx (k := k) (by omega)
    have h2 := ha k (by omega)
    have h3 := hx k (by omega)
    have h4 : 1 * gi x k ≤ g2 a i k * gi x k := Int.mul_le_mul_of_nonneg_right h2 h3
    simp only [sm, dotr]
    omega
/-- A field and shares. -/
structure FS (a : List (List Int)) (x : List Int) (n : Nat) : Prop where
  f : VF a
  s : VS x (n : Int)
  l : a.length = n
theorem FS.n3 {a x n} (h : FS a x n) : 1 ≤ n ∧ n ≤ 3 := by have := h.f.q.1.n1; have := h.f.q.1.n3; have := h.l; omega
theorem FS.xl {a x n} (h : FS a x n) : x.length = n := by have := h.s.1; omega
theorem FS.x {a x n} (h : FS a x n) : ∀ j, j < n → 0 ≤ gi x j ∧ gi x j ≤ 1000 := VS.bds h.s
theorem FS.a {a x n} (h : FS a x n) {i j : Nat} (hi : i < n) (hj : j < n) : 1 ≤ g2 a i j ∧ g2 a i j ≤ 9 := by
  have hl := h.l
  have h1 := h.f.p i j (by omega) (by omega)
  have h2 := h.f.q.1.bd (i := i) (j := j) (by omega) (by have := h.f.q.2; omega)
  omega
theorem FS.dot {a x n} (h : FS a x n) {i : Nat} (hi : i < n) : 1 ≤ dotr a x i n ∧ dotr a x i n ≤ 27000 := by
  have h0 := h.n3
  have h1 := dotr_pos (a := a) (x := x) (i := i) (n := n) (fun j hj => (h.a hi hj).1) (fun j hj => (h.x j hj).1) (Nat.le_refl n)
  have h2 := dotr_bd (a := a) (w := x) (i := i) (m := n) (fun j hj => by have := h.a hi hj; omega) h.x (Nat.le_refl n)
  have h3 := h.s.2.2
  unfold tot at h3
  rw [h.xl] at h3
  omega
theorem FS.nx {a x n} (h : FS a x n) {i : Nat} (hi : i < n) : 0 ≤ nxV a x n i ∧ nxV a x n i ≤ 27000000 ∧ (0 < gi x i → 0 < nxV a x n i) := by
  have h1 := h.dot hi
  have h2 := h.x i hi
  unfold nxV
  have h3 : 0 * dotr a x i n ≤ gi x i * dotr a x i n := Int.mul_le_mul_of_nonneg_right h2.1 (by omega)
  have h4 : gi x i * dotr a x i n ≤ 1000 * 27000 := Int.mul_le_mul h2.2 h1.2 (by omega) (by omega)
  exact ⟨by omega, by omega, fun h => Int.mul_pos h (by omega)⟩
theorem sm_has {x : List Int} : ∀ {k}, (∀ j, j < k → 0 ≤ gi x j) → 0 < sm x k → ∃ j, j < k ∧ 0 < gi x j
  | 0, _, h => by simp [sm] at h
  | k + 1, hp, h => by
    by_cases e : 0 < gi x k
    · exact ⟨k, by omega, e⟩
    · have h1 := hp k (by omega)
      obtain ⟨j, hj, hp'⟩ := sm_has (x := x) (k := k) (fun j hj => hp j (by omega)) (by simp only [sm] at h; omega)
      exact ⟨j, by omega, hp'⟩
theorem FS.clr {a x n} (h : FS a x n) : ClrP (nxL a x n n) ∧ 0 < gcdL (nxL a x n n) n := by
  have h0 := h.s.2.2
  unfold tot at h0
  rw [h.xl] at h0
  obtain ⟨j, hj, hp⟩ := sm_has (fun j hj => (h.x j hj).1) h0
  have hc : ClrP (nxL a x n n) := by
    refine ⟨⟨j, by rw [nxL_len]; exact hj, ?_⟩, .inl fun p hp => ?_⟩
    · rw [gi_nxL hj]; have := (h.nx hj).2.2 hp; omega
    · rw [nxL_len] at hp; rw [gi_nxL hp]; exact (h.nx hp).1
  exact ⟨hc, (clr_yes (nxL_len a x n n) hc).1⟩
theorem FS.mid {a x n} (h : FS a x n) : ∀ p, p < (nxL a x n n).length → Mid (gi (nxL a x n n) p) := fun p hp => by
  rw [nxL_len] at hp
  rw [gi_nxL hp]
  have := h.nx hp
  unfold Mid
  omega
/-- What NextShares answers. -/
noncomputable def nsF (a : List (List Int)) (x : List Int) : List Int := if pb (VF a ∧ VS x a.length) = true then clrL (nxL a x a.length a.length) (gcdL (nxL a x a.length a.length) a.length) a.length else []
theorem nsF_yes {a : List (List Int)} {x : List Int} {n : Nat} (h : FS a x n) : nsF a x = clrL (nxL a x n n) (gcdL (nxL a x n n) n) n := by
  unfold nsF; rw [if_pos (pb_true ⟨h.f, by rw [h.l]; exact h.s⟩), h.l]
theorem nsF_no {a : List (List Int)} {x : List Int} (h : ¬ (VF a ∧ VS x a.length)) : nsF a x = [] := by unfold nsF; rw [if_neg (by rw [pb_false h]; decide)]
theorem FS.of {a : List (List Int)} {x : List Int} {n : Nat} (hl : a.length = n) (hf : VF a) (hs : VS x (n : Int)) : FS a x n := ⟨hf, hs, hl⟩
theorem nsF_le (a : List (List Int)) (x : List Int) : (nsF a x).length ≤ 100 := by
  by_cases h : VF a ∧ VS x a.length
  · have hf : FS a x a.length := ⟨h.1, h.2, rfl⟩
    have := hf.n3
    rw [nsF_yes hf, clrL_len]; omega
  · rw [nsF_no h]; simp

end Go.Proofs.Ytbpjblefmammcaa

/- NextShares, by both programs. -/
namespace Go.Proofs.Ytbpjblefmammcaa
open Go.RowKit

theorem NewI.empty {w w' : World} {ys : List Int} (h : Below w.heap.size w w') (hy : ys = []) : NewI w ys (.returned (.slice none 0 0)) w' := by
  subst hy; exact ⟨none, 0, 0, 0, rfl, rfl, OwnI.nil _ _ _ _, h⟩
theorem NewI.from {w w1 w2 : World} {ys : List Int} {e : Ending} (h : Below w.heap.size w w1) (k : NewI w1 ys e w2) : NewI w ys e w2 := by
  obtain ⟨A, n, c, g, he, hn, ho, hb⟩ := k
  exact ⟨A, n, c, g, he, hn, ho.mono h.size (Nat.le_refl _), below_up h hb⟩


end Go.Proofs.Ytbpjblefmammcaa

/- What is left over, by the program: the marked. -/
namespace Go.Proofs.Ytbpjblefmammcaa
open Go.RowKit

theorem selL_yes {f : Nat → Bool} {k : Nat} (h : f k = true) : selL f (k + 1) = selL f k ++ [(k : Int)] := by simp [selL, List.range_succ, List.filter_append, h]
theorem selL_no {f : Nat → Bool} {k : Nat} (h : f k = false) : selL f (k + 1) = selL f k := by simp [selL, List.range_succ, List.filter_append, h]
theorem selL_small (f : Nat → Bool) (n : Nat) (hn : n ≤ 100) : ∀ y ∈ selL f n, -1000000000000000 ≤ y ∧ y ≤ 1000000000000000 := fun y hy => by
  obtain ⟨k, hk, _, rfl⟩ := selL_mem.1 hy
  omega

set_option maxRecDepth 100000 in
set_option maxHeartbeats 3200000 in
theorem marked_any (m : Nat → Bool) (w : World) : Calls Try.prog 92 #[.agg (bs3 m)] w (NewI w (selL m 3)) := by
  have HB := Lib.hid (below_alloc w (.cells (bs3 m) 80))
  have HK := Lib.hid (blk_new w 80 (bs3 m))
  go_enter Try.func92, Try.ntmps92
  have c0 := blk_cell HK.out (i := 0) (v := .bool (m 0)) rfl
  have c1 := blk_cell HK.out (i := 1) (v := .bool (m 1)) rfl
  have c2 := blk_cell HK.out (i := 2) (v := .bool (m 2)) rfl
  go_wp2
  clear c0 c1 c2 HK
  generalize w.alloc (.cells (bs3 m) 80) = W1 at *
  have HS0 := Lib.hid (IU.nil W1)
  go_loopw [3, 7] (fun v i wr => ∃ k : Nat, k ≤ 3 ∧ i = .int .i64 k ∧ Hid (IU W1 v (selL m k) wr)) (fun _ i _ => 3 - (intOf i).toNat)
  case atStart => exact ⟨0, by omega, rfl, HS0⟩
  case round =>
    clear HS0
    obtain ⟨k, hk, rfl, HI⟩ := hrel
    obtain ⟨Av, cv, rfl⟩ := HI.out.bi.form
    by_cases hlt : k < 3
    · have ix : ∀ W, (Instr.index 80 (.agg #[.bool (m 0), .bool (m 1), .bool (m 2)]) (.int .i64 k)).run Try.prog W = .ok (.bool (m k)) W := by
        have : k = 0 ∨ k = 1 ∨ k = 2 := by omega
        rcases this with rfl | rfl | rfl <;> exact fun _ => by kernel_rfl
      cases hm : m k
      · have HCS := Lib.hid (selL_no hm)
        rw [hm] at ix
        clear hm
        go_wp2
        clear ix
        go_roundw
        case rel => exact ⟨k + 1, by omega, by go_num, Lib.hid (by rw [HCS.out]; exact HI.out)⟩
        case measure => simp [intOf]; omega
      · have HCS := Lib.hid (selL_yes hm)
        rw [hm] at ix
        clear hm
        have HML := Lib.hid (selL_len m k)
        have hb := below_alloc wr (.cells #[iv (k : Int)] 3)
        have HB4 := Lib.hid (HI.out.bi.below hb).own
        have HN := Lib.hid (cell_one_new wr (iv (k : Int)) 3)
        have hwz := HI.out.up.size
        clear hb
        generalize selL m k = ys at *
        obtain ⟨i0, hi0, hz0, hz1, hz2⟩ := info_parts Try.info_int
        go_wp2_with (at_builtin; refine wpList_append_own_at _ rfl _ _ 26 rfl W1.heap.size 3 i0 (.int .i64 0) 1 8 Try.underlying26 hi0 hz0 hz1 hz2 rfl (by decide) _ ys.length (ys.map iv) rfl HB4.out ⟨wr.heap.size, 0, none⟩ 1 1 [iv (k : Int)] rfl rfl ?c1 ?c2 ?c3 ?c4 ?c5 ?_)
        case c1 => exact HN.out
        case c2 => intro u hu; simp at hu; subst hu; rfl
        case c3 => have := HML.out; unfold maxLen; omega
        case c4 => have := HML.out; omega
        case c5 => simp; omega
        intro v' w5 hown' hgrow _ hat
        have HI5 := Lib.hid (HI.out.push hown' hgrow (by simpa using hat))
        clear HB4 HN hown' hgrow hat HI ix
        go_wp2
        go_roundw
        case rel => exact ⟨k + 1, by omega, by go_num, Lib.hid (by rw [HCS.out]; exact HI5.out)⟩
        case measure => simp [intOf]; omega
    · obtain rfl : k = 3 := by omega
      have HNW := Lib.hid (NewI.from HB.out (HI.out.new (by have := selL_len m 3; omega) (selL_small m 3 (by omega))))
      go_wp2
      go_ret
      exact HNW.out
end Go.Proofs.Ytbpjblefmammcaa

/- Pure rests, by the program. -/
namespace Go.Proofs.Ytbpjblefmammcaa
open Go.RowKit

theorem Try.info32b : (Try.prog.info? 26).map (fun i => (i.zero, i.size, i.bytes)) = some (some (.slice none 0 0), 1, 24) := by kernel_rfl

/-- What the loops know: the game, the turned table, the rests so far. -/
structure PS (p : GP) (w : World) (N L : Nat) (wr : World) (v : Value) (vs : List Value) (xs ys rs : List (List Int)) : Prop where
  gt : GT p w wr w.heap.size xs ys
  tn : OwnR N L wr N (some ⟨N, 0, none⟩) p.m p.m (flip xs p.n p.m)
  bd : Bld L wr.heap.size wr v vs rs
  h1 : w.heap.size < N
  h2 : N < L
  h3 : L ≤ wr.heap.size
theorem PS.qu {p w N L wr wr' v vs xs ys rs} (h : PS p w N L wr v vs xs ys rs) (k : Quiet wr wr') : PS p w N L wr' v vs xs ys rs := by
  have kb : Below wr.heap.size wr wr' := k.below
  exact ⟨h.gt.up kb, h.tn.below kb, (h.bd.below kb).mono kb.size, h.h1, h.h2, Nat.le_trans h.h3 kb.size⟩

set_option maxHeartbeats 1000000 in
theorem PureRests_impl (A B : Option Addr) (n c m d : Nat) (xs ys : List (List Int)) (w : World) (hx : IntRows w A n c xs) (hy : IntRows w B m d ys) :
    Calls Try.prog 37 #[.agg #[.slice A n c, .slice B m d]] w (RetR (pureR xs ys) w) := by
  have hb0 := below_alloc w (.cells #[.slice A n c, .slice B m d] 29)
  have b0 := blk_new w 29 #[.slice A n c, .slice B m d]
  have HB := Lib.hid hb0
  have HK := Lib.hid b0
  have HX := Lib.hid (hx.keep (Keep.below hb0))
  have HY := Lib.hid (hy.keep (Keep.below hb0))
  have HX0 := Lib.hid hx
  have HY0 := Lib.hid hy
  clear hx hy hb0 b0
  go_enter Try.func37, Try.ntmps37
  go_wp2_with fail
  generalize w.alloc (.cells #[.slice A n c, .slice B m d] 29) = W1 at *
  have HC := Lib.hid (ValidGame_impl _ _ _ _ _ _ _ _ _ HX.out HY.out)
  by_cases hv : VG xs ys
  · refine ((pb_true hv) ▸ HC.out).mono ?_
    rintro e w1 ⟨rfl, hb⟩
    have hb2 := below_up HB.out hb
    have hk2 := blk_below HK.out hb
    obtain ⟨p, rfl, rfl, rfl, rfl, rfl, rfl, hg⟩ := GV.of HX0.out HY0.out hv
    have HT := Lib.hid (show GT p w w1 w.heap.size xs ys from ⟨hb2, hk2, hg⟩)
    have hn3 := hg.tx.n3
    have hm3 := hg.tx.m3
    have hn1 := hg.tx.n1
    have hm1 := hg.tx.m1
    have HP := Lib.hid (show pureR xs ys = allRests xs ys p.n p.m p.n by rw [pureR, if_pos (pb_true hv), hg.lx, hg.mx])
    have HLY := Lib.hid (show ∀ i, i < p.n → (gr ys i).length = p.m from fun i hi => (hg.ty.ints i hi).len)
    clear hb hv hb2 hk2 hg HX HY HX0 HY0 HB HK HC
    have k0 := HT.out.c0
    go_wp2_with fail
    refine (turned_any _ _ _ _ _ _ _ _ _ _ HT.out.gv.tx).mono ?_
    rintro e w2 ⟨rfl, ho, hb, hlt⟩
    have HS := Lib.hid (show PS p w w1.heap.size w2.heap.size w2 (.slice none 0 0) [] xs ys [] from ⟨HT.out.up hb, ho, Bld.nil _ _ _, blk_lt HT.out.box, hlt, Nat.le_refl _⟩)
    clear ho hb hlt HT k0
    generalize w1.heap.size = N at *
    generalize w2.heap.size = L at *
    have k1 := HS.out.gt.c1
    go_wp2
    clear k1
    go_loopw [4, 18] (fun v s wr => ∃ (i : Nat) (vs : List Value), i ≤ p.n ∧ s = .int .i64 i ∧ Hid (PS p w N L wr v vs xs ys (allRests xs ys p.n p.m i))) (fun _ s _ => p.n - (intOf s).toNat)
    case atStart => exact ⟨0, [], Nat.zero_le _, rfl, HS⟩
    case round =>
      clear HS
      obtain ⟨i, vs, hi, rfl, HS⟩ := hrel
      by_cases hin : i < p.n
      · have s1 := HS.out.gt.gv.ty.row i hin
        go_wp2
        clear s1
        go_loopw [4, 25] (fun v s wj => ∃ (j : Nat) (vs : List Value), j ≤ p.m ∧ s = .int .i64 j ∧ Hid (PS p w N L wj v vs xs ys (allRests xs ys p.n p.m i ++ rowRests xs ys p.n p.m i j))) (fun _ s _ => p.m - (intOf s).toNat)
        case atStart => exact ⟨0, vs, Nat.zero_le _, rfl, Lib.hid (by rw [rowRests, List.append_nil]; exact HS.out)⟩
        case round =>
          clear HS vs
          obtain ⟨j, vs, hj, rfl, HS⟩ := hrel
          by_cases hjm : j < p.m
          · have k0 := HS.out.gt.c0
            have r1 := HS.out.gt.gv.tx.row i hin
            have e1 := HS.out.gt.gv.tx.cell i j hin hjm
            have f1 := HS.out.gt.gv.ty.cell i j hin hjm
            obtain ⟨R, cc, t1, tI⟩ := HS.out.tn.row0 hjm
            have hfl : (gr (flip xs p.n p.m) j).length = p.n := by rw [gr_flip hjm]; simp
            have HQX := Lib.hid tI
            have HQY := Lib.hid (HS.out.gt.gv.ty.ints i hin)
            clear tI
            generalize hcol : gr (flip xs p.n p.m) j = col at *
            have HCOL := Lib.hid hcol
            clear hcol
            have QX := Lib.hid (fun W (hW : Quiet wr W) => Max_any _ _ _ _ W (HQX.out.keep (Keep.quiet hW)) (by omega))
            have QY := Lib.hid (fun W (hW : Quiet wr W) => Max_any _ _ _ _ W (HQY.out.keep (Keep.quiet hW)) (by omega))
            clear HQX HQY hfl
            by_cases h1 : g2 xs i j = mxl col
            · have h1' : (g2 xs i j == mxl col) = true := by simp [h1]
              by_cases h2 : g2 ys i j = mxl (gr ys i)
              · have h2' : (g2 ys i j == mxl (gr ys i)) = true := by simp [h2]
                have HR := Lib.hid (rowRests_yes ((RestAt_iff hin hjm (HLY.out i hin)).2 ⟨by rw [HCOL.out]; exact h1, h2⟩))
                clear h1 h2
                go_wp2
                go_quiet ((go_at_call 67; (first | (with_reducible refine quiet_fit (QX.out _ ?_) (fun m => ?_)) | (with_reducible refine quiet_fit (QY.out _ ?_) (fun m => ?_))); (first | exact ⟨_, rfl⟩ | exact Quiet.two _ _ _); (first | exact drewN_to1 _ _ _ | exact drewN_to2 _ _ _ _)))
                have HS2 := Lib.hid (HS.out.qu ⟨nq, rfl⟩)
                have hlen : (allRests xs ys p.n p.m i ++ rowRests xs ys p.n p.m i j).length ≤ 12 := by
                  have h1 := allRests_len xs ys p.n p.m hm3 i
                  have h2 := rowRests_len xs ys p.n p.m i j
                  rw [List.length_append]; omega
                clear QX QY h1' h2' HS k0 r1 e1 f1 t1
                generalize wr.drewN nq = w2 at *
                have hb3 := below_alloc w2 (.cells #[.int .i64 i, .int .i64 j] 3)
                have hb4 := below_alloc (w2.alloc (.cells #[.int .i64 i, .int .i64 j] 3)) (.cells #[.slice (some ⟨w2.heap.size, 0, none⟩) 2 2] 26)
                have HB4 := Lib.hid ((HS2.out.bd.below hb3).below hb4).own
                have HN := Lib.hid (cell_one_new (w2.alloc (.cells #[.int .i64 i, .int .i64 j] 3)) (.slice (some ⟨w2.heap.size, 0, none⟩) 2 2) 26)
                have hL := HS2.out.h3
                clear hb3 hb4
                generalize hrs : allRests xs ys p.n p.m i ++ rowRests xs ys p.n p.m i j = rs at *
                have HRS := Lib.hid hrs
                clear hrs
                obtain ⟨i0, hi0, hz0, hz1, hz2⟩ := info_parts Try.info32b
                go_wp2_with (at_builtin; refine wpList_append_own_at _ rfl _ _ 22 rfl L 26 i0 (.slice none 0 0) 1 24 Try.underlying22 hi0 hz0 hz1 hz2 rfl (by decide) _ rs.length vs rfl HB4.out ⟨w2.heap.size + 1, 0, none⟩ 1 1 [.slice (some ⟨w2.heap.size, 0, none⟩) 2 2] rfl rfl ?c1 ?c2 ?c3 ?c4 ?c5 ?_)
                case c1 => have h := HN.out; rw [World.size_alloc] at h; exact h
                case c2 => intro u hu; simp at hu; subst hu; rfl
                case c3 => unfold maxLen; omega
                case c4 => omega
                case c5 => simp; omega
                intro v' w5 hown' hgrow _ hat
                obtain ⟨hP, hK⟩ := push_pair HS2.out.bd (by omega) (by omega) hown' hgrow hat hL
                have HS5 := Lib.hid (show PS p w N L w5 v' _ xs ys _ from ⟨HS2.out.gt.up2 hK (by have := HS2.out.h1; have := HS2.out.h2; omega) (by have := HS2.out.h1; have := HS2.out.h2; omega), HS2.out.tn.of_blocks (fun g _ hg _ => hK.block g hg), hP, HS2.out.h1, HS2.out.h2, Nat.le_trans hL hK.size⟩)
                clear HB4 HN hown' hgrow hat hP hK HS2
                go_wp2
                go_roundw
                case rel => exact ⟨j + 1, _, by omega, by go_num, Lib.hid (by rw [HR.out, ← List.append_assoc, HRS.out]; exact HS5.out)⟩
                case measure => simp [intOf]; omega
              · have h2' : (g2 ys i j == mxl (gr ys i)) = false := by simp [h2]
                have HR := Lib.hid (rowRests_no (a := xs) (fun v => h2 ((RestAt_iff hin hjm (HLY.out i hin)).1 v).2))
                clear h1 h2
                go_wp2
                go_quiet ((go_at_call 67; (first | (with_reducible refine quiet_fit (QX.out _ ?_) (fun m => ?_)) | (with_reducible refine quiet_fit (QY.out _ ?_) (fun m => ?_))); (first | exact ⟨_, rfl⟩ | exact Quiet.two _ _ _); (first | exact drewN_to1 _ _ _ | exact drewN_to2 _ _ _ _)))
                have HS2 := Lib.hid (HS.out.qu ⟨nq, rfl⟩)
                go_wp2
                go_roundw
                case rel => exact ⟨j + 1, vs, by omega, by go_num, Lib.hid (by rw [HR.out]; exact HS2.out)⟩
                case measure => simp [intOf]; omega
            · have h1' : (g2 xs i j == mxl col) = false := by simp [h1]
              have HR := Lib.hid (rowRests_no (fun v => h1 (by have := ((RestAt_iff hin hjm (HLY.out i hin)).1 v).1; rw [HCOL.out] at this; exact this)))
              clear h1
              go_wp2
              go_quiet ((go_at_call 67; (first | (with_reducible refine quiet_fit (QX.out _ ?_) (fun m => ?_)) | (with_reducible refine quiet_fit (QY.out _ ?_) (fun m => ?_))); (first | exact ⟨_, rfl⟩ | exact Quiet.two _ _ _); (first | exact drewN_to1 _ _ _ | exact drewN_to2 _ _ _ _)))
              have HS2 := Lib.hid (HS.out.qu ⟨nq, rfl⟩)
              go_wp2
              go_roundw
              case rel => exact ⟨j + 1, vs, by omega, by go_num, Lib.hid (by rw [HR.out]; exact HS2.out)⟩
              case measure => simp [intOf]; omega
          · go_wp2
            go_roundw
            case rel => exact ⟨i + 1, vs, by omega, by go_num, Lib.hid (by have h := HS.out; rw [show j = p.m by omega] at h; rw [allRests]; exact h)⟩
            case measure => simp [intOf]; omega
      · go_wp2
        go_ret
        obtain ⟨A, n, c, g, rfl, hn, ho⟩ := HS.out.bd.owns (by have := allRests_len xs ys p.n p.m hm3 i; omega)
        have e : pureR xs ys = allRests xs ys p.n p.m i := by rw [HP.out, show i = p.n by omega]
        exact ⟨A, n, c, g, rfl, by rw [e]; exact hn, by rw [e]; exact ho.mono (by have := HS.out.h1; have := HS.out.h2; omega) (Nat.le_refl _), HS.out.gt.below⟩
  · have HZ := Lib.hid (show pureR xs ys = [] by rw [pureR, if_neg (by rw [pb_false hv]; decide)])
    refine ((pb_false hv) ▸ HC.out).mono ?_
    rintro e w1 ⟨rfl, hb⟩
    have HB2 := Lib.hid (below_up HB.out hb)
    clear hb hv HC
    go_wp2
    go_ret
    exact ⟨none, 0, 0, 0, rfl, by rw [HZ.out]; rfl, by rw [HZ.out]; exact OwnR.nil _ _ _ _, HB2.out⟩
end Go.Proofs.Ytbpjblefmammcaa

/- Rests, by both programs. -/
namespace Go.Proofs.Ytbpjblefmammcaa
open Go.RowKit

/-- No strategy has more than one with a share. -/
def RestP (a : List (List Int)) (w : List Int) (n : Nat) : Prop := ∀ i, i < n → 0 < gi w i → ∀ k, k < n → dotr a w k n ≤ dotr a w i n
structure RQ (a : List (List Int)) (w : List Int) : Prop where
  q : VQ a
  s : VS w a.length
  r : RestP a w a.length


/-- The greatest of the first k values. -/
def mxd (f : Nat → Int) : Nat → Int
  | 0 => 0
  | k + 1 => if k = 0 ∨ mxd f k < f k then f k else mxd f k
theorem mxd_up {f : Nat → Int} {k : Nat} (h : k = 0 ∨ mxd f k < f k) : mxd f (k + 1) = f k := by rw [mxd, if_pos h]
theorem mxd_same {f : Nat → Int} {k : Nat} (h : ¬ (k = 0 ∨ mxd f k < f k)) : mxd f (k + 1) = mxd f k := by rw [mxd, if_neg h]
theorem mxd_ge (f : Nat → Int) : ∀ {k i}, i < k → f i ≤ mxd f k
  | 0, _, h => absurd h (by omega)
  | k + 1, i, h => by
    by_cases hu : k = 0 ∨ mxd f k < f k
    · rw [mxd_up hu]
      by_cases e : i = k
      · subst e; exact Int.le_refl _
      · have := mxd_ge f (k := k) (i := i) (by omega)
        omega
    · rw [mxd_same hu]
      by_cases e : i = k
      · subst e; omega
      · exact mxd_ge f (by omega)
theorem mxd_at (f : Nat → Int) : ∀ {k}, 0 < k → ∃ i, i < k ∧ mxd f k = f i
  | 0, h => absurd h (by omega)
  | k + 1, _ => by
    by_cases hu : k = 0 ∨ mxd f k < f k
    · exact ⟨k, by omega, mxd_up hu⟩
    · obtain ⟨i, hi, e⟩ := mxd_at f (k := k) (by omega)
      exact ⟨i, by omega, (mxd_same hu).trans e⟩
/-- At rest all that is there has the most. -/
theorem rest_most (a : List (List Int)) (w : List Int) (n : Nat) (hn : 0 < n) : RestP a w n ↔ ∀ i, i < n → 0 < gi w i → dotr a w i n = mxd (fun i => dotr a w i n) n := by
  constructor
  · intro h i hi hp
    obtain ⟨k, hk, e⟩ := mxd_at (fun i => dotr a w i n) hn
    have h1 := h i hi hp k hk
    have h2 := mxd_ge (fun i => dotr a w i n) hi
    have e' : mxd (fun i => dotr a w i n) n = dotr a w k n := e
    have h2' : dotr a w i n ≤ mxd (fun i => dotr a w i n) n := h2
    omega
  · intro h i hi hp k hk
    rw [h i hi hp]
    exact mxd_ge (fun i => dotr a w i n) hk
theorem mxd_bd {f : Nat → Int} {B : Int} (hB : 0 ≤ B) : ∀ {k}, (∀ i, i < k → -B ≤ f i ∧ f i ≤ B) → -B ≤ mxd f k ∧ mxd f k ≤ B
  | 0, _ => by simp only [mxd]; omega
  | k + 1, h => by
    by_cases hu : k = 0 ∨ mxd f k < f k
    · rw [mxd_up hu]; exact h k (by omega)
    · rw [mxd_same hu]; exact mxd_bd hB fun i hi => h i (by omega)

end Go.Proofs.Ytbpjblefmammcaa

/- Shares at which some strategies have as much: the sums of the cofactors of the columns, and the differences to the first row. Plain. -/
namespace Go.Proofs.Ytbpjblefmammcaa
open V (sumN detN rowC colC cofN minorN skip sgn Asc)

/-- The square of a part, as it is. -/
def lf (a : List (List Int)) (r : Nat → Nat) : Nat → Nat → Int := fun p q => g2 a (r p) (r q) + 0
/-- The differences to the first row, behind a row of ones. -/
def mf (a : List (List Int)) (r : Nat → Nat) : Nat → Nat → Int := fun p q => if p = 0 then 1 else g2 a (r p) (r q) - g2 a (r 0) (r q)

theorem rowC_shift {k : Nat} (hk : k ≤ 3) {f g : Nat → Nat → Int} (z : Int) (h : ∀ p q, g p q = f p q + z) {p : Nat} (hp : p < k) : rowC k g p = rowC k f p := by
  have : k = 1 ∨ k = 2 ∨ k = 3 := by omega
  rcases this with rfl | rfl | rfl
  · simp [rowC, sumN, cofN, detN]
  · have : p = 0 ∨ p = 1 := by omega
    rcases this with rfl | rfl <;> simp [rowC, sumN, cofN, sgn, detN, minorN, skip, h] <;> omega
  · obtain ⟨e0, e1, e2⟩ := V.rowC3 f
    obtain ⟨d0, d1, d2⟩ := V.rowC3 g
    have : p = 0 ∨ p = 1 ∨ p = 2 := by omega
    rcases this with rfl | rfl | rfl
    · rw [e0, d0]; simp only [h]; grind
    · rw [e1, d1]; simp only [h]; grind
    · rw [e2, d2]; simp only [h]; grind
theorem lf_kY (a : List (List Int)) (r : Nat → Nat) {k : Nat} (hk : k ≤ 3) : cofL k (trN (lf a r)) k = kY a r r k := by
  unfold kY cofL
  refine List.map_congr_left fun p hp => ?_
  exact (rowC_shift hk 18 (f := trN (lf a r)) (g := trN (kf a r r)) (fun p q => by unfold trN lf kf; omega) (List.mem_range.1 hp)).symm
theorem gi_kY {a : List (List Int)} {r : Nat → Nat} {k : Nat} (hk : k ≤ 3) {c : Nat} (hc : c < k) : gi (kY a r r k) c = colC k (kf a r r) c := by
  unfold kY; rw [gi_cofL hc, rowC_tr hk]
theorem mf_cof {a : List (List Int)} {r : Nat → Nat} {k : Nat} (hk : k ≤ 3) {c : Nat} (hc : c < k) : cofN k (mf a r) 0 c = gi (kY a r r k) c := by
  rw [gi_kY hk hc]
  have : k = 1 ∨ k = 2 ∨ k = 3 := by omega
  rcases this with rfl | rfl | rfl
  · obtain rfl : c = 0 := by omega
    simp [colC, sumN, cofN, sgn, detN]
  · have : c = 0 ∨ c = 1 := by omega
    rcases this with rfl | rfl <;> simp [colC, sumN, cofN, sgn, detN, minorN, skip, mf, kf] <;> omega
  · obtain ⟨e0, e1, e2⟩ := V.colC3 (kf a r r)
    have : c = 0 ∨ c = 1 ∨ c = 2 := by omega
    rcases this with rfl | rfl | rfl
    · rw [e0]; simp [sumN, cofN, sgn, detN, minorN, skip, mf, kf]; grind
    · rw [e1]; simp [sumN, cofN, sgn, detN, minorN, skip, mf, kf]; grind
    · rw [e2]; simp [sumN, cofN, sgn, detN, minorN, skip, mf, kf]; grind
theorem mf_det {a : List (List Int)} {r : Nat → Nat} {k : Nat} (h1 : 1 ≤ k) (hk : k ≤ 3) : detN k (mf a r) = sumN (gi (kY a r r k)) k := by
  obtain ⟨l, rfl⟩ : ∃ l, k = l + 1 := ⟨k - 1, by omega⟩
  rw [detN]
  refine sumN_congr fun j hj => ?_
  rw [← mf_cof hk hj]
  unfold cofN
  rw [Nat.zero_add, show mf a r 0 j = 1 from rfl, Nat.add_sub_cancel, Int.one_mul]
theorem mf_ab {a : List (List Int)} (v : VT a) (h : a.length = (gr a 0).length) {r : Nat → Nat} {k : Nat} (hr : Asc a.length k r) : Ab k (mf a r) := fun p q hp hq => by
  unfold mf
  have h0 := hr.1 0 (by omega)
  have hpp := hr.1 p hp
  have hqq := hr.1 q hq
  have e1 := v.bd hpp (j := r q) (by omega)
  have e2 := v.bd h0 (j := r q) (by omega)
  split <;> omega

/-- All numbers more than 0, or all less. -/
def LevP (X : List Int) : Prop := (∀ p, p < X.length → 0 < gi X p) ∨ ∀ p, p < X.length → gi X p < 0
theorem LevP.clr {X : List Int} (h : LevP X) (h0 : 0 < X.length) : ClrP X := by
  rcases h with h | h
  · exact ⟨⟨0, h0, by have := h 0 h0; omega⟩, .inl fun p hp => by have := h p hp; omega⟩
  · exact ⟨⟨0, h0, by have := h 0 h0; omega⟩, .inr fun p hp => by have := h p hp; omega⟩
def levB (xs : List Int) : Bool := decide (lst xs ≤ 0) && decide (0 ≤ mxl xs)
theorem levB_iff {xs : List Int} (h0 : 0 < xs.length) : levB xs = false ↔ LevP xs := by
  unfold levB lst mxl LevP
  rw [Bool.and_eq_false_iff, decide_eq_false_iff_not, decide_eq_false_iff_not]
  constructor
  · rintro (h | h)
    · exact .inl fun p hp => by have := mn_le (xs := xs) (k := xs.length - 1) (j := p) (by omega); omega
    · exact .inr fun p hp => by have := mx_ge xs (k := xs.length - 1) (j := p) (by omega); omega
  · rintro (h | h)
    · obtain ⟨j, hj, e⟩ := mn_mem (xs := xs) (xs.length - 1)
      exact .inl (by have := h j (by omega); omega)
    · obtain ⟨j, hj, e⟩ := mx_at xs (xs.length - 1)
      exact .inr (by have := h j (by omega); omega)

/-- The first c numbers, times z. -/
def sgL (X : List Int) (z : Int) (c : Nat) : List Int := (List.range c).map fun p => z * gi X p
theorem sgL_succ (X : List Int) (z : Int) (c : Nat) : sgL X z (c + 1) = sgL X z c ++ [z * gi X c] := by simp [sgL, List.range_succ]
theorem sgL_len (X : List Int) (z : Int) (c : Nat) : (sgL X z c).length = c := by simp [sgL]
theorem gi_sgL {X : List Int} {z : Int} {c p : Nat} (h : p < c) : gi (sgL X z c) p = z * gi X p := by
  rw [gi_get (by rw [sgL_len]; exact h)]; simp [sgL]
theorem gcdL_sgL {X : List Int} {z : Int} (hz : z = 1 ∨ z = -1) {k : Nat} : ∀ {j}, j ≤ k → gcdL (sgL X z k) j = gcdL X j
  | 0, _ => rfl
  | j + 1, h => by
    rw [gcdL, gcdL, gcdL_sgL hz (by omega), gi_sgL (by omega)]
    rcases hz with rfl | rfl
    · rw [Int.one_mul]
    · unfold gcdI; rw [Int.neg_one_mul, Int.gcd_neg]
theorem shr_sgL {X : List Int} {z : Int} (hz : z = 1 ∨ z = -1) {n k : Nat} {r : Nat → Nat} (hl : X.length = k) : shr n r (sgL X z k) k = shr n r X k := by
  unfold shr
  rw [sgL_len, hl, gcdL_sgL hz (Nat.le_refl _)]
  congr 1
  unfold clrL
  refine List.map_congr_left fun p hp => ?_
  rw [gi_sgL (List.mem_range.1 hp)]
  rcases hz with rfl | rfl
  · rw [Int.one_mul]
  · rw [show max (-1 * gi X p) (-(-1 * gi X p)) = max (gi X p) (-(gi X p)) by omega]
/-- The sign of the sum. -/
def zsg (X : List Int) (k : Nat) : Int := if sumN (gi X) k < 0 then -1 else 1
theorem zsg_or (X : List Int) (k : Nat) : zsg X k = 1 ∨ zsg X k = -1 := by unfold zsg; split <;> simp
theorem lev_sum {X : List Int} (h : LevP X) (h0 : 0 < X.length) : sumN (gi X) X.length ≠ 0 ∧ ∀ p, p < X.length → 0 < zsg X X.length * gi X p := by
  rcases h with h | h
  · have hs := sumN_pos (f := gi X) (n := X.length) (fun i hi => by have := h i hi; omega) ⟨0, h0, h 0 h0⟩
    refine ⟨by omega, fun p hp => ?_⟩
    unfold zsg; rw [if_neg (by omega), Int.one_mul]; exact h p hp
  · have hs := sumN_pos (f := fun i => (-1) * gi X i) (n := X.length) (fun i hi => by have := h i hi; omega) ⟨0, h0, by have := h 0 h0; omega⟩
    rw [sumN_mul] at hs
    refine ⟨by omega, fun p hp => ?_⟩
    unfold zsg; rw [if_pos (by omega)]; have := h p hp; omega
theorem lev_of {X : List Int} {z : Int} (hz : z = 1 ∨ z = -1) (h : ∀ p, p < X.length → 0 < z * gi X p) : LevP X := by
  rcases hz with rfl | rfl
  · exact .inl fun p hp => by have := h p hp; omega
  · exact .inr fun p hp => by have := h p hp; omega

theorem memL_ge : ∀ R, R < 8 → ∀ n, n < 4 → 1 ≤ R → R < 2 ^ n → 1 ≤ (memL R n).length := by decide
/-- The shares of some strategies are the only ones at which these have as much, and no other one has more. -/
def LevAt (a : List (List Int)) (k : Nat) (r : Nat → Nat) : Prop := LevP (kY a r r k) ∧ RestP a (shr a.length r (kY a r r k) k) a.length
def lvl (a : List (List Int)) (s : Nat) : List Int := shr a.length (idx s a.length) (kY a (idx s a.length) (idx s a.length) (memL s a.length).length) (memL s a.length).length
def LvP (a : List (List Int)) (s : Nat) : Prop := 1 ≤ s ∧ s < 2 ^ a.length ∧ LevAt a (memL s a.length).length (idx s a.length)
noncomputable def resR (a : List (List Int)) : Nat → List (List Int)
  | 0 => []
  | s + 1 => if pb (LvP a s) = true then resR a s ++ [lvl a s] else resR a s
noncomputable def resF (a : List (List Int)) : List (List Int) := if pb (VQ a) = true then resR a 8 else []
theorem resR_yes {a : List (List Int)} {s : Nat} (h : LvP a s) : resR a (s + 1) = resR a s ++ [lvl a s] := by rw [resR, if_pos (pb_true h)]
theorem resR_no {a : List (List Int)} {s : Nat} (h : ¬ LvP a s) : resR a (s + 1) = resR a s := by rw [resR, if_neg (by rw [pb_false h]; decide)]
theorem lvl_len (a : List (List Int)) (s : Nat) : (lvl a s).length = a.length := putL_len _ _ _ _
theorem resR_one (a : List (List Int)) : resR a 1 = [] := by rw [resR_no (fun h => by have := h.1; omega)]; rfl
theorem resR_len (a : List (List Int)) : ∀ s, (resR a s).length ≤ s
  | 0 => by simp [resR]
  | s + 1 => by
    have := resR_len a s
    by_cases h : LvP a s
    · rw [resR_yes h, List.length_append, List.length_singleton]; omega
    · rw [resR_no h]; omega
theorem resR_end {a : List (List Int)} : ∀ {d}, resR a (2 ^ a.length + d) = resR a (2 ^ a.length)
  | 0 => rfl
  | d + 1 => by rw [← Nat.add_assoc, resR_no (fun h => by have := h.2.1; omega), resR_end]
theorem resR_all {a : List (List Int)} (h : a.length ≤ 3) : resR a 8 = resR a (2 ^ a.length) := by
  have h8 : 2 ^ a.length ≤ 8 := pow_le8 h
  have := resR_end (a := a) (d := 8 - 2 ^ a.length)
  rwa [show 2 ^ a.length + (8 - 2 ^ a.length) = 8 by omega] at this
theorem mem_resR {a : List (List Int)} {x : List Int} : ∀ {k}, x ∈ resR a k ↔ ∃ s, s < k ∧ LvP a s ∧ x = lvl a s
  | 0 => by simp [resR]
  | k + 1 => by
    have ih := mem_resR (a := a) (x := x) (k := k)
    by_cases h : LvP a k
    · rw [resR_yes h, List.mem_append, List.mem_singleton, ih]
      constructor
      · rintro (⟨s, h1, h2, h3⟩ | h1)
        · exact ⟨s, by omega, h2, h3⟩
        · exact ⟨k, by omega, h, h1⟩
      · rintro ⟨s, h1, h2, h3⟩
        by_cases e : s = k
        · subst e; exact .inr h3
        · exact .inl ⟨s, by omega, h2, h3⟩
    · rw [resR_no h, ih]
      constructor
      · rintro ⟨s, h1, h2, h3⟩; exact ⟨s, by omega, h2, h3⟩
      · rintro ⟨s, h1, h2, h3⟩
        by_cases e : s = k
        · subst e; exact absurd h2 h
        · exact ⟨s, by omega, h2, h3⟩
theorem lvl_VS {a : List (List Int)} (q : VQ a) {s : Nat} (h : LvP a s) (h8 : s < 8) : VS (lvl a s) a.length := by
  have hk3 : (memL s a.length).length ≤ 3 := by have := memL_le s a.length; have := q.1.n3; omega
  have h1 := memL_ge s h8 a.length (by have := q.1.n3; omega) h.1 h.2.1
  have hr := idx_asc s a.length
  exact shr_VS (kY_len _ _ _ _) hr (h.2.2.1.clr (by rw [kY_len]; omega)) (fun p hp => kY_bd q.1 hk3 hr (by rw [← q.2]; exact hr) hp)
end Go.Proofs.Ytbpjblefmammcaa

/- The shares of some strategies at which these have as much, by the model. -/
namespace Go.Proofs.Ytbpjblefmammcaa
open Go.RowKit
open V (sumN detN rowC colC cofN minorN skip sgn Asc)

/-- The first j numbers of row p of the differences; the first i rows. -/
def dfR (a : List (List Int)) (r : Nat → Nat) (p j : Nat) : List Int := (List.range j).map fun q => mf a r p q
def dfL (a : List (List Int)) (r : Nat → Nat) (k i : Nat) : List (List Int) := (List.range i).map fun p => dfR a r p k
theorem dfR_succ (a : List (List Int)) (r : Nat → Nat) (p j : Nat) : dfR a r p (j + 1) = dfR a r p j ++ [mf a r p j] := by simp [dfR, List.range_succ]
theorem dfL_succ (a : List (List Int)) (r : Nat → Nat) (k i : Nat) : dfL a r k (i + 1) = dfL a r k i ++ [dfR a r i k] := by simp [dfL, List.range_succ]
theorem dfR_len (a : List (List Int)) (r : Nat → Nat) (p j : Nat) : (dfR a r p j).length = j := by simp [dfR]
theorem dfL_len (a : List (List Int)) (r : Nat → Nat) (k i : Nat) : (dfL a r k i).length = i := by simp [dfL]
theorem dfL_sq (a : List (List Int)) (r : Nat → Nat) (k : Nat) : Sq k (dfL a r k k) (mf a r) :=
  ⟨dfL_len _ _ _ _, fun p hp => by rw [gr_get (by rw [dfL_len]; exact hp)]; simp [dfL, dfR], fun p q hp hq => by
    unfold g2; rw [gr_get (by rw [dfL_len]; exact hp), gi_get (by simp [dfL, dfR]; exact hq)]; simp [dfL, dfR]⟩
theorem dfR_zero {a : List (List Int)} {r : Nat → Nat} {p j : Nat} (h : p = 0) : dfR a r p (j + 1) = dfR a r p j ++ [1] := by subst h; exact dfR_succ _ _ _ _
theorem dfR_next {a : List (List Int)} {r : Nat → Nat} {p j : Nat} (h : p ≠ 0) : dfR a r p (j + 1) = dfR a r p j ++ [g2 a (r p) (r j) - g2 a (r 0) (r j)] := by
  rw [dfR_succ, mf, if_neg h]
theorem mf_odd {a : List (List Int)} {r : Nat → Nat} {k c : Nat} (hk : k ≤ 3) (hc : c < k) (h : c % 2 = 1) : gi (kY a r r k) c = -(detN (k - 1) (minorN (mf a r) 0 c)) := by
  rw [← mf_cof hk hc, cofN_odd (by omega)]
theorem mf_even {a : List (List Int)} {r : Nat → Nat} {k c : Nat} (hk : k ≤ 3) (hc : c < k) (h : ¬ c % 2 = 1) : gi (kY a r r k) c = detN (k - 1) (minorN (mf a r) 0 c) := by
  rw [← mf_cof hk hc, cofN_even (by omega)]

end Go.Proofs.Ytbpjblefmammcaa

/- The rests of a table, by the model. -/
namespace Go.Proofs.Ytbpjblefmammcaa
open Go.RowKit
open V (sumN detN rowC colC cofN minorN skip sgn Asc)

theorem shl_val' {n : Nat} (h : n ≤ 3) : ∃ P : Nat, wrap64 ((2 : Int) ^ n) = (P : Int) ∧ P = 2 ^ n := by
  refine ⟨2 ^ n, ?_, rfl⟩
  have : n = 0 ∨ n = 1 ∨ n = 2 ∨ n = 3 := by omega
  rcases this with rfl | rfl | rfl | rfl <;> (unfold wrap64; decide)
theorem NewT.from {w w1 w2 : World} {xss : List (List Int)} {e : Ending} (h : Below w.heap.size w w1) (k : NewT w1 xss e w2) : NewT w xss e w2 := by
  obtain ⟨A, n, c, g, e1, e2, ho, hb⟩ := k
  exact ⟨A, n, c, g, e1, e2, ho.mono h.size (Nat.le_refl _), below_up h hb⟩
theorem TM.new {wb vs xss w} {A : Option Addr} {n c : Nat} (h : TM wb (.slice A n c) vs xss w) (hm : xss.length ≤ 100) : NewT wb xss (.returned (.slice A n c)) w := by
  obtain ⟨A', n', c', gg, e, hn', hown⟩ := h.bo.owns (by omega)
  injection e with e1 e2 e3
  subst e1
  subst e2
  subst e3
  exact ⟨_, _, _, gg, rfl, hn', hown, h.up⟩
theorem NewT.none {w w' : World} {xss : List (List Int)} (h : Below w.heap.size w w') (hx : xss = []) : NewT w xss (.returned (.slice none 0 0)) w' := by
  subst hx
  exact ⟨_, _, _, 0, rfl, rfl, OwnR.nil _ _ _ _, h⟩
theorem resF_yes {a : List (List Int)} (h : VQ a) : resF a = resR a 8 := by unfold resF; rw [if_pos (pb_true h)]
theorem resF_no {a : List (List Int)} (h : ¬ VQ a) : resF a = [] := by unfold resF; rw [if_neg (by rw [pb_false h]; decide)]

end Go.Proofs.Ytbpjblefmammcaa

/- A number below another one, by the program. -/
namespace Go.Proofs.Ytbpjblefmammcaa
open Go.RowKit

def Blw (n x : Int) : Prop := 0 ≤ x ∧ x < n
theorem isBelow_any (n x : Int) (w : World) : Calls Try.prog 48 #[.int .i64 n, .int .i64 x] w fun e w' => e = .returned (.bool (pb (Blw n x))) ∧ w = w' := by
  by_cases h1 : 0 ≤ x
  · by_cases h2 : x < n
    · have h := Lib.hid (pb_true (p := Blw n x) ⟨h1, h2⟩)
      have h2' : decide (x < n) = true := by simpa using h2
      go_enter Try.func48, Try.ntmps48
      go_wp2
      go_ret
      exact ⟨ret_bool (by rw [h.out]), rfl⟩
    · have h := Lib.hid (pb_false (p := Blw n x) (fun h => h2 h.2))
      have h2' : decide (x < n) = false := by simpa using h2
      go_enter Try.func48, Try.ntmps48
      go_wp2
      go_ret
      exact ⟨ret_bool (by rw [h.out]), rfl⟩
  · have h := Lib.hid (pb_false (p := Blw n x) (fun h => h1 h.1))
    go_enter Try.func48, Try.ntmps48
    go_wp2
    go_ret
    exact ⟨ret_bool (by rw [h.out]), rfl⟩
end Go.Proofs.Ytbpjblefmammcaa

/- Best replies, by the program. -/
namespace Go.Proofs.Ytbpjblefmammcaa
open Go.RowKit

theorem Try.info_row9 : (Try.prog.info? 26).map (fun i => (i.zero, i.size, i.bytes)) = some (some (.slice none 0 0), 1, 24) := by kernel_rfl
/-- Where a number stands. -/
def atB (x : Int) (xs : List Int) : Nat → Bool := fun k => decide (gi xs k = x)
/-- The best replies, when one plays an act now. -/
def brF (pays : List Int) (now : Nat) : List Int := if gi pays now = mxl pays then [] else selL (atB (mxl pays) pays) pays.length
theorem brF_len (pays : List Int) (now : Nat) : (brF pays now).length ≤ pays.length := by
  unfold brF; split
  · simp
  · exact selL_len _ _
theorem brF_mem {pays : List Int} {now : Nat} {y : Int} : y ∈ brF pays now ↔ gi pays now ≠ mxl pays ∧ ∃ k : Nat, k < pays.length ∧ gi pays k = mxl pays ∧ y = k := by
  unfold brF; split
  · rename_i h; simp [h]
  · rename_i h; rw [selL_mem]; simp [atB, h]
def colOf (xs : List (List Int)) (n j : Nat) : List Int := (List.range n).map fun i => g2 xs i j
theorem colOf_len (xs : List (List Int)) (n j : Nat) : (colOf xs n j).length = n := by simp [colOf]
theorem gi_colOf {xs : List (List Int)} {n i j : Nat} (h : i < n) : gi (colOf xs n j) i = g2 xs i j := gi_col h
theorem flip_colOf {xs : List (List Int)} {n m j : Nat} (h : j < m) : gr (flip xs n m) j = colOf xs n j := gr_flip h
def mvA (j : Nat) (l : List Int) : List (List Int) := l.map fun r => [r, (j : Int)]
def mvB (i : Nat) (l : List Int) : List (List Int) := l.map fun c => [(i : Int), c]
theorem mvA_len (j : Nat) (l : List Int) : (mvA j l).length = l.length := by simp [mvA]
theorem mvB_len (j : Nat) (l : List Int) : (mvB j l).length = l.length := by simp [mvB]
theorem mvA_step (j : Nat) {l : List Int} {k : Nat} (h : k < l.length) : mvA j (l.take (k + 1)) = mvA j (l.take k) ++ [[gi l k, (j : Int)]] := by
  rw [mvA, mvA, List.take_add_one, List.map_append, List.getElem?_eq_getElem h, gi_get h]; rfl
theorem mvB_step (j : Nat) {l : List Int} {k : Nat} (h : k < l.length) : mvB j (l.take (k + 1)) = mvB j (l.take k) ++ [[(j : Int), gi l k]] := by
  rw [mvB, mvB, List.take_add_one, List.map_append, List.getElem?_eq_getElem h, gi_get h]; rfl
/-- The pairs to which a pair leads. -/
def repL (xs ys : List (List Int)) (n i j : Nat) : List (List Int) := mvA j (brF (colOf xs n j) i) ++ mvB i (brF (gr ys i) j)
noncomputable def repF (xs ys : List (List Int)) (i j : Int) : List (List Int) := if (pb (VG xs ys) && pb (Blw xs.length i) && pb (Blw (gr xs 0).length j)) = true then repL xs ys xs.length i.toNat j.toNat else []

set_option maxRecDepth 100000 in
set_option maxHeartbeats 3200000 in
theorem indexesOf_any (x : Int) (A : Option Addr) (n c : Nat) (xs : List Int) (w : World) (hx : Ints w A n c xs) (hn : n ≤ 100) :
    Calls Try.prog 112 #[.int .i64 x, .slice A n c] w (NewI w (selL (atB x xs) n)) := by
  have HX := Lib.hid hx
  clear hx
  have HS0 := Lib.hid (IU.nil w)
  go_enter Try.func112, Try.ntmps112
  go_wp2
  go_loopw [5, 10] (fun v i wr => ∃ k : Nat, k ≤ n ∧ i = .int .i64 k ∧ Hid (IU w v (selL (atB x xs) k) wr)) (fun _ i _ => n - (intOf i).toNat)
  case atStart => exact ⟨0, by omega, rfl, HS0⟩
  case round =>
    clear HS0
    obtain ⟨k, hk, rfl, HI⟩ := hrel
    obtain ⟨Av, cv, rfl⟩ := HI.out.bi.form
    by_cases hlt : k < n
    · obtain ⟨b, o, rfl, hc⟩ := (HX.out.keep (Keep.below HI.out.up)).at_ (by omega)
      have c1 := hc k hlt
      clear hc
      by_cases hm : gi xs k = x
      · have hm' : (gi xs k == x) = true := by simp [hm]
        have HCS := Lib.hid (selL_yes (f := atB x xs) (k := k) (by simp [atB, hm]))
        clear hm
        have HML := Lib.hid (selL_len (atB x xs) k)
        have hb := below_alloc wr (.cells #[iv (k : Int)] 3)
        have HB4 := Lib.hid (HI.out.bi.below hb).own
        have HN := Lib.hid (cell_one_new wr (iv (k : Int)) 3)
        have hwz := HI.out.up.size
        clear hb
        generalize selL (atB x xs) k = ys at *
        obtain ⟨i0, hi0, hz0, hz1, hz2⟩ := info_parts Try.info_int
        go_wp2_with (at_builtin; refine wpList_append_own_at _ rfl _ _ 26 rfl w.heap.size 3 i0 (.int .i64 0) 1 8 Try.underlying26 hi0 hz0 hz1 hz2 rfl (by decide) _ ys.length (ys.map iv) rfl HB4.out ⟨wr.heap.size, 0, none⟩ 1 1 [iv (k : Int)] rfl rfl ?c1 ?c2 ?c3 ?c4 ?c5 ?_)
        case c1 => exact HN.out
        case c2 => intro u hu; simp at hu; subst hu; rfl
        case c3 => have := HML.out; unfold maxLen; omega
        case c4 => have := HML.out; omega
        case c5 => simp; omega
        intro v' w5 hown' hgrow _ hat
        have HI5 := Lib.hid (HI.out.push hown' hgrow (by simpa using hat))
        clear HB4 HN hown' hgrow hat HI c1
        go_wp2
        go_roundw
        case rel => exact ⟨k + 1, by omega, by go_num, Lib.hid (by rw [HCS.out]; exact HI5.out)⟩
        case measure => simp [intOf]; omega
      · have hm' : (gi xs k == x) = false := by simp [hm]
        have HCS := Lib.hid (selL_no (f := atB x xs) (k := k) (by simp [atB, hm]))
        clear hm
        go_wp2
        go_roundw
        case rel => exact ⟨k + 1, by omega, by go_num, Lib.hid (by rw [HCS.out]; exact HI.out)⟩
        case measure => simp [intOf]; omega
    · obtain rfl : k = n := by omega
      have HNW := Lib.hid (HI.out.new (by have := selL_len (atB x xs) k; omega) (selL_small _ k hn))
      go_wp2
      go_ret
      exact HNW.out
set_option maxRecDepth 100000 in
set_option maxHeartbeats 1600000 in
theorem bestReplies_any (A : Option Addr) (n c : Nat) (xs : List Int) (now : Nat) (w : World) (hx : Ints w A n c xs) (hn : n ≤ 100) (h0 : now < n) :
    Calls Try.prog 107 #[.slice A n c, .int .i64 now] w (NewI w (brF xs now)) := by
  have HC := Lib.hid (Max_any A n c xs w hx (by omega))
  have HX := Lib.hid hx
  have hl := hx.len
  clear hx
  by_cases hm : gi xs now = mxl xs
  · have hm' : (gi xs now == mxl xs) = true := by simp [hm]
    have HE := Lib.hid (show brF xs now = [] by rw [brF, if_pos hm])
    clear hm hl
    go_enter Try.func107, Try.ntmps107
    go_wp2_with fail
    refine HC.out.mono ?_
    rintro e w1 ⟨rfl, hq⟩
    obtain ⟨b, o, rfl, hc⟩ := (HX.out.keep (Keep.quiet hq)).at_ (by omega)
    have c1 := hc now h0
    have HQ := Lib.hid (Quiet.below (B := w.heap.size) hq)
    clear hc hq HC
    go_wp2
    go_ret
    exact NewI.empty HQ.out HE.out
  · have hm' : (gi xs now == mxl xs) = false := by simp [hm]
    have HE := Lib.hid (show selL (atB (mxl xs) xs) n = brF xs now by rw [brF, if_neg hm, hl])
    clear hm hl
    go_enter Try.func107, Try.ntmps107
    go_wp2_with fail
    refine HC.out.mono ?_
    rintro e w1 ⟨rfl, hq⟩
    have HX1 := Lib.hid (HX.out.keep (Keep.quiet hq))
    have HQ := Lib.hid (Quiet.below (B := w.heap.size) hq)
    obtain ⟨b, o, rfl, hc⟩ := (HX.out.keep (Keep.quiet hq)).at_ (by omega)
    have c1 := hc now h0
    clear hc hq HC HX
    go_wp2_with fail
    refine (HE.out ▸ indexesOf_any _ _ _ _ xs _ HX1.out hn).mono ?_
    rintro e w2 hN
    have HN := Lib.hid (NewI.from HQ.out hN)
    obtain ⟨Av, k, cv, gg, rfl, -⟩ := hN
    clear HQ HX1 c1
    go_wp2
    go_ret
    exact HN.out
theorem NewT.is {w w' : World} {a b : List (List Int)} {e : Ending} (h : a = b) (k : NewT w a e w') : NewT w b e w' := h ▸ k
/-- Rows under way, and a list of ints that is read beside them. -/
structure RS (wb : World) (lo hi : Nat) (v : Value) (vs : List Value) (acc : List (List Int)) (gg : Nat) (A : Option Addr) (n c : Nat) (ls : List Int) (wr : World) : Prop where
  tm : TM wb v vs acc wr
  li : OwnI lo hi wr gg A n c ls
  hi_ : hi ≤ wr.heap.size
  far : ∀ k, v.ownBlock = some k → k < lo ∨ hi ≤ k
theorem RS.start {wb w1 w2 : World} {v : Value} {vs : List Value} {acc : List (List Int)} {gg : Nat} {A : Option Addr} {n c : Nat} {ls : List Int} (h : TM wb v vs acc w1) (ho : OwnI w1.heap.size w2.heap.size w2 gg A n c ls) (hb : Below w1.heap.size w1 w2) :
    RS wb w1.heap.size w2.heap.size v vs acc gg A n c ls w2 :=
  ⟨h.next hb, ho, Nat.le_refl _, fun k hk => .inl (h.bo.hi_ k hk)⟩
theorem RS.push {wb wr w6 : World} {lo hi : Nat} {v v' : Value} {vs : List Value} {acc : List (List Int)} {gg n c : Nat} {A : Option Addr} {ls : List Int} {x y : Int} (h : RS wb lo hi v vs acc gg A n c ls wr)
    (hr : OwnI wr.heap.size (wr.heap.size + 1) (wr.alloc (.cells #[.int .i64 x, .int .i64 y] 3)) wr.heap.size (some ⟨wr.heap.size, 0, none⟩) 2 2 [x, y])
    (hown : w6.ownsRow wb.heap.size 26 1 v' (acc.length + 1) (vs ++ [.slice (some ⟨wr.heap.size, 0, none⟩) 2 2]))
    (hgrow : ((wr.alloc (.cells #[.int .i64 x, .int .i64 y] 3)).alloc (.cells #[.slice (some ⟨wr.heap.size, 0, none⟩) 2 2] 26)).grownBy w6 v.ownBlock)
    (hat : v'.ownBlock = v.ownBlock ∨ v'.ownBlock = some ((wr.alloc (.cells #[.int .i64 x, .int .i64 y] 3)).heap.size + 1)) :
    RS wb lo hi v' (vs ++ [.slice (some ⟨wr.heap.size, 0, none⟩) 2 2]) (acc ++ [[x, y]]) gg A n c ls w6 := by
  have h1 := h.hi_
  have hk := below_alloc wr (.cells #[.int .i64 x, .int .i64 y] 3)
  have h3 := hgrow.size
  simp only [World.size_alloc] at h3
  refine ⟨h.tm.push (r := [x, y]) hk (hr.mono (Nat.le_refl _) (by simp)) hown hgrow hat, h.li.of_block fun hn => ?_, by omega, fun k hk => ?_⟩
  · obtain ⟨o, e, hl, hh, _⟩ := h.li.own hn
    refine (hgrow.block gg (by simp; omega) (fun e => ?_)).trans ((Below.heap_alloc _ _ _ (by simp; omega)).trans (hk.block gg (by omega)))
    have := h.far gg e.symm
    omega
  · rcases hat with hat | hat
    · exact h.far k (by rw [← hat]; exact hk)
    · rw [hat] at hk; injection hk with hk; simp at hk; omega

set_option maxRecDepth 100000 in
set_option maxHeartbeats 6400000 in
theorem ReplyMoves_impl (A B : Option Addr) (n c m d : Nat) (xs ys : List (List Int)) (i j : Int) (w : World) (hx : IntRows w A n c xs) (hy : IntRows w B m d ys) (hi : Fit i) (hj : Fit j) :
    Calls Try.prog 93 #[.agg #[.slice A n c, .slice B m d], .int .i64 i, .int .i64 j] w (NewT w (repF xs ys i j)) := by
  have hb0 := below_alloc w (.cells #[.slice A n c, .slice B m d] 29)
  have b0 := blk_new w 29 #[.slice A n c, .slice B m d]
  have HB := Lib.hid hb0
  have HK := Lib.hid b0
  have HX := Lib.hid (hx.keep (Keep.below hb0))
  have HY := Lib.hid (hy.keep (Keep.below hb0))
  have HX0 := Lib.hid hx
  have HY0 := Lib.hid hy
  have HFI := Lib.hid hi
  have HFJ := Lib.hid hj
  clear hx hy hb0 b0 hi hj
  go_enter Try.func93, Try.ntmps93
  go_wp2_with fail
  generalize w.alloc (.cells #[.slice A n c, .slice B m d] 29) = W1 at *
  have HC := Lib.hid (ValidGame_impl _ _ _ _ _ _ _ _ _ HX.out HY.out)
  by_cases hv : VG xs ys
  · refine ((pb_true hv) ▸ HC.out).mono ?_
    rintro e w1 ⟨rfl, hb⟩
    have hb2 := below_up HB.out hb
    have hk2 := blk_below HK.out hb
    obtain ⟨p, rfl, rfl, rfl, rfl, rfl, rfl, hg⟩ := GV.of HX0.out HY0.out hv
    have HT := Lib.hid (show GT p w w1 w.heap.size xs ys from ⟨hb2, hk2, hg⟩)
    have hn3 := hg.tx.n3
    have hm3 := hg.tx.m3
    have hn1 := hg.tx.n1
    have hm1 := hg.tx.m1
    have HP := Lib.hid (show repF xs ys i j = if (pb (Blw p.n i) && pb (Blw p.m j)) = true then repL xs ys p.n i.toNat j.toNat else [] by rw [repF, pb_true hv, hg.lx, hg.mx, Bool.true_and])
    have HLY := Lib.hid (show ∀ i, i < p.n → (gr ys i).length = p.m from fun i hi => (hg.ty.ints i hi).len)
    clear hb hv hb2 hk2 hg HX HY HX0 HY0 HB HK HC
    have k0 := HT.out.c0
    have r0 := HT.out.gv.tx.row 0 hn1
    simp only [Nat.add_zero] at r0
    by_cases hi : Blw p.n i
    · by_cases hj : Blw p.m j
      · have QI := Lib.hid (fun W => pb_true hi ▸ isBelow_any (p.n : Int) i W)
        have QJ := Lib.hid (fun W => pb_true hj ▸ isBelow_any (p.m : Int) j W)
        rw [pb_true hi, pb_true hj, Bool.and_self, if_pos rfl] at HP
        unfold Blw at hi hj
        obtain ⟨x, rfl⟩ : ∃ x : Nat, i = x := ⟨i.toNat, by omega⟩
        obtain ⟨y, rfl⟩ : ∃ y : Nat, j = y := ⟨j.toNat, by omega⟩
        have hxn : x < p.n := by omega
        have hym : y < p.m := by omega
        simp only [Int.toNat_natCast] at HP
        clear hi hj HFI HFJ
        go_wp2_with fail
        refine (QI.out _).mono ?_
        rintro e w2 ⟨rfl, rfl⟩
        go_wp2_with fail
        refine (QJ.out _).mono ?_
        rintro e w2 ⟨rfl, rfl⟩
        clear QI QJ
        go_wp2_with fail
        refine (turned_any _ _ _ _ _ _ _ _ _ _ HT.out.gv.tx).mono ?_
        rintro e w2 ⟨rfl, ho, hb, hlt⟩
        have HT2 := Lib.hid (HT.out.up hb)
        obtain ⟨R, cc, t1, tI⟩ := ho.row0 hym
        rw [flip_colOf hym, colOf_len] at t1 tI
        have HBR := Lib.hid (bestReplies_any _ _ _ _ x _ tI (by omega) hxn)
        have HTM := Lib.hid (TM.mk (wb := w2) (v := .slice none 0 0) (vs := []) (xss := []) (Bld.nil _ _ _) (Below.refl _ _))
        clear ho hb hlt HT k0 r0 tI
        generalize hw1 : w1.heap.size = N at *
        clear hw1
        go_wp2_with fail
        refine HBR.out.mono ?_
        rintro e w3 ⟨Al, nl, cl, gl, rfl, rfl, ho, hb⟩
        have HR := Lib.hid (RS.start HTM.out ho hb)
        have HLL := Lib.hid (show (brF (colOf xs p.n y) x).length ≤ 3 by have := brF_len (colOf xs p.n y) x; rw [colOf_len] at this; omega)
        have HMEM := Lib.hid (show ∀ z ∈ brF (colOf xs p.n y) x, -1000 ≤ z ∧ z ≤ 1000 from fun z hz => by
          obtain ⟨_, k, hk, _, rfl⟩ := brF_mem.1 hz
          rw [colOf_len] at hk; omega)
        clear HBR ho hb HTM t1
        have hl3 := HLL.out
        generalize hls : brF (colOf xs p.n y) x = ls at *
        have HLS := Lib.hid hls
        clear hls
        generalize hlo : w2.heap.size = lo at *
        have HLO := Lib.hid hlo
        clear hlo
        generalize w3.heap.size = hi at *
        go_wp2
        go_loopw [7, 42] (fun v s wr => ∃ (k : Nat) (vs : List Value), k ≤ ls.length ∧ s = .int .i64 k ∧ Hid (RS w2 lo hi v vs (mvA y (ls.take k)) gl Al ls.length cl ls wr)) (fun _ s _ => ls.length - (intOf s).toNat)
        case atStart => exact ⟨0, [], Nat.zero_le _, rfl, HR⟩
        case round =>
          clear HR
          obtain ⟨k, vs, hk, rfl, HR⟩ := hrel
          obtain ⟨Av, cv, rfl⟩ := HR.out.tm.bo.form
          by_cases hkl : k < ls.length
          · obtain ⟨bl, ol, rfl, hcl⟩ := HR.out.li.ints.at_ (by omega)
            have c1 := hcl k hkl
            have HMS := Lib.hid (mvA_step y hkl)
            have HGB := Lib.hid (HMEM.out _ (gi_mem hkl))
            have HLA := Lib.hid (show (mvA y (ls.take k)).length ≤ 3 by rw [mvA_len, List.length_take]; have := HLL.out; omega)
            clear hcl
            have HRT := Lib.hid HR.out.tm
            generalize gi ls k = z at *
            generalize mvA y (ls.take k) = acc at *
            have hb3 := below_alloc wr (.cells #[.int .i64 z, .int .i64 y] 3)
            have hb4 := below_alloc (wr.alloc (.cells #[.int .i64 z, .int .i64 y] 3)) (.cells #[.slice (some ⟨wr.heap.size, 0, none⟩) 2 2] 26)
            have HB4 := Lib.hid ((HRT.out.bo.below hb3).below hb4).own
            have HN := Lib.hid (cell_one_new (wr.alloc (.cells #[.int .i64 z, .int .i64 y] 3)) (.slice (some ⟨wr.heap.size, 0, none⟩) 2 2) 26)
            have HPO := Lib.hid (pair_own (lo := wr.heap.size) (w := wr) z y (by have := HGB.out; omega) (by omega) (Nat.le_refl _))
            have hlh : w2.heap.size ≤ wr.heap.size := HRT.out.up.size
            clear hb3 hb4
            obtain ⟨i0, hi0, hz0, hz1, hz2⟩ := info_parts Try.info_row9
            go_wp2_with (at_builtin; refine wpList_append_own_at _ rfl _ _ 22 rfl w2.heap.size 26 i0 (.slice none 0 0) 1 24 Try.underlying22 hi0 hz0 hz1 hz2 rfl (by decide) _ (acc).length vs rfl HB4.out ⟨wr.heap.size + 1, 0, none⟩ 1 1 [.slice (some ⟨wr.heap.size, 0, none⟩) 2 2] rfl rfl ?c1 ?c2 ?c3 ?c4 ?c5 ?_)
            case c1 => have h := HN.out; rw [World.size_alloc] at h; exact h
            case c2 => intro u hu; simp at hu; subst hu; rfl
            case c3 => have := HLA.out; unfold maxLen; omega
            case c4 => have := HLA.out; omega
            case c5 => simp; omega
            intro v' w5 hown' hgrow _ hat
            have hgrow2 : ((wr.alloc (.cells #[.int .i64 z, .int .i64 y] 3)).alloc (.cells #[.slice (some ⟨wr.heap.size, 0, none⟩) 2 2] 26)).grownBy w5 (Value.slice Av (acc).length cv).ownBlock := hgrow
            have hat2 : v'.ownBlock = (Value.slice Av (acc).length cv).ownBlock ∨ v'.ownBlock = some ((wr.alloc (.cells #[.int .i64 z, .int .i64 y] 3)).heap.size + 1) := by simpa using hat
            have HR5 := Lib.hid (HR.out.push HPO.out hown' hgrow2 hat2)
            clear HB4 HN HPO hown' hgrow hat hgrow2 hat2 HLA
            clear HR HRT c1
            go_wp2
            go_roundw
            case rel => exact ⟨k + 1, _, by omega, by go_num, Lib.hid (by rw [HMS.out]; exact HR5.out)⟩
            case measure => simp [intOf]; omega
          · obtain rfl : k = ls.length := by omega
            have HTM := Lib.hid HR.out.tm
            have HT3 := Lib.hid (HT2.out.up HTM.out.up)
            have HA1 := Lib.hid (show (mvA y (ls.take ls.length)).length ≤ 3 by rw [mvA_len, List.take_length]; exact HLL.out)
            have k1 := HT3.out.c1
            have r1 := HT3.out.gv.ty.row x hxn
            have HIY := Lib.hid (HT3.out.gv.ty.ints x hxn)
            have HBR := Lib.hid (bestReplies_any _ _ _ _ y _ HIY.out (by omega) hym)
            clear HR HIY
            go_wp2_with fail
            refine HBR.out.mono ?_
            rintro e w4 ⟨Am, nm, cm, gm, rfl, rfl, ho, hb⟩
            have HR := Lib.hid (RS.start HTM.out ho hb)
            have HLM := Lib.hid (show (brF (gr ys x) y).length ≤ 3 by have := brF_len (gr ys x) y; rw [HLY.out x hxn] at this; omega)
            have HMEM2 := Lib.hid (show ∀ z ∈ brF (gr ys x) y, -1000 ≤ z ∧ z ≤ 1000 from fun z hz => by
              obtain ⟨_, k, hk, _, rfl⟩ := brF_mem.1 hz
              rw [HLY.out x hxn] at hk; omega)
            clear HBR ho hb HTM r1 k1
            have hm3' := HLM.out
            generalize hms : brF (gr ys x) y = ms at *
            have HMSS := Lib.hid hms
            clear hms
            obtain ⟨wA, hwA⟩ : ∃ wA, wA = wr := ⟨_, rfl⟩
            subst hwA
            generalize hac0 : mvA y (ls.take ls.length) = ac0 at *
            have HAC0 := Lib.hid hac0
            clear hac0
            generalize wA.heap.size = lo2 at *
            generalize w4.heap.size = hi2 at *
            go_wp2
            go_loopw [7, 61] (fun v s wr => ∃ (k : Nat) (vs : List Value), k ≤ ms.length ∧ s = .int .i64 k ∧ Hid (RS w2 lo2 hi2 v vs (ac0 ++ mvB x (ms.take k)) gm Am ms.length cm ms wr)) (fun _ s _ => ms.length - (intOf s).toNat)
            case atStart => exact ⟨0, vs, Nat.zero_le _, rfl, Lib.hid (by simpa [mvB] using HR.out)⟩
            case round =>
              clear HR vs
              obtain ⟨k, vs, hk, rfl, HR⟩ := hrel
              obtain ⟨Av, cv, rfl⟩ := HR.out.tm.bo.form
              by_cases hkm : k < ms.length
              · obtain ⟨bl, ol, rfl, hcl⟩ := HR.out.li.ints.at_ (by omega)
                have c1 := hcl k hkm
                have HMS := Lib.hid (mvB_step x hkm)
                have HGB := Lib.hid (HMEM2.out _ (gi_mem hkm))
                have HLA := Lib.hid (show (ac0 ++ mvB x (ms.take k)).length ≤ 6 by rw [List.length_append, mvB_len, List.length_take]; have := HA1.out; have := HLM.out; omega)
                clear hcl
                have HRT := Lib.hid HR.out.tm
                generalize gi ms k = z at *
                generalize hpart : mvB x (ms.take k) = part at *
                clear hpart
                generalize hacc : ac0 ++ part = acc at *
                have HACC := Lib.hid hacc
                clear hacc
                have hb3 := below_alloc wr (.cells #[.int .i64 x, .int .i64 z] 3)
                have hb4 := below_alloc (wr.alloc (.cells #[.int .i64 x, .int .i64 z] 3)) (.cells #[.slice (some ⟨wr.heap.size, 0, none⟩) 2 2] 26)
                have HB4 := Lib.hid ((HRT.out.bo.below hb3).below hb4).own
                have HN := Lib.hid (cell_one_new (wr.alloc (.cells #[.int .i64 x, .int .i64 z] 3)) (.slice (some ⟨wr.heap.size, 0, none⟩) 2 2) 26)
                have HPO := Lib.hid (pair_own (lo := wr.heap.size) (w := wr) x z (by omega) (by have := HGB.out; omega) (Nat.le_refl _))
                have hlh : w2.heap.size ≤ wr.heap.size := HRT.out.up.size
                clear hb3 hb4
                obtain ⟨i0, hi0, hz0, hz1, hz2⟩ := info_parts Try.info_row9
                go_wp2_with (at_builtin; refine wpList_append_own_at _ rfl _ _ 22 rfl w2.heap.size 26 i0 (.slice none 0 0) 1 24 Try.underlying22 hi0 hz0 hz1 hz2 rfl (by decide) _ (acc).length vs rfl HB4.out ⟨wr.heap.size + 1, 0, none⟩ 1 1 [.slice (some ⟨wr.heap.size, 0, none⟩) 2 2] rfl rfl ?c1 ?c2 ?c3 ?c4 ?c5 ?_)
                case c1 => have h := HN.out; rw [World.size_alloc] at h; exact h
                case c2 => intro u hu; simp at hu; subst hu; rfl
                case c3 => have := HLA.out; unfold maxLen; omega
                case c4 => have := HLA.out; omega
                case c5 => simp; omega
                intro v' w5 hown' hgrow _ hat
                have hgrow2 : ((wr.alloc (.cells #[.int .i64 x, .int .i64 z] 3)).alloc (.cells #[.slice (some ⟨wr.heap.size, 0, none⟩) 2 2] 26)).grownBy w5 (Value.slice Av (acc).length cv).ownBlock := hgrow
                have hat2 : v'.ownBlock = (Value.slice Av (acc).length cv).ownBlock ∨ v'.ownBlock = some ((wr.alloc (.cells #[.int .i64 x, .int .i64 z] 3)).heap.size + 1) := by simpa using hat
                have HR5 := Lib.hid (HR.out.push HPO.out hown' hgrow2 hat2)
                clear HB4 HN HPO hown' hgrow hat hgrow2 hat2 HLA
                clear HR HRT c1
                go_wp2
                go_roundw
                case rel => exact ⟨k + 1, _, by omega, by go_num, Lib.hid (by rw [HMS.out, ← List.append_assoc, HACC.out]; exact HR5.out)⟩
                case measure => simp [intOf]; omega
              · obtain rfl : k = ms.length := by omega
                have HE := Lib.hid (show ac0 ++ mvB x (ms.take ms.length) = repF xs ys x y by rw [HP.out, repL, HLS.out, HMSS.out, List.take_length, ← HAC0.out, List.take_length])
                have HNT := Lib.hid (NewT.from HT2.out.below (HR.out.tm.new (by rw [List.length_append, mvB_len, List.length_take]; have := HA1.out; have := HLM.out; omega)))
                clear HR
                go_wp2
                go_ret
                exact NewT.is HE.out HNT.out
      · have QI := Lib.hid (fun W => pb_true hi ▸ isBelow_any (p.n : Int) i W)
        have QJ := Lib.hid (fun W => pb_false hj ▸ isBelow_any (p.m : Int) j W)
        have HE := Lib.hid (show repF xs ys i j = [] by rw [HP.out, pb_false hj, Bool.and_false]; rfl)
        clear hi hj HP
        go_wp2_with fail
        refine (QI.out _).mono ?_
        rintro e w2 ⟨rfl, rfl⟩
        go_wp2_with fail
        refine (QJ.out _).mono ?_
        rintro e w2 ⟨rfl, rfl⟩
        go_wp2
        go_ret
        exact NewT.none HT.out.below HE.out
    · have QI := Lib.hid (fun W => pb_false hi ▸ isBelow_any (p.n : Int) i W)
      have HE := Lib.hid (show repF xs ys i j = [] by rw [HP.out, pb_false hi, Bool.false_and]; rfl)
      clear hi HP
      go_wp2_with fail
      refine (QI.out _).mono ?_
      rintro e w2 ⟨rfl, rfl⟩
      go_wp2
      go_ret
      exact NewT.none HT.out.below HE.out
  · have HZ := Lib.hid (show repF xs ys i j = [] by rw [repF, pb_false hv]; rfl)
    refine ((pb_false hv) ▸ HC.out).mono ?_
    rintro e w1 ⟨rfl, hb⟩
    have HB2 := Lib.hid (below_up HB.out hb)
    clear hb hv HC
    go_wp2
    go_ret
    exact NewT.none HB2.out HZ.out
end Go.Proofs.Ytbpjblefmammcaa

/- Fractions of whole numbers; one alone is a share; the pure rests. Plain. -/
namespace Go.Proofs.Ytbpjblefmammcaa

theorem fr_one (u : Int) : frU u 1 = u ∧ frD u 1 = 1 := by
  have g : gcdI u 1 = 1 := by unfold gcdI; simp
  unfold frU frD; rw [g]; simp
theorem frV_one (u : Int) : frV u 1 = .agg #[.int .i64 u, .int .i64 1] := by unfold frV; rw [(fr_one u).1, (fr_one u).2]
theorem onl_VS {n i : Nat} (hi : i < n) : VS (onl n i) n :=
  ⟨by rw [onl_len], fun j hj => by rw [onl_len] at hj; have := onl_bd (n := n) (i := i) hj; exact ⟨this.1, by omega⟩, by rw [tot_onl hi]; omega⟩
theorem rowRests_mem {a b : List (List Int)} {n m i : Nat} {r : List Int} : ∀ {j : Nat}, r ∈ rowRests a b n m i j ↔ ∃ l, l < j ∧ r = [(i : Int), (l : Int)] ∧ RestAt a b n m i l
  | 0 => by simp [rowRests]
  | j + 1 => by
    rw [rowRests, List.mem_append, rowRests_mem]
    constructor
    · rintro (⟨l, h1, h2⟩ | h)
      · exact ⟨l, by omega, h2⟩
      · split at h
        · rename_i hp
          simp only [List.mem_singleton] at h
          exact ⟨j, by omega, h, pb_iff.1 hp⟩
        · simp at h
    · rintro ⟨l, h1, h2, h3⟩
      by_cases e : l = j
      · subst e
        right
        rw [if_pos (pb_true h3), h2]; simp
      · exact .inl ⟨l, by omega, h2, h3⟩
theorem allRests_mem {a b : List (List Int)} {n m : Nat} {r : List Int} : ∀ {i : Nat}, r ∈ allRests a b n m i ↔ ∃ k l, k < i ∧ l < m ∧ r = [(k : Int), (l : Int)] ∧ RestAt a b n m k l
  | 0 => by simp [allRests]
  | i + 1 => by
    rw [allRests, List.mem_append, allRests_mem, rowRests_mem]
    constructor
    · rintro (⟨k, l, h1, h2⟩ | ⟨l, h2⟩)
      · exact ⟨k, l, by omega, h2⟩
      · exact ⟨i, l, by omega, h2⟩
    · rintro ⟨k, l, h1, h2⟩
      by_cases e : k = i
      · subst e; exact .inr ⟨l, h2⟩
      · exact .inl ⟨k, l, by omega, h2⟩
end Go.Proofs.Ytbpjblefmammcaa

/- Rests are where replies are none; rests with both players exchanged. -/
namespace Go.Proofs.Ytbpjblefmammcaa
open Go.RowKit

theorem brF_nil {pays : List Int} {now : Nat} (h : now < pays.length) : brF pays now = [] ↔ gi pays now = mxl pays := by
  constructor
  · intro e
    refine Classical.byContradiction fun hne => ?_
    obtain ⟨j, hj, e2⟩ := mx_at pays (pays.length - 1)
    have : (j : Int) ∈ brF pays now := brF_mem.2 ⟨hne, j, by omega, e2, rfl⟩
    rw [e] at this; simp at this
  · intro e; rw [brF, if_pos e]
theorem repL_nil {xs ys : List (List Int)} {n m i j : Nat} (hi : i < n) (hj : j < m) (hl : (gr ys i).length = m) : repL xs ys n i j = [] ↔ RestAt xs ys n m i j := by
  rw [RestAt_iff hi hj hl, repL, List.append_eq_nil_iff, flip_colOf hj]
  have e1 : mvA j (brF (colOf xs n j) i) = [] ↔ brF (colOf xs n j) i = [] := by simp [mvA]
  have e2 : mvB i (brF (gr ys i) j) = [] ↔ brF (gr ys i) j = [] := by simp [mvB]
  rw [e1, e2, brF_nil (by rw [colOf_len]; exact hi), brF_nil (by rw [hl]; exact hj), gi_colOf hi]
  exact Iff.rfl
theorem repF_in {xs ys : List (List Int)} {i j : Nat} (v : VG xs ys) (hi : i < xs.length) (hj : j < (gr xs 0).length) : repF xs ys i j = repL xs ys xs.length i j := by
  unfold repF
  rw [pb_true v, pb_true (p := Blw xs.length i) ⟨by omega, by omega⟩, pb_true (p := Blw (gr xs 0).length j) ⟨by omega, by omega⟩]
  simp
theorem repF_rest {xs ys : List (List Int)} {i j : Nat} (v : VG xs ys) (hi : i < xs.length) (hj : j < (gr xs 0).length) : repF xs ys i j = [] ↔ RestAt xs ys xs.length (gr xs 0).length i j := by
  rw [repF_in v hi hj]
  exact repL_nil hi hj (by rw [(v.tb.rows i (by rw [← v.n]; exact hi)).1, v.m])
theorem pureR_mem {xs ys : List (List Int)} {i j : Nat} (v : VG xs ys) (hi : i < xs.length) (hj : j < (gr xs 0).length) : [(i : Int), (j : Int)] ∈ pureR xs ys ↔ RestAt xs ys xs.length (gr xs 0).length i j := by
  rw [pureR, if_pos (pb_true v), allRests_mem]
  constructor
  · rintro ⟨k, l, _, _, e, h⟩
    injection e with e1 e2
    injection e2 with e2 _
    obtain rfl : i = k := by omega
    obtain rfl : j = l := by omega
    exact h
  · intro h; exact ⟨i, j, hi, hj, rfl, h⟩
theorem rest_flip {xs ys : List (List Int)} {n m i j : Nat} (hi : i < n) (hj : j < m) : RestAt (flip ys n m) (flip xs n m) m n j i ↔ RestAt xs ys n m i j := by
  unfold RestAt
  constructor
  · rintro ⟨h1, h2⟩
    refine ⟨fun k hk => ?_, fun k hk => ?_⟩
    · have := h2 k hk; rw [g2_flip hj hk, g2_flip hj hi] at this; exact this
    · have := h1 k hk; rw [g2_flip hk hi, g2_flip hj hi] at this; exact this
  · rintro ⟨h1, h2⟩
    refine ⟨fun k hk => ?_, fun k hk => ?_⟩
    · rw [g2_flip hk hi, g2_flip hj hi]; exact h2 k hk
    · rw [g2_flip hj hk, g2_flip hj hi]; exact h1 k hk
/-- How many of a row, of all. -/
noncomputable def cR (f : Nat → Nat → Prop) (i : Nat) : Nat → Nat
  | 0 => 0
  | j + 1 => cR f i j + if pb (f i j) = true then 1 else 0
noncomputable def cA (f : Nat → Nat → Prop) (m : Nat) : Nat → Nat
  | 0 => 0
  | i + 1 => cA f m i + cR f i m
theorem rowRests_cR (a b : List (List Int)) (n m i : Nat) : ∀ j, (rowRests a b n m i j).length = cR (fun i j => RestAt a b n m i j) i j
  | 0 => rfl
  | j + 1 => by rw [rowRests, List.length_append, rowRests_cR a b n m i j, cR]; split <;> simp
theorem allRests_cA (a b : List (List Int)) (n m : Nat) : ∀ i, (allRests a b n m i).length = cA (fun i j => RestAt a b n m i j) m i
  | 0 => rfl
  | i + 1 => by rw [allRests, List.length_append, allRests_cA a b n m i, rowRests_cR, cA]
theorem cA_zero (f : Nat → Nat → Prop) : ∀ i, cA f 0 i = 0
  | 0 => rfl
  | i + 1 => by rw [cA, cA_zero f i]; rfl
theorem cA_col (f : Nat → Nat → Prop) (m : Nat) : ∀ i, cA f (m + 1) i = cA f m i + cR (fun a b => f b a) m i
  | 0 => rfl
  | i + 1 => by rw [cA, cA_col f m i, cA, cR, cR]; omega
theorem cA_swap (f : Nat → Nat → Prop) (n : Nat) : ∀ m, cA f m n = cA (fun a b => f b a) n m
  | 0 => by rw [cA_zero]; rfl
  | m + 1 => by rw [cA_col, cA_swap f n m, cA]
theorem cR_congr {f g : Nat → Nat → Prop} {i : Nat} : ∀ {j : Nat}, (∀ l, l < j → (f i l ↔ g i l)) → cR f i j = cR g i j
  | 0, _ => rfl
  | j + 1, h => by rw [cR, cR, cR_congr (fun l hl => h l (by omega)), pb_congr (h j (by omega))]
theorem cA_congr {f g : Nat → Nat → Prop} {m : Nat} : ∀ {i : Nat}, (∀ k l, k < i → l < m → (f k l ↔ g k l)) → cA f m i = cA g m i
  | 0, _ => rfl
  | i + 1, h => by rw [cA, cA, cA_congr (fun k l hk hl => h k l (by omega) hl), cR_congr (fun l hl => h i l (by omega) hl)]
theorem pureR_flip_len {xs ys : List (List Int)} (v : VG xs ys) : (pureR (flip ys ys.length (gr ys 0).length) (flip xs xs.length (gr xs 0).length)).length = (pureR xs ys).length := by
  have v2 := v.flip2
  have hn := v.n
  have hm := v.m
  have h1 := v.tb.m1
  have hl : (flip ys ys.length (gr ys 0).length).length = (gr ys 0).length := flip_len _ _ _
  have hl0 : (gr (flip ys ys.length (gr ys 0).length) 0).length = ys.length := by rw [gr_flip h1]; simp
  rw [pureR, if_pos (pb_true v2), pureR, if_pos (pb_true v), hl, hl0, allRests_cA, allRests_cA, cA_swap]
  rw [← hn, ← hm]
  exact cA_congr fun k l hk hl => rest_flip hk hl
end Go.Proofs.Ytbpjblefmammcaa

/- Replies that end, in plain words: moves from all pairs at once, as many as there are pairs, come to none just where no row of one more goes on from any. -/
namespace Go.Proofs.Ytbpjblefmammcaa

/-- Counting what holds in a list. -/
theorem cp_eq {α : Type} {p q : α → Bool} : ∀ {L : List α}, (∀ x ∈ L, p x = true → q x = true) → L.countP p = L.countP q → ∀ x ∈ L, p x = q x
  | [], _, _ => fun x h => by cases h
  | y :: L, h, e => fun x hx => by
    have hL := List.countP_mono_left (fun x hx => h x (List.mem_cons_of_mem _ hx))
    have hy := h y (List.mem_cons_self ..)
    rw [List.countP_cons, List.countP_cons] at e
    have e2 : p y = q y ∧ L.countP p = L.countP q := by
      cases hp : p y <;> cases hq : q y <;> simp [hp, hq] at e hy ⊢ <;> omega
    rcases List.mem_cons.1 hx with rfl | hx
    · exact e2.1
    · exact cp_eq (fun x hx => h x (List.mem_cons_of_mem _ hx)) e2.2 x hx
/-- Sets that shrink, and stay once they have stayed, are empty behind as many steps as there are things, if ever. -/
theorem shrink {α : Type} (L : List α) (R : Nat → α → Bool) (h0 : ∀ s, ∀ x ∈ L, R (s + 1) x = true → R s x = true)
    (hst : ∀ s, (∀ x ∈ L, R (s + 1) x = R s x) → ∀ x ∈ L, R (s + 2) x = R (s + 1) x) (he : ∀ x ∈ L, R (L.length + 1) x = false) : ∀ x ∈ L, R L.length x = false := by
  have stay : ∀ s, (∀ x ∈ L, R (s + 1) x = R s x) → ∀ k, ∀ x ∈ L, R (s + k + 1) x = R (s + k) x := by
    intro s h k
    induction k with
    | zero => exact h
    | succ k ih => exact hst _ ih
  have main : ∀ s, s ≤ L.length → L.countP (R s) + s ≤ L.length ∨ ∃ t, t < s ∧ ∀ x ∈ L, R (t + 1) x = R t x := by
    intro s
    induction s with
    | zero => intro _; exact .inl (by have := List.countP_le_length (p := R 0) (l := L); omega)
    | succ s ih =>
      intro hs
      rcases ih (by omega) with h | ⟨t, ht, h⟩
      · by_cases e : L.countP (R (s + 1)) = L.countP (R s)
        · exact .inr ⟨s, by omega, cp_eq (h0 s) e⟩
        · have := List.countP_mono_left (h0 s)
          exact .inl (by omega)
      · exact .inr ⟨t, by omega, h⟩
  intro x hx
  rcases main L.length (Nat.le_refl _) with h | ⟨t, ht, h⟩
  · have hc : L.countP (R L.length) = 0 := by omega
    have := List.countP_eq_zero.1 hc x hx
    simpa using this
  · have h2 := stay t h (L.length - t) x hx
    rw [show t + (L.length - t) = L.length by omega] at h2
    rw [← h2]; exact he x hx

/-- Where a move leads. -/
theorem repL_in {xs ys : List (List Int)} {n m i j : Nat} (hi : i < n) (hj : j < m) (hl : (gr ys i).length = m) : ∀ r ∈ repL xs ys n i j, ∃ a b : Nat, r = [(a : Int), (b : Int)] ∧ a < n ∧ b < m := by
  intro r hr
  unfold repL at hr
  rcases List.mem_append.1 hr with h | h
  · obtain ⟨x, hx, rfl⟩ := List.mem_map.1 h
    obtain ⟨_, k, hk, _, rfl⟩ := brF_mem.1 hx
    exact ⟨k, j, rfl, by rw [colOf_len] at hk; exact hk, hj⟩
  · obtain ⟨x, hx, rfl⟩ := List.mem_map.1 h
    obtain ⟨_, k, hk, _, rfl⟩ := brF_mem.1 hx
    exact ⟨i, k, rfl, hi, by rw [← hl]; exact hk⟩
theorem repL_len (xs ys : List (List Int)) (n i j : Nat) : (repL xs ys n i j).length ≤ n + (gr ys i).length := by
  unfold repL
  rw [List.length_append, mvA_len, mvB_len]
  have h1 := brF_len (colOf xs n j) i
  have h2 := brF_len (gr ys i) j
  rw [colOf_len] at h1
  omega
/-- All rows of moves from a pair on end within k more moves. -/
def eF (xs ys : List (List Int)) (n : Nat) : Nat → Nat → Nat → Bool
  | 0, i, j => (repL xs ys n i j).isEmpty
  | k + 1, i, j => (repL xs ys n i j).all fun r => eF xs ys n k (gi r 0).toNat (gi r 1).toNat
/-- One more pair. -/
def putP (G : Nat → Nat → Bool) (r : List Int) : Nat → Nat → Bool := fun a b => G a b || (decide (r = [(a : Int), (b : Int)]))
def putPs (G : Nat → Nat → Bool) (L : List (List Int)) : Nat → Nat → Bool := L.foldl putP G
theorem putPs_at : ∀ (L : List (List Int)) (G : Nat → Nat → Bool) (a b : Nat), putPs G L a b = true ↔ G a b = true ∨ [(a : Int), (b : Int)] ∈ L
  | [], G, a, b => by simp [putPs]
  | r :: L, G, a, b => by
    rw [putPs, List.foldl_cons, show L.foldl putP (putP G r) = putPs (putP G r) L from rfl, putPs_at L, List.mem_cons]
    unfold putP
    simp only [Bool.or_eq_true, decide_eq_true_eq]
    constructor
    · rintro ((h | h) | h)
      · exact .inl h
      · exact .inr (.inl h.symm)
      · exact .inr (.inr h)
    · rintro (h | h | h)
      · exact .inl (.inl h)
      · exact .inl (.inr h.symm)
      · exact .inr h
theorem fold_next {α β : Type} (f : β → α → β) (b : β) (L : List α) {k : Nat} (h : k < L.length) : (L.take (k + 1)).foldl f b = f ((L.take k).foldl f b) L[k] := by
  rw [List.take_add_one, List.getElem?_eq_getElem h, List.foldl_append]; rfl
/-- The moves from all marked pairs of a row. -/
noncomputable def rowP (xs ys : List (List Int)) (i : Nat) (G : Nat → Nat → Bool) (l : List Int) : Nat → Nat → Bool := l.foldl (fun G (j : Int) => putPs G (repF xs ys i j)) G
/-- .. and of all rows below. -/
noncomputable def oneP (xs ys : List (List Int)) (F : Nat → Nat → Bool) : Nat → Nat → Nat → Bool
  | 0 => fun _ _ => false
  | i + 1 => rowP xs ys i (oneP xs ys F i) (selL (F i) 3)
theorem rowP_at {xs ys : List (List Int)} {i : Nat} : ∀ (l : List Int) (G : Nat → Nat → Bool) (a b : Nat), rowP xs ys i G l a b = true ↔ G a b = true ∨ ∃ j ∈ l, [(a : Int), (b : Int)] ∈ repF xs ys i j
  | [], G, a, b => by simp [rowP]
  | j :: l, G, a, b => by
    rw [rowP, List.foldl_cons]
    have hh := rowP_at (xs := xs) (ys := ys) (i := i) l (putPs G (repF xs ys i j)) a b
    rw [rowP] at hh
    rw [hh, putPs_at]
    clear hh
    constructor
    · rintro ((h | h) | ⟨k, hk, h⟩)
      · exact .inl h
      · exact .inr ⟨j, List.mem_cons_self .., h⟩
      · exact .inr ⟨k, List.mem_cons_of_mem _ hk, h⟩
    · rintro (h | ⟨k, hk, h⟩)
      · exact .inl (.inl h)
      · rcases List.mem_cons.1 hk with rfl | hk
        · exact .inl (.inr h)
        · exact .inr ⟨k, hk, h⟩
theorem oneP_at {xs ys : List (List Int)} {F : Nat → Nat → Bool} : ∀ (k a b : Nat), oneP xs ys F k a b = true ↔ ∃ i j : Nat, i < k ∧ j < 3 ∧ F i j = true ∧ [(a : Int), (b : Int)] ∈ repF xs ys i j
  | 0, a, b => by simp [oneP]
  | k + 1, a, b => by
    rw [oneP, rowP_at, oneP_at k]
    constructor
    · rintro (⟨i, j, hi, hj, hF, h⟩ | ⟨x, hx, h⟩)
      · exact ⟨i, j, by omega, hj, hF, h⟩
      · obtain ⟨j, hj, hF, rfl⟩ := selL_mem.1 hx
        exact ⟨k, j, by omega, hj, hF, h⟩
    · rintro ⟨i, j, hi, hj, hF, h⟩
      by_cases e : i = k
      · subst e
        exact .inr ⟨(j : Int), selL_mem.2 ⟨j, hj, hF, rfl⟩, h⟩
      · exact .inl ⟨i, j, by omega, hj, hF, h⟩
/-- The pairs that are reached by s moves. -/
noncomputable def mvS (xs ys : List (List Int)) : Nat → Nat → Nat → Bool
  | 0 => fun i j => decide (i < xs.length) && decide (j < (gr xs 0).length)
  | s + 1 => oneP xs ys (mvS xs ys s) 3
theorem repF_val {xs ys : List (List Int)} (v : VG xs ys) {i j : Nat} {r : List Int} (h : r ∈ repF xs ys i j) : i < xs.length ∧ j < (gr xs 0).length ∧ r ∈ repL xs ys xs.length i j := by
  by_cases hi : i < xs.length
  · by_cases hj : j < (gr xs 0).length
    · rw [repF_in v hi hj] at h; exact ⟨hi, hj, h⟩
    · unfold repF at h
      rw [if_neg (by rw [pb_false (p := Blw (gr xs 0).length (j : Int)) (fun k => hj (by have := k.2; omega))]; simp)] at h; cases h
  · unfold repF at h
    rw [if_neg (by rw [pb_false (p := Blw xs.length (i : Int)) (fun k => hi (by have := k.2; omega))]; simp)] at h; cases h
theorem VG.rowy {xs ys : List (List Int)} (v : VG xs ys) {i : Nat} (hi : i < xs.length) : (gr ys i).length = (gr xs 0).length := by
  rw [v.m]; exact v.tb.len (by rw [← v.n]; exact hi)
theorem mvS_in {xs ys : List (List Int)} (v : VG xs ys) : ∀ {s a b}, mvS xs ys s a b = true → a < xs.length ∧ b < (gr xs 0).length
  | 0, a, b, h => by simpa [mvS] using h
  | s + 1, a, b, h => by
    rw [mvS, oneP_at] at h
    obtain ⟨i, j, _, _, _, h⟩ := h
    obtain ⟨hi, hj, h⟩ := repF_val v h
    obtain ⟨a', b', e, ha, hb⟩ := repL_in hi hj (v.rowy hi) _ h
    simp only [List.cons.injEq, and_true] at e
    omega
theorem mvS_next {xs ys : List (List Int)} (v : VG xs ys) {s a b : Nat} : mvS xs ys (s + 1) a b = true ↔ ∃ i j, mvS xs ys s i j = true ∧ [(a : Int), (b : Int)] ∈ repL xs ys xs.length i j := by
  rw [mvS, oneP_at]
  constructor
  · rintro ⟨i, j, _, _, hF, h⟩
    exact ⟨i, j, hF, (repF_val v h).2.2⟩
  · rintro ⟨i, j, hF, h⟩
    obtain ⟨hi, hj⟩ := mvS_in v hF
    have h3 := v.ta.n3
    have h4 := v.ta.m3
    exact ⟨i, j, by omega, by omega, hF, by rw [repF_in v hi hj]; exact h⟩
/-- All pairs. -/
def prs (n m : Nat) : List (Nat × Nat) := (List.range n).flatMap fun i => (List.range m).map fun j => (i, j)
theorem prs_mem {n m : Nat} {p : Nat × Nat} : p ∈ prs n m ↔ p.1 < n ∧ p.2 < m := by
  obtain ⟨a, b⟩ := p
  simp [prs]
theorem prs_len : ∀ n, n < 4 → ∀ m, m < 4 → (prs n m).length = n * m := by decide
theorem walkEnd {xs ys : List (List Int)} (v : VG xs ys) : ∀ k s, (∃ a b, mvS xs ys (s + k + 1) a b = true) ↔ ∃ i j, mvS xs ys s i j = true ∧ eF xs ys xs.length k i j = false
  | 0, s => by
    constructor
    · rintro ⟨a, b, h⟩
      obtain ⟨i, j, hF, h⟩ := (mvS_next v).1 h
      refine ⟨i, j, hF, ?_⟩
      rw [eF]
      cases hq : repL xs ys xs.length i j with
      | nil => rw [hq] at h; cases h
      | cons x l => rfl
    · rintro ⟨i, j, hF, h⟩
      obtain ⟨hi, hj⟩ := mvS_in v hF
      rw [eF] at h
      cases hq : repL xs ys xs.length i j with
      | nil => rw [hq] at h; cases h
      | cons x l =>
        obtain ⟨a, b, e, _, _⟩ := repL_in hi hj (v.rowy hi) x (by rw [hq]; exact List.mem_cons_self ..)
        exact ⟨a, b, (mvS_next v).2 ⟨i, j, hF, by rw [hq, ← e]; exact List.mem_cons_self ..⟩⟩
  | k + 1, s => by
    have ih := walkEnd v k (s + 1)
    rw [show s + (k + 1) + 1 = s + 1 + k + 1 by omega, ih]
    constructor
    · rintro ⟨a, b, hF, he⟩
      obtain ⟨i, j, hF, h⟩ := (mvS_next v).1 hF
      refine ⟨i, j, hF, ?_⟩
      rw [eF, List.all_eq_false]
      exact ⟨_, h, by simpa [gi] using he⟩
    · rintro ⟨i, j, hF, he⟩
      obtain ⟨hi, hj⟩ := mvS_in v hF
      rw [eF, List.all_eq_false] at he
      obtain ⟨r, hr, he⟩ := he
      obtain ⟨a, b, rfl, _, _⟩ := repL_in hi hj (v.rowy hi) r hr
      exact ⟨a, b, (mvS_next v).2 ⟨i, j, hF, hr⟩, by simpa [gi] using he⟩
/-- Replies end from everywhere. -/
structure EnP (xs ys : List (List Int)) : Prop where
  v : VG xs ys
  all : ∀ i j, i < xs.length → j < (gr xs 0).length → eF xs ys xs.length (xs.length * (gr xs 0).length) i j = true
theorem ends_moves {xs ys : List (List Int)} (v : VG xs ys) : EnP xs ys ↔ ∀ a b, mvS xs ys (xs.length * (gr xs 0).length) a b = false := by
  have hl := prs_len xs.length (by have := v.ta.n3; omega) (gr xs 0).length (by have := v.ta.m3; omega)
  have hR : (∀ p ∈ prs xs.length (gr xs 0).length, mvS xs ys ((prs xs.length (gr xs 0).length).length + 1) p.1 p.2 = false) → ∀ p ∈ prs xs.length (gr xs 0).length, mvS xs ys (prs xs.length (gr xs 0).length).length p.1 p.2 = false :=
    shrink _ (fun s (p : Nat × Nat) => mvS xs ys s p.1 p.2) (fun s => by
      induction s with
      | zero => intro p hp _; rw [prs_mem] at hp; simp [mvS, hp.1, hp.2]
      | succ s ih =>
        intro p hp h
        obtain ⟨i, j, hF, h⟩ := (mvS_next v).1 h
        exact (mvS_next v).2 ⟨i, j, ih (i, j) (prs_mem.2 (mvS_in v hF)) hF, h⟩) (fun s hs p hp => by
      rw [Bool.eq_iff_iff]
      rw [mvS_next v, mvS_next v]
      constructor
      · rintro ⟨i, j, hF, h⟩
        exact ⟨i, j, (hs (i, j) (prs_mem.2 (mvS_in v hF))) ▸ hF, h⟩
      · rintro ⟨i, j, hF, h⟩
        exact ⟨i, j, (hs (i, j) (prs_mem.2 (mvS_in v hF))).symm ▸ hF, h⟩)
  rw [hl] at hR
  have hW := walkEnd v (xs.length * (gr xs 0).length) 0
  constructor
  · intro h a b
    cases hab : mvS xs ys (xs.length * (gr xs 0).length) a b with
    | false => rfl
    | true =>
      have hp := mvS_in v hab
      have := hR (fun p _ => by
        cases hx : mvS xs ys (xs.length * (gr xs 0).length + 1) p.1 p.2 with
        | false => rfl
        | true =>
          obtain ⟨i, j, hF, he⟩ := hW.1 ⟨p.1, p.2, by rw [Nat.zero_add]; exact hx⟩
          obtain ⟨hi, hj⟩ := mvS_in v hF
          rw [h.all i j hi hj] at he; cases he) (a, b) (prs_mem.2 hp)
      rw [hab] at this; cases this
  · intro h
    refine ⟨v, fun i j hi hj => ?_⟩
    cases he : eF xs ys xs.length (xs.length * (gr xs 0).length) i j with
    | true => rfl
    | false =>
      obtain ⟨a, b, hx⟩ := hW.2 ⟨i, j, by simp [mvS, hi, hj], he⟩
      rw [Nat.zero_add] at hx
      obtain ⟨i', j', hF, _⟩ := (mvS_next v).1 hx
      rw [h i' j'] at hF; cases hF
end Go.Proofs.Ytbpjblefmammcaa

/- Where replies end there is a rest; with both players exchanged they end as well. Plain. -/
namespace Go.Proofs.Ytbpjblefmammcaa

theorem eF_on {xs ys : List (List Int)} (v : VG xs ys) (h : ∀ i j, i < xs.length → j < (gr xs 0).length → repL xs ys xs.length i j ≠ []) : ∀ k i j, i < xs.length → j < (gr xs 0).length → eF xs ys xs.length k i j = false
  | 0, i, j, hi, hj => by
    rw [eF]
    cases e : repL xs ys xs.length i j with
    | nil => exact absurd e (h i j hi hj)
    | cons x l => rfl
  | k + 1, i, j, hi, hj => by
    rw [eF, List.all_eq_false]
    cases e : repL xs ys xs.length i j with
    | nil => exact absurd e (h i j hi hj)
    | cons x l =>
      obtain ⟨a, b, rfl, ha, hb⟩ := repL_in hi hj (v.rowy hi) x (by rw [e]; exact List.mem_cons_self ..)
      exact ⟨_, List.mem_cons_self .., by simpa [gi] using eF_on v h k a b ha hb⟩
theorem ends_rest {xs ys : List (List Int)} (h : EnP xs ys) : 0 < (pureR xs ys).length := by
  have v := h.v
  refine Classical.byContradiction fun hn => ?_
  have he : pureR xs ys = [] := List.eq_nil_of_length_eq_zero (by omega)
  have hi := v.ta.n1
  have hj := v.ta.m1
  have := eF_on v (fun i j hi hj e => by
    have hr := (repL_nil hi hj (v.rowy hi)).1 e
    have := (pureR_mem v hi hj).2 hr
    rw [he] at this; cases this) (xs.length * (gr xs 0).length) 0 0 hi hj
  rw [h.all 0 0 hi hj] at this; cases this
theorem repL_pair {xs ys : List (List Int)} {n i j a b : Nat} : [(a : Int), (b : Int)] ∈ repL xs ys n i j ↔ (b = j ∧ (a : Int) ∈ brF (colOf xs n j) i) ∨ (a = i ∧ (b : Int) ∈ brF (gr ys i) j) := by
  unfold repL mvA mvB
  rw [List.mem_append, List.mem_map, List.mem_map]
  constructor
  · rintro (⟨x, hx, e⟩ | ⟨x, hx, e⟩)
    · simp only [List.cons.injEq, and_true] at e
      exact .inl ⟨by omega, by rw [← e.1]; exact hx⟩
    · simp only [List.cons.injEq, and_true] at e
      exact .inr ⟨by omega, by rw [← e.2]; exact hx⟩
  · rintro (⟨rfl, h⟩ | ⟨rfl, h⟩)
    · exact .inl ⟨_, h, rfl⟩
    · exact .inr ⟨_, h, rfl⟩
theorem repL_flip {xs ys : List (List Int)} {n m i j a b : Nat} (hi : i < n) (hj : j < m) (hl : (gr ys i).length = m) : [(b : Int), (a : Int)] ∈ repL (flip ys n m) (flip xs n m) m j i ↔ [(a : Int), (b : Int)] ∈ repL xs ys n i j := by
  have e : colOf (flip ys n m) m i = gr ys i := gi_ext (by rw [colOf_len, hl]) fun k hk => by
    rw [colOf_len] at hk
    rw [gi_colOf hk, g2_flip hk hi]; rfl
  rw [repL_pair, repL_pair, e, flip_colOf hj]
  exact Or.comm
theorem eF_flip {xs ys : List (List Int)} (v : VG xs ys) {n m : Nat} (hn : xs.length = n) (hm : (gr xs 0).length = m) : ∀ k i j, i < n → j < m → eF (flip ys n m) (flip xs n m) m k j i = eF xs ys n k i j := by
  have key : ∀ i j, i < n → j < m → ∀ P : Nat → Nat → Bool, (∀ a b, a < n → b < m → P a b = true) ∨ True → True := fun _ _ _ _ _ _ => trivial
  clear key
  have hry : ∀ i, i < n → (gr ys i).length = m := fun i hi => by rw [← hm]; exact v.rowy (by rw [hn]; exact hi)
  have hrf : ∀ j, j < m → (gr (flip xs n m) j).length = n := fun j hj => by rw [flip_colOf hj, colOf_len]
  have pairs : ∀ i j, i < n → j < m → ∀ a b : Nat, [(b : Int), (a : Int)] ∈ repL (flip ys n m) (flip xs n m) m j i ↔ [(a : Int), (b : Int)] ∈ repL xs ys n i j := fun i j hi hj a b => repL_flip hi hj (hry i hi)
  intro k
  induction k with
  | zero =>
    intro i j hi hj
    rw [eF, eF]
    cases e : repL xs ys n i j with
    | nil =>
      cases e2 : repL (flip ys n m) (flip xs n m) m j i with
      | nil => rfl
      | cons x l =>
        obtain ⟨b, a, rfl, _, _⟩ := repL_in hj hi (hrf j hj) x (by rw [e2]; exact List.mem_cons_self ..)
        have := (pairs i j hi hj a b).1 (by rw [e2]; exact List.mem_cons_self ..)
        rw [e] at this; cases this
    | cons x l =>
      cases e2 : repL (flip ys n m) (flip xs n m) m j i with
      | cons x l => rfl
      | nil =>
        obtain ⟨a, b, rfl, _, _⟩ := repL_in hi hj (hry i hi) x (by rw [e]; exact List.mem_cons_self ..)
        have := (pairs i j hi hj a b).2 (by rw [e]; exact List.mem_cons_self ..)
        rw [e2] at this; cases this
  | succ k ih =>
    intro i j hi hj
    rw [eF, eF, Bool.eq_iff_iff, List.all_eq_true, List.all_eq_true]
    constructor
    · intro h r hr
      obtain ⟨a, b, rfl, ha, hb⟩ := repL_in hi hj (hry i hi) r hr
      have := h _ ((pairs i j hi hj a b).2 hr)
      simp only [gi, List.getD_cons_zero, List.getD_cons_succ, Int.toNat_natCast] at this ⊢
      rw [← ih a b ha hb]; exact this
    · intro h r hr
      obtain ⟨b, a, rfl, hb, ha⟩ := repL_in hj hi (hrf j hj) r hr
      have := h _ ((pairs i j hi hj a b).1 hr)
      simp only [gi, List.getD_cons_zero, List.getD_cons_succ, Int.toNat_natCast] at this ⊢
      rw [ih a b ha hb]; exact this
theorem ends_flip {xs ys : List (List Int)} (v : VG xs ys) : EnP (flip ys ys.length (gr ys 0).length) (flip xs xs.length (gr xs 0).length) ↔ EnP xs ys := by
  have hn := v.n
  have hm := v.m
  have h1 := v.tb.m1
  have v2 := v.flip2
  have hl : (flip ys ys.length (gr ys 0).length).length = (gr ys 0).length := flip_len _ _ _
  have hl0 : (gr (flip ys ys.length (gr ys 0).length) 0).length = ys.length := by rw [gr_flip h1]; simp
  rw [← hn, ← hm] at *
  constructor
  · intro h
    refine ⟨v, fun i j hi hj => ?_⟩
    have := h.all j i (by rw [hl]; exact hj) (by rw [hl0]; exact hi)
    rw [hl, hl0, eF_flip v rfl rfl _ i j hi hj, Nat.mul_comm] at this
    exact this
  · intro h
    refine ⟨v2, fun j i hj hi => ?_⟩
    rw [hl] at hj
    rw [hl0] at hi
    rw [hl, hl0, eF_flip v rfl rfl _ i j hi hj, Nat.mul_comm]
    exact h.all i j hi hj
end Go.Proofs.Ytbpjblefmammcaa

/- Potentials are there just where rounds are 0; where there is one replies end. Plain. -/
namespace Go.Proofs.Ytbpjblefmammcaa
open Go.RowKit

theorem pot_nr {xs ys : List (List Int)} : PotP xs ys ↔ NR xs ys := by
  constructor
  · intro h
    refine ⟨h.v, fun i k j l hi hk hj hl => ?_⟩
    have a1 := h.all i j hi hj
    have a2 := h.all k j hk hj
    have a3 := h.all i l hi hl
    have a4 := h.all k l hk hl
    unfold pC qC at a1 a2 a3 a4
    unfold rnd
    omega
  · intro h
    refine ⟨h.vg, fun i j hi hj => ?_⟩
    have a := h.no 0 i 0 j h.vg.ta.n1 hi h.vg.ta.m1 hj
    unfold rnd at a
    unfold pC qC
    omega
/-- Sets that shrink, and stay once they have stayed, are empty behind as many steps as there are things, if ever. -/
theorem shrink2 {α : Type} (L : List α) (R : Nat → α → Bool) (h0 : ∀ s, ∀ x ∈ L, R (s + 1) x = true → R s x = true)
    (hst : ∀ s, (∀ x ∈ L, R (s + 1) x = R s x) → ∀ x ∈ L, R (s + 2) x = R (s + 1) x) (S : Nat) (hS : L.length ≤ S) (he : ∀ x ∈ L, R S x = false) : ∀ x ∈ L, R L.length x = false := by
  by_cases e : S = L.length
  · subst e; exact he
  · have hk : ∃ k, S = L.length + 1 + k := ⟨S - (L.length + 1), by omega⟩
    obtain ⟨k, rfl⟩ := hk
    clear e hS
    induction k with
    | zero => exact shrink L R h0 hst he
    | succ k ih =>
      refine ih fun x hx => ?_
      -- where it has not been empty it stays
      cases hxx : R (L.length + 1 + k) x with
      | false => rfl
      | true =>
        exfalso
        have main : ∀ s, s ≤ L.length + 1 → L.countP (R s) + s ≤ L.length ∨ ∃ t, t < s ∧ ∀ x ∈ L, R (t + 1) x = R t x := by
          intro s
          induction s with
          | zero => intro _; exact .inl (by have := List.countP_le_length (p := R 0) (l := L); omega)
          | succ s ih2 =>
            intro hs
            rcases ih2 (by omega) with h | ⟨t, ht, h⟩
            · by_cases e : L.countP (R (s + 1)) = L.countP (R s)
              · exact .inr ⟨s, by omega, cp_eq (h0 s) e⟩
              · have := List.countP_mono_left (h0 s)
                exact .inl (by omega)
            · exact .inr ⟨t, by omega, h⟩
        have stay : ∀ s, (∀ x ∈ L, R (s + 1) x = R s x) → ∀ k, ∀ x ∈ L, R (s + k + 1) x = R (s + k) x := by
          intro s h k
          induction k with
          | zero => exact h
          | succ k ih => exact hst _ ih
        rcases main (L.length + 1) (Nat.le_refl _) with h | ⟨t, ht, h⟩
        · omega
        · have h2 := stay t h (L.length + 1 + k - t) x hx
          rw [show t + (L.length + 1 + k - t) = L.length + 1 + k by omega] at h2
          have := he x hx
          rw [show L.length + 1 + (k + 1) = L.length + 1 + k + 1 by omega, h2, hxx] at this
          cases this
/-- Each move makes the potential greater. -/
theorem pot_up {xs ys : List (List Int)} (h : PotP xs ys) {i j a b : Nat} (hi : i < xs.length) (hj : j < (gr xs 0).length) (hr : [(a : Int), (b : Int)] ∈ repL xs ys xs.length i j) : pC xs ys i j + 1 ≤ pC xs ys a b := by
  have v := h.v
  have hly := v.rowy hi
  rcases repL_pair.1 hr with ⟨rfl, hm⟩ | ⟨rfl, hm⟩
  · obtain ⟨hne, k, hk, hg, e⟩ := brF_mem.1 hm
    obtain rfl : a = k := by omega
    rw [colOf_len] at hk
    rw [gi_colOf hk] at hg
    rw [gi_colOf hi] at hne
    have hle : gi (colOf xs xs.length b) i ≤ mxl (colOf xs xs.length b) := mx_ge _ (by rw [colOf_len]; omega)
    rw [gi_colOf hi] at hle
    have a1 := h.all i b hi hj
    have a2 := h.all a b hk hj
    unfold qC at a1 a2
    omega
  · obtain ⟨hne, k, hk, hg, e⟩ := brF_mem.1 hm
    obtain rfl : b = k := by omega
    have hle : gi (gr ys a) j ≤ mxl (gr ys a) := mx_ge _ (by omega)
    have e1 : g2 ys a b = gi (gr ys a) b := rfl
    have e2 : g2 ys a j = gi (gr ys a) j := rfl
    unfold pC
    omega
theorem pot_bd {xs ys : List (List Int)} (v : VG xs ys) {i j : Nat} (hi : i < xs.length) (hj : j < (gr xs 0).length) : -36 ≤ pC xs ys i j ∧ pC xs ys i j ≤ 36 := by
  have h1 := v.ta.bd hi v.ta.m1
  have h2 := v.ta.bd v.ta.n1 v.ta.m1
  have hi2 : i < ys.length := by rw [← v.n]; exact hi
  have h3 := v.tb.bd hi2 (show j < (gr ys 0).length by rw [← v.m]; exact hj)
  have h4 := v.tb.bd hi2 v.tb.m1
  unfold pC
  omega
theorem mvS_pot {xs ys : List (List Int)} (h : PotP xs ys) : ∀ s a b, mvS xs ys s a b = true → -36 + (s : Int) ≤ pC xs ys a b
  | 0, a, b, hm => by
    obtain ⟨ha, hb⟩ := mvS_in h.v hm
    have := pot_bd h.v ha hb
    omega
  | s + 1, a, b, hm => by
    obtain ⟨i, j, hF, hr⟩ := (mvS_next h.v).1 hm
    obtain ⟨hi, hj⟩ := mvS_in h.v hF
    have h1 := mvS_pot h s i j hF
    have h2 := pot_up h hi hj hr
    omega
theorem pot_ends {xs ys : List (List Int)} (h : PotP xs ys) : EnP xs ys := by
  have v := h.v
  have h3 := v.ta.n3
  have h4 := v.ta.m3
  have hl := prs_len xs.length (by omega) (gr xs 0).length (by omega)
  have hnm : xs.length * (gr xs 0).length ≤ 9 := by have := Nat.mul_le_mul h3 h4; omega
  have hR : ∀ p ∈ prs xs.length (gr xs 0).length, mvS xs ys (prs xs.length (gr xs 0).length).length p.1 p.2 = false :=
    shrink2 _ (fun s (p : Nat × Nat) => mvS xs ys s p.1 p.2) (fun s => by
      induction s with
      | zero => intro p hp _; rw [prs_mem] at hp; simp [mvS, hp.1, hp.2]
      | succ s ih =>
        intro p hp h
        obtain ⟨i, j, hF, h⟩ := (mvS_next v).1 h
        exact (mvS_next v).2 ⟨i, j, ih (i, j) (prs_mem.2 (mvS_in v hF)) hF, h⟩) (fun s hs p hp => by
      rw [Bool.eq_iff_iff]
      rw [mvS_next v, mvS_next v]
      constructor
      · rintro ⟨i, j, hF, h⟩
        exact ⟨i, j, (hs (i, j) (prs_mem.2 (mvS_in v hF))) ▸ hF, h⟩
      · rintro ⟨i, j, hF, h⟩
        exact ⟨i, j, (hs (i, j) (prs_mem.2 (mvS_in v hF))).symm ▸ hF, h⟩) 100 (by omega) (fun p hp => by
      cases hx : mvS xs ys 100 p.1 p.2 with
      | false => rfl
      | true =>
        have h1 := mvS_pot h 100 p.1 p.2 hx
        obtain ⟨ha, hb⟩ := mvS_in v hx
        have h2 := pot_bd v ha hb
        omega)
  rw [hl] at hR
  rw [ends_moves v]
  intro a b
  cases hab : mvS xs ys (xs.length * (gr xs 0).length) a b with
  | false => rfl
  | true =>
    have := hR (a, b) (prs_mem.2 (mvS_in v hab))
    rw [hab] at this; cases this
/-- What the steps are. -/
theorem pot_row {xs ys : List (List Int)} (h : PotP xs ys) {i k j : Nat} (hi : i < xs.length) (hk : k < xs.length) (hj : j < (gr xs 0).length) : pC xs ys i j - pC xs ys k j = g2 xs i j - g2 xs k j := by
  have a1 := h.all i j hi hj
  have a2 := h.all k j hk hj
  unfold qC at a1 a2
  omega
theorem pot_col (xs ys : List (List Int)) (i j k : Nat) : pC xs ys i j - pC xs ys i k = g2 ys i j - g2 ys i k := by unfold pC; omega
theorem pot_zero (xs ys : List (List Int)) : pC xs ys 0 0 = 0 := by unfold pC; omega
end Go.Proofs.Ytbpjblefmammcaa

/- All pairs, and one move on from pairs, by the program. -/
namespace Go.Proofs.Ytbpjblefmammcaa
open Go.RowKit

/-- Nine marks, three rows one behind the other. -/
def bs9 (f : Nat → Nat → Bool) : Array Value := #[.bool (f 0 0), .bool (f 0 1), .bool (f 0 2), .bool (f 1 0), .bool (f 1 1), .bool (f 1 2), .bool (f 2 0), .bool (f 2 1), .bool (f 2 2)]
theorem bs9_get (f : Nat → Nat → Bool) {i j : Nat} (hi : i < 3) (hj : j < 3) : (bs9 f)[i * 3 + j]? = some (.bool (f i j)) := by
  rcases lt3 hi with rfl | rfl | rfl <;> rcases lt3 hj with rfl | rfl | rfl <;> rfl
theorem bs9_congr {f g : Nat → Nat → Bool} (h : ∀ r c, r < 3 → c < 3 → f r c = g r c) : bs9 f = bs9 g := by
  unfold bs9
  rw [h 0 0 (by omega) (by omega), h 0 1 (by omega) (by omega), h 0 2 (by omega) (by omega), h 1 0 (by omega) (by omega), h 1 1 (by omega) (by omega), h 1 2 (by omega) (by omega), h 2 0 (by omega) (by omega), h 2 1 (by omega) (by omega), h 2 2 (by omega) (by omega)]
theorem bs9_inj {f g : Nat → Nat → Bool} (h : bs9 f = bs9 g) : ∀ r c, r < 3 → c < 3 → f r c = g r c := fun r c hr hc => by
  have h2 := bs9_get f hr hc
  rw [h, bs9_get g hr hc] at h2
  injection h2 with h2
  injection h2 with h2
  exact h2.symm
theorem bs9_row (f : Nat → Nat → Bool) {i : Nat} (hi : i < 3) (a b c : Bool) : (((bs9 f).setIfInBounds (i * 3) (.bool a)).setIfInBounds (i * 3 + 1) (.bool b)).setIfInBounds (i * 3 + 2) (.bool c) = bs9 (fun r j => if r = i then (if j = 0 then a else if j = 1 then b else c) else f r j) := by
  rcases lt3 hi with rfl | rfl | rfl <;> rfl
theorem bs9_put (f : Nat → Nat → Bool) {i j : Nat} (hi : i < 3) (hj : j < 3) : (bs9 f).setIfInBounds (i * 3 + j) (.bool true) = bs9 (putP f [(i : Int), (j : Int)]) := by
  rcases lt3 hi with rfl | rfl | rfl <;> rcases lt3 hj with rfl | rfl | rfl <;> simp [bs9, putP]
theorem bs9_none : bs9 (fun _ _ => false) = #[.bool false, .bool false, .bool false, .bool false, .bool false, .bool false, .bool false, .bool false, .bool false] := rfl
theorem und_pairs : Try.prog.underlying 82 = some (.array 3 80) := by kernel_rfl
/-- All pairs. -/
def allP (n m : Nat) : Nat → Nat → Bool := fun r c => decide (r < n) && decide (c < m)

/-- The boxes of allPairs. -/
structure AQ (p : GP) (w : World) (xs ys : List (List Int)) (k : Nat) (W : World) : Prop where
  gt : GT p w W w.heap.size xs ys
  box : Blk W (w.heap.size + 1) 82 #[.bool false, .bool false, .bool false, .bool false, .bool false, .bool false, .bool false, .bool false, .bool false]
  var : Blk W (w.heap.size + 1 + 1) 82 (bs9 (allP k p.m))
theorem AQ.start {p w xs ys} (h : GV p w xs ys) : AQ p w xs ys 0 (((w.alloc (.cells #[.slice (some ⟨p.ba, p.oa, none⟩) p.n p.c, .slice (some ⟨p.bb, p.ob, none⟩) p.n p.d] 29)).alloc (.cells #[.bool false, .bool false, .bool false, .bool false, .bool false, .bool false, .bool false, .bool false, .bool false] 82)).alloc (.cells #[.bool false, .bool false, .bool false, .bool false, .bool false, .bool false, .bool false, .bool false, .bool false] 82)) := by
  have h1 := blk_new (w.alloc (.cells #[.slice (some ⟨p.ba, p.oa, none⟩) p.n p.c, .slice (some ⟨p.bb, p.ob, none⟩) p.n p.d] 29)) 82 #[.bool false, .bool false, .bool false, .bool false, .bool false, .bool false, .bool false, .bool false, .bool false]
  have h2 := blk_new ((w.alloc (.cells #[.slice (some ⟨p.ba, p.oa, none⟩) p.n p.c, .slice (some ⟨p.bb, p.ob, none⟩) p.n p.d] 29)).alloc (.cells #[.bool false, .bool false, .bool false, .bool false, .bool false, .bool false, .bool false, .bool false, .bool false] 82)) 82 #[.bool false, .bool false, .bool false, .bool false, .bool false, .bool false, .bool false, .bool false, .bool false]
  simp only [World.size_alloc] at h1 h2
  exact ⟨((GT.start h).up (below_alloc _ _)).up (below_alloc _ _), blk_old h1 _, by
    have e : bs9 (allP 0 p.m) = #[.bool false, .bool false, .bool false, .bool false, .bool false, .bool false, .bool false, .bool false, .bool false] := by rw [← bs9_none]; exact bs9_congr fun r c _ _ => by simp [allP]
    rw [e]; exact h2⟩
theorem AQ.up {p w xs ys k W W'} (h : AQ p w xs ys k W) (b : Below W.heap.size W W') : AQ p w xs ys k W' := ⟨h.gt.up b, blk_below h.box b, blk_below h.var b⟩
theorem AQ.put {p w xs ys k W} (h : AQ p w xs ys k W) (hk : k < 3) (a b c : Bool) (ha : a = decide (0 < p.m)) (hb : b = decide (1 < p.m)) (hc : c = decide (2 < p.m)) :
    AQ p w xs ys (k + 1) (((W.setCell ⟨w.heap.size + 1 + 1, k * 3, none⟩ (.bool a)).setCell ⟨w.heap.size + 1 + 1, k * 3 + 1, none⟩ (.bool b)).setCell ⟨w.heap.size + 1 + 1, k * 3 + 2, none⟩ (.bool c)) := by
  have hlt := blk_lt h.gt.box
  refine ⟨h.gt.up2 (B := w.heap.size + 1) ((((Below.refl _ _).setCell (p := ⟨w.heap.size + 1 + 1, k * 3, none⟩) (by show w.heap.size + 1 ≤ w.heap.size + 1 + 1; omega) _).setCell (p := ⟨w.heap.size + 1 + 1, k * 3 + 1, none⟩) (by show w.heap.size + 1 ≤ w.heap.size + 1 + 1; omega) _).setCell (p := ⟨w.heap.size + 1 + 1, k * 3 + 2, none⟩) (by show w.heap.size + 1 ≤ w.heap.size + 1 + 1; omega) _) (by omega) (by omega),
    blk_other (p := ⟨w.heap.size + 1 + 1, k * 3 + 2, none⟩) (blk_other (p := ⟨w.heap.size + 1 + 1, k * 3 + 1, none⟩) (blk_other (p := ⟨w.heap.size + 1 + 1, k * 3, none⟩) h.box (by show w.heap.size + 1 ≠ w.heap.size + 1 + 1; omega) _) (by show w.heap.size + 1 ≠ w.heap.size + 1 + 1; omega) _) (by show w.heap.size + 1 ≠ w.heap.size + 1 + 1; omega) _, ?_⟩
  have := blk_set (blk_set (blk_set h.var (k * 3) (.bool a)) (k * 3 + 1) (.bool b)) (k * 3 + 2) (.bool c)
  rw [bs9_row _ hk] at this
  have e : bs9 (fun r j => if r = k then (if j = 0 then a else if j = 1 then b else c) else allP k p.m r j) = bs9 (allP (k + 1) p.m) := bs9_congr fun r j hr hj => by
    by_cases e : r = k
    · subst e
      rw [if_pos rfl]
      rcases lt3 hj with rfl | rfl | rfl <;> simp [allP, ha, hb, hc]
    · rw [if_neg e]
      unfold allP
      have : decide (r < k) = decide (r < k + 1) := by rw [decide_eq_decide]; omega
      rw [this]
  rw [e] at this
  exact this
set_option maxRecDepth 100000 in
set_option maxHeartbeats 3200000 in
theorem allPairs_any (p : GP) (xs ys : List (List Int)) (w : World) (hg : GV p w xs ys) :
    Calls Try.prog 64 #[.agg #[.slice (some ⟨p.ba, p.oa, none⟩) p.n p.c, .slice (some ⟨p.bb, p.ob, none⟩) p.n p.d]] w (Ret (.agg (bs9 (allP p.n p.m))) w) := by
  have HS := Lib.hid (AQ.start hg)
  have hn3 := hg.tx.n3
  have hm3 := hg.tx.m3
  have hn1 := hg.tx.n1
  obtain ⟨b0, e0⟩ : ∃ b, b = decide (0 < p.m) := ⟨_, rfl⟩
  obtain ⟨b1, e1⟩ : ∃ b, b = decide (1 < p.m) := ⟨_, rfl⟩
  obtain ⟨b2, e2⟩ : ∃ b, b = decide (2 < p.m) := ⟨_, rfl⟩
  have HC : Hid (∀ W, Calls Try.prog 91 #[.int .i64 p.m] W (Ret (.agg #[.bool b0, .bool b1, .bool b2]) W)) := Lib.hid (fun W => by
    have h := allMarks_any p.m W hm3
    rw [bs3, ← e0, ← e1, ← e2] at h; exact h)
  have E0 := Lib.hid e0
  have E1 := Lib.hid e1
  have E2 := Lib.hid e2
  clear e0 e1 e2 hg
  go_enter Try.func64, Try.ntmps64
  have k0 := HS.out.gt.c0
  go_wp2
  clear k0
  generalize ((w.alloc (.cells #[.slice (some ⟨p.ba, p.oa, none⟩) p.n p.c, .slice (some ⟨p.bb, p.ob, none⟩) p.n p.d] 29)).alloc (.cells #[.bool false, .bool false, .bool false, .bool false, .bool false, .bool false, .bool false, .bool false, .bool false] 82)).alloc (.cells #[.bool false, .bool false, .bool false, .bool false, .bool false, .bool false, .bool false, .bool false, .bool false] 82) = W1 at *
  go_loopw [9] (fun i_ wr => ∃ i : Nat, i ≤ p.n ∧ i_ = .int .i64 i ∧ Hid (AQ p w xs ys i wr)) (fun i_ _ => p.n - (intOf i_).toNat)
  case atStart => exact ⟨0, Nat.zero_le _, rfl, HS⟩
  case round =>
    clear HS
    obtain ⟨i, hi, rfl, HA⟩ := hrel
    by_cases hlt : i < p.n
    · have r0 := HA.out.gt.gv.tx.row i hlt
      go_wp2_with fail
      refine (HC.out _).mono ?_
      rintro e w2 ⟨rfl, hb⟩
      have HA := Lib.hid (HA.out.up hb)
      have HN := Lib.hid (HA.out.put (by omega) b0 b1 b2 E0.out E1.out E2.out)
      have f0 := blk_frozen HA.out.var (i * 3)
      have f1 := blk_frozen HA.out.var (i * 3 + 1)
      have f2 := blk_frozen HA.out.var (i * 3 + 2)
      have d0 := blk_cell HA.out.var (i := i * 3) (bs9_get (allP i p.m) (by omega : i < 3) (by omega : 0 < 3))
      have d1 := blk_cell HA.out.var (bs9_get (allP i p.m) (by omega : i < 3) (by omega : 1 < 3))
      have d2 := blk_cell HA.out.var (bs9_get (allP i p.m) (by omega : i < 3) (by omega : 2 < 3))
      have hi3 : (i : Int) < 3 := by omega
      clear hb r0 HA
      go_wp2
      clear f0 f1 f2 d0 d1 d2
      go_roundw
      case rel => exact ⟨i + 1, by omega, by go_num, HN⟩
      case measure => simp [intOf]; omega
    · obtain rfl : i = p.n := by omega
      have HV := Lib.hid HA.out.var
      have HX := Lib.hid HA.out.box
      have HB := Lib.hid HA.out.gt.below
      clear HA
      generalize allP p.n p.m = F at *
      generalize wr = W0 at *
      have HSZ : Hid ((Try.prog.info? 82).map (·.size) = some (bs9 F).size) := Lib.hid (by show _ = some 9; kernel_rfl)
      have HS1 : Hid ((bs9 F).all (·.oneCell') = true) := Lib.hid (by simp [bs9, Value.oneCell'])
      go_wp2_with (first | (refine wpList_load_row rfl 82 _ rfl (w.heap.size + 1 + 1) rfl 82 (bs9 F) (0, 0) _ HV.out und_pairs rfl HSZ.out ?_) | (refine wpList_store_row rfl 82 _ _ rfl (w.heap.size + 1) (bs9 F) rfl rfl 82 _ HX.out HSZ.out rfl HS1.out ?_))
      have BB := Lib.hid (blk_row HX.out (bs9 F))
      have HBX := Lib.hid (below_row HB.out (g := w.heap.size + 1) (by omega) (bs9 F))
      clear HX HV HB
      generalize W0.setRow (w.heap.size + 1) (bs9 F) = W9 at *
      refine bodyPost_ret (v := .agg (bs9 F)) (results_cell_row (by rfl) _ _ (w.heap.size + 1) 82 (bs9 F) (0, 0) _ (by rfl) BB.out und_pairs rfl HSZ.out) rfl ?_
      exact ⟨rfl, HBX.out⟩

/-- The boxes of oneMoveOn. -/
structure OQ (p : GP) (w : World) (xs ys : List (List Int)) (F G : Nat → Nat → Bool) (W : World) : Prop where
  gt : GT p w W w.heap.size xs ys
  bF : Blk W (w.heap.size + 1) 82 (bs9 F)
  bR : Blk W (w.heap.size + 1 + 1) 82 #[.bool false, .bool false, .bool false, .bool false, .bool false, .bool false, .bool false, .bool false, .bool false]
  bG : Blk W (w.heap.size + 1 + 1 + 1) 82 (bs9 G)
theorem OQ.start {p w xs ys} (F : Nat → Nat → Bool) (h : GV p w xs ys) : OQ p w xs ys F (fun _ _ => false) ((((w.alloc (.cells #[.slice (some ⟨p.ba, p.oa, none⟩) p.n p.c, .slice (some ⟨p.bb, p.ob, none⟩) p.n p.d] 29)).alloc (.cells (bs9 F) 82)).alloc (.cells #[.bool false, .bool false, .bool false, .bool false, .bool false, .bool false, .bool false, .bool false, .bool false] 82)).alloc (.cells #[.bool false, .bool false, .bool false, .bool false, .bool false, .bool false, .bool false, .bool false, .bool false] 82)) := by
  have h1 := blk_new (w.alloc (.cells #[.slice (some ⟨p.ba, p.oa, none⟩) p.n p.c, .slice (some ⟨p.bb, p.ob, none⟩) p.n p.d] 29)) 82 (bs9 F)
  have h2 := blk_new ((w.alloc (.cells #[.slice (some ⟨p.ba, p.oa, none⟩) p.n p.c, .slice (some ⟨p.bb, p.ob, none⟩) p.n p.d] 29)).alloc (.cells (bs9 F) 82)) 82 #[.bool false, .bool false, .bool false, .bool false, .bool false, .bool false, .bool false, .bool false, .bool false]
  have h3 := blk_new (((w.alloc (.cells #[.slice (some ⟨p.ba, p.oa, none⟩) p.n p.c, .slice (some ⟨p.bb, p.ob, none⟩) p.n p.d] 29)).alloc (.cells (bs9 F) 82)).alloc (.cells #[.bool false, .bool false, .bool false, .bool false, .bool false, .bool false, .bool false, .bool false, .bool false] 82)) 82 #[.bool false, .bool false, .bool false, .bool false, .bool false, .bool false, .bool false, .bool false, .bool false]
  simp only [World.size_alloc] at h1 h2 h3
  exact ⟨(((GT.start h).up (below_alloc _ _)).up (below_alloc _ _)).up (below_alloc _ _), blk_old (blk_old h1 _) _, blk_old h2 _, h3⟩
theorem OQ.up {p w xs ys F G W W'} (h : OQ p w xs ys F G W) (b : Below W.heap.size W W') : OQ p w xs ys F G W' := ⟨h.gt.up b, blk_below h.bF b, blk_below h.bR b, blk_below h.bG b⟩
theorem OQ.put {p w xs ys F G W} (h : OQ p w xs ys F G W) {a b : Nat} (ha : a < 3) (hb : b < 3) : OQ p w xs ys F (putP G [(a : Int), (b : Int)]) (W.setCell ⟨w.heap.size + 1 + 1 + 1, a * 3 + b, none⟩ (.bool true)) := by
  refine ⟨h.gt.up2 (B := w.heap.size + 1) ((Below.refl _ _).setCell (p := ⟨w.heap.size + 1 + 1 + 1, a * 3 + b, none⟩) (by show w.heap.size + 1 ≤ w.heap.size + 1 + 1 + 1; omega) _) (by omega) (by omega),
    blk_other (p := ⟨w.heap.size + 1 + 1 + 1, a * 3 + b, none⟩) h.bF (by show w.heap.size + 1 ≠ w.heap.size + 1 + 1 + 1; omega) _, blk_other (p := ⟨w.heap.size + 1 + 1 + 1, a * 3 + b, none⟩) h.bR (by show w.heap.size + 1 + 1 ≠ w.heap.size + 1 + 1 + 1; omega) _, ?_⟩
  have := blk_set h.bG (a * 3 + b) (.bool true)
  rw [bs9_put _ ha hb] at this
  exact this
theorem OQ.lt {p w xs ys F G W} (h : OQ p w xs ys F G W) : w.heap.size + 1 + 1 + 1 < W.heap.size := blk_lt h.bG
set_option maxRecDepth 100000 in
set_option maxHeartbeats 6400000 in
theorem oneMoveOn_any (p : GP) (xs ys : List (List Int)) (F : Nat → Nat → Bool) (w : World) (v : VG xs ys) (hg : GV p w xs ys) (hx : IntRows w (some ⟨p.ba, p.oa, none⟩) p.n p.c xs) (hy : IntRows w (some ⟨p.bb, p.ob, none⟩) p.n p.d ys) :
    Calls Try.prog 65 #[.agg #[.slice (some ⟨p.ba, p.oa, none⟩) p.n p.c, .slice (some ⟨p.bb, p.ob, none⟩) p.n p.d], .agg (bs9 F)] w (Ret (.agg (bs9 (oneP xs ys F 3))) w) := by
  have HS := Lib.hid (OQ.start F hg)
  have HX := Lib.hid hx
  have HY := Lib.hid hy
  have HV := Lib.hid v
  have hn3 := hg.tx.n3
  have hm3 := hg.tx.m3
  have HMV : Hid (∀ i j : Nat, ∀ r ∈ repF xs ys i j, ∃ a b : Nat, r = [(a : Int), (b : Int)] ∧ a < 3 ∧ b < 3) := Lib.hid (fun i j r hr => by
    obtain ⟨hi, hj, h⟩ := repF_val v hr
    obtain ⟨a, b, e, ha, hb⟩ := repL_in hi hj (v.rowy hi) r h
    have := hg.lx
    have := hg.mx
    exact ⟨a, b, e, by omega, by omega⟩)
  have HML : Hid (∀ i j : Nat, (repF xs ys i j).length ≤ 10) := Lib.hid (fun i j => by
    unfold repF
    split
    · rename_i h
      rw [Bool.and_eq_true, Bool.and_eq_true, pb_iff, pb_iff, pb_iff] at h
      have h1 := repL_len xs ys xs.length (i : Int).toNat (j : Int).toNat
      have h2 := v.rowy (i := i) (by have := h.1.2.2; omega)
      have h3 := v.ta.n3
      have h4 := v.ta.m3
      rw [Int.toNat_natCast] at h1 ⊢
      omega
    · simp)
  clear hg hx hy v
  go_enter Try.func65, Try.ntmps65
  go_wp2
  generalize (((w.alloc (.cells #[.slice (some ⟨p.ba, p.oa, none⟩) p.n p.c, .slice (some ⟨p.bb, p.ob, none⟩) p.n p.d] 29)).alloc (.cells (bs9 F) 82)).alloc (.cells #[.bool false, .bool false, .bool false, .bool false, .bool false, .bool false, .bool false, .bool false, .bool false] 82)).alloc (.cells #[.bool false, .bool false, .bool false, .bool false, .bool false, .bool false, .bool false, .bool false, .bool false] 82) = W1 at *
  have HS0 : Hid (OQ p w xs ys F (oneP xs ys F 0) W1) := HS
  clear HS
  go_loopw [11] (fun i_ wr => ∃ i : Nat, i ≤ 3 ∧ i_ = .int .i64 i ∧ Hid (OQ p w xs ys F (oneP xs ys F i) wr)) (fun i_ _ => 3 - (intOf i_).toNat)
  case atStart => exact ⟨0, Nat.zero_le _, rfl, HS0⟩
  case round =>
    clear HS0
    obtain ⟨i, hi, rfl, HQ⟩ := hrel
    by_cases hlt : i < 3
    · have hi3 : (i : Int) < 3 := by omega
      have d0 := blk_cell HQ.out.bF (i := i * 3) (bs9_get F hlt (by omega : 0 < 3))
      have d1 := blk_cell HQ.out.bF (bs9_get F hlt (by omega : 1 < 3))
      have d2 := blk_cell HQ.out.bF (bs9_get F hlt (by omega : 2 < 3))
      have HM : Hid (∀ W, Calls Try.prog 92 #[.agg #[.bool (F i 0), .bool (F i 1), .bool (F i 2)]] W (NewI W (selL (F i) 3))) := Lib.hid (fun W => marked_any (F i) W)
      have HSEL := Lib.hid (selL_len (F i) 3)
      have HSM : Hid (∀ x ∈ selL (F i) 3, ∃ j : Nat, x = j ∧ j < 3) := Lib.hid (fun x hx => by obtain ⟨j, hj, _, rfl⟩ := selL_mem.1 hx; exact ⟨j, rfl, hj⟩)
      have HNX := Lib.hid (show oneP xs ys F (i + 1) = rowP xs ys i (oneP xs ys F i) (selL (F i) 3) from rfl)
      go_wp2_with fail
      refine (HM.out _).mono ?_
      rintro e w4 ⟨Al, nl, cl, gl, rfl, hnl, ho, hb⟩
      have HLO := Lib.hid HQ.out.lt
      have HQ4 : Hid (OQ p w xs ys F (rowP xs ys i (oneP xs ys F i) ((selL (F i) 3).take 0)) w4) := Lib.hid (HQ.out.up hb)
      have HOI := Lib.hid ho
      subst hnl
      clear ho hb d0 d1 d2 HM HQ
      generalize selL (F i) 3 = l at *
      generalize oneP xs ys F i = G0 at *
      have hl3 := HSEL.out
      generalize wr.heap.size = lo at *
      generalize w4.heap.size = hi4 at *
      go_wp2
      go_loopw [19] (fun q_ wr => ∃ q : Nat, q ≤ l.length ∧ q_ = .int .i64 q ∧ Hid (OQ p w xs ys F (rowP xs ys i G0 (l.take q)) wr) ∧ Hid (OwnI lo hi4 wr gl Al l.length cl l)) (fun q_ _ => l.length - (intOf q_).toNat)
      case atStart => exact ⟨0, Nat.zero_le _, rfl, HQ4, HOI⟩
      case round =>
        clear HQ4 HOI
        obtain ⟨q, hq, rfl, HQ, HOI⟩ := hrel
        by_cases hlq : q < l.length
        · obtain ⟨bl, ol, rfl, hc⟩ := HOI.out.ints.at_ (by omega)
          have c1 := hc q hlq
          obtain ⟨j, ej, hj⟩ := HSM.out _ (gi_mem hlq)
          have HFN := Lib.hid (show rowP xs ys i G0 (l.take (q + 1)) = putPs (rowP xs ys i G0 (l.take q)) (repF xs ys i j) by
            rw [rowP, fold_next _ _ l hlq, ← gi_get hlq, ej]; rfl)
          rw [ej] at c1
          have HK := Lib.hid (Keep.below HQ.out.gt.below)
          have HRM := Lib.hid (ReplyMoves_impl _ _ _ _ _ _ xs ys (i : Int) (j : Int) wr (HX.out.keep HK.out) (HY.out.keep HK.out) (by unfold Fit; omega) (by unfold Fit; omega))
          have k0 := HQ.out.gt.c0
          have k1 := HQ.out.gt.c1
          have hqi : (q : Int) < (l.length : Int) := by omega
          clear hc ej HK
          go_wp2_with fail
          refine HRM.out.mono ?_
          rintro e w6 ⟨Am, nm, cm, gm, rfl, hnm, ho, hb⟩
          have HL2 := Lib.hid (show w.heap.size + 1 + 1 + 1 < wr.heap.size from HQ.out.lt)
          have HQ6 : Hid (OQ p w xs ys F (putPs (rowP xs ys i G0 (l.take q)) ((repF xs ys i j).take 0)) w6) := Lib.hid (HQ.out.up hb)
          have HOI6 := Lib.hid (HOI.out.below hb)
          have HOR := Lib.hid ho
          have HMI := Lib.hid (HMV.out i j)
          have HMLn := Lib.hid (HML.out i j)
          subst hnm
          clear ho hb c1 k0 k1 HRM HQ HOI
          generalize repF xs ys i j = M at *
          generalize rowP xs ys i G0 (l.take q) = G1 at *
          have hm10 := HMLn.out
          generalize wr.heap.size = lo2 at *
          generalize w6.heap.size = hi6 at *
          go_wp2
          go_loopw [28] (fun r_ wr => ∃ r : Nat, r ≤ M.length ∧ r_ = .int .i64 r ∧ Hid (OQ p w xs ys F (putPs G1 (M.take r)) wr) ∧ Hid (OwnI lo hi4 wr gl (some ⟨bl, ol, none⟩) l.length cl l) ∧ Hid (OwnR lo2 hi6 wr gm Am M.length cm M)) (fun r_ _ => M.length - (intOf r_).toNat)
          case atStart => exact ⟨0, Nat.zero_le _, rfl, HQ6, HOI6, HOR⟩
          case round =>
            clear HQ6 HOI6 HOR
            obtain ⟨r, hr, rfl, HQ, HOI, HOR⟩ := hrel
            by_cases hlr : r < M.length
            · obtain ⟨bm, om, rfl, hc⟩ := HOR.out.rows.at_ (by omega)
              obtain ⟨R, cc, c2, hR⟩ := hc r hlr
              obtain ⟨a, b, er, ha, hb⟩ := HMI.out _ (gr_mem hlr)
              rw [er] at c2 hR
              obtain ⟨br, or_, rfl, hcr⟩ := hR.at_ (by simp)
              have c3 : wr.cell? ⟨br, or_, none⟩ = some (.int .i64 (a : Int)) := hcr 0 (by simp)
              have c4 : wr.cell? ⟨br, or_ + 1, none⟩ = some (.int .i64 (b : Int)) := hcr 1 (by simp)
              replace c2 : wr.cell? ⟨bm, om + r, none⟩ = some (.slice (some ⟨br, or_, none⟩) 2 cc) := c2
              have HFN2 := Lib.hid (show putPs G1 (M.take (r + 1)) = putP (putPs G1 (M.take r)) [(a : Int), (b : Int)] by
                rw [putPs, fold_next _ _ M hlr, ← gr_get hlr, er]; rfl)
              have d3 := blk_cell HQ.out.bG (bs9_get (putPs G1 (M.take r)) ha hb)
              have f3 := blk_frozen HQ.out.bG (a * 3 + b)
              have ha3 : (a : Int) < 3 := by omega
              have hb3 : (b : Int) < 3 := by omega
              have hri : (r : Int) < (M.length : Int) := by omega
              clear hc hR hcr er
              clear d3 f3
              go_wp2
              go_still_tail 8, (by kernel_rfl)
              have HQd : Hid (OQ p w xs ys F (putPs G1 (M.take r)) wr.drew) := Lib.hid (HQ.out.up (Quiet.below (B := wr.heap.size) ⟨1, rfl⟩))
              have HOId : Hid (OwnI lo hi4 wr.drew gl (some ⟨bl, ol, none⟩) l.length cl l) := Lib.hid (HOI.out.quiet ⟨1, rfl⟩)
              have HORd : Hid (OwnR lo2 hi6 wr.drew gm (some ⟨bm, om, none⟩) M.length cm M) := Lib.hid (HOR.out.quiet ⟨1, rfl⟩)
              clear HQ HOI HOR c2 c3 c4
              change wpList _ _ _ _ _ wr.drew
              generalize wr.drew = wd at *
              have d3 := blk_cell HQd.out.bG (bs9_get (putPs G1 (M.take r)) ha hb)
              have f3 := blk_frozen HQd.out.bG (a * 3 + b)
              have HQ8 := Lib.hid (HQd.out.put ha hb)
              rw [← HFN2.out] at HQ8
              have HOI8 : Hid (OwnI lo hi4 (wd.setCell ⟨w.heap.size + 1 + 1 + 1, a * 3 + b, none⟩ (.bool true)) gl (some ⟨bl, ol, none⟩) l.length cl l) := Lib.hid (HOId.out.of_block (fun hn => by
                obtain ⟨o, _, h1, _⟩ := HOId.out.own hn
                exact Below.heap_setCell _ _ _ _ (by show gl ≠ w.heap.size + 1 + 1 + 1; have := HLO.out; omega)))
              have HOR8 : Hid (OwnR lo2 hi6 (wd.setCell ⟨w.heap.size + 1 + 1 + 1, a * 3 + b, none⟩ (.bool true)) gm (some ⟨bm, om, none⟩) M.length cm M) := Lib.hid (HORd.out.of_blocks (fun g h1 _ _ =>
                Below.heap_setCell _ _ _ _ (by show g ≠ w.heap.size + 1 + 1 + 1; have := HL2.out; omega)))
              clear HQd HOId HORd
              go_wp2
              clear d3 f3
              go_roundw
              case rel => exact ⟨r + 1, by omega, by go_num, HQ8, HOI8, HOR8⟩
              case measure => simp [intOf]; omega
            · obtain rfl : r = M.length := by omega
              have HQ7 := Lib.hid (show OQ p w xs ys F (rowP xs ys i G0 (l.take (q + 1))) wr by rw [HFN.out]; have h := HQ.out; rw [List.take_length] at h; exact h)
              clear HQ HOR
              go_wp2
              go_roundw
              case rel => exact ⟨q + 1, by omega, by go_num, HQ7, HOI⟩
              case measure => simp [intOf]; omega
        · obtain rfl : q = l.length := by omega
          have HQ7 := Lib.hid (show OQ p w xs ys F (oneP xs ys F (i + 1)) wr by rw [HNX.out]; have h := HQ.out; rw [List.take_length] at h; exact h)
          clear HQ HOI
          go_wp2
          go_roundw
          case rel => exact ⟨i + 1, by omega, by go_num, HQ7⟩
          case measure => simp [intOf]; omega
    · obtain rfl : i = 3 := by omega
      have HV := Lib.hid HQ.out.bG
      have HX := Lib.hid HQ.out.bR
      have HB := Lib.hid HQ.out.gt.below
      clear HQ
      generalize oneP xs ys F 3 = F3 at *
      generalize wr = W0 at *
      have HSZ : Hid ((Try.prog.info? 82).map (·.size) = some (bs9 F3).size) := Lib.hid (by show _ = some 9; kernel_rfl)
      have HS1 : Hid ((bs9 F3).all (·.oneCell') = true) := Lib.hid (by simp [bs9, Value.oneCell'])
      go_wp2_with (first | (refine wpList_load_row rfl 82 _ rfl (w.heap.size + 1 + 1 + 1) rfl 82 (bs9 F3) (0, 0) _ HV.out und_pairs rfl HSZ.out ?_) | (refine wpList_store_row rfl 82 _ _ rfl (w.heap.size + 1 + 1) (bs9 F3) rfl rfl 82 _ HX.out HSZ.out rfl HS1.out ?_))
      have BB := Lib.hid (blk_row HX.out (bs9 F3))
      have HBX := Lib.hid (below_row HB.out (g := w.heap.size + 1 + 1) (by omega) (bs9 F3))
      clear HX HV HB
      generalize W0.setRow (w.heap.size + 1 + 1) (bs9 F3) = W9 at *
      refine bodyPost_ret (v := .agg (bs9 F3)) (results_cell_row (by rfl) _ _ (w.heap.size + 1 + 1) 82 (bs9 F3) (0, 0) _ (by rfl) BB.out und_pairs rfl HSZ.out) rfl ?_
      exact ⟨rfl, HBX.out⟩

end Go.Proofs.Ytbpjblefmammcaa

/- EndsAlways, by the program. -/
namespace Go.Proofs.Ytbpjblefmammcaa
open Go.RowKit

theorem info_marks : (Try.prog.info? 80).map (·.size) = some 3 := by kernel_rfl
theorem info_b1 : (Try.prog.info? 4).map (·.size) = some 1 := by kernel_rfl
theorem und_bool_ : Try.prog.underlying 4 = some .bool := by kernel_rfl
theorem run_isAgg_bno (w : World) : (isAgg 4).run Try.prog w = .ok false w := by
  unfold isAgg; rw [Sem.run_bind, run_underlying und_bool_ w]; rfl
theorem run_isAgg_marks (w : World) : (isAgg 80).run Try.prog w = .ok true w := by
  unfold isAgg; rw [Sem.run_bind, run_underlying und_marks w]; rfl
theorem run_part_marks (cs : Array Value) (k : Nat) (w : World) : (part 80 cs k).run Try.prog w = .ok (.agg (cs.extract k (k + 3))) w := by
  unfold part; rw [Sem.run_bind, run_isAgg_marks]; simp [run_sizeOf' info_marks]
theorem eqb3_run (d : Nat) (x0 x1 x2 y0 y1 y2 : Bool) (w : World) :
    (Op.equalIn (d + 2) 80 (.agg #[.bool x0, .bool x1, .bool x2]) (.agg #[.bool y0, .bool y1, .bool y2])).run Try.prog w = .ok (x0 == y0 && (x1 == y1 && x2 == y2)) w := by
  have u3 := und_bool_
  have a3 := run_isAgg_bno
  have z3 := run_sizeOf' info_b1
  rw [show d + 2 = (d + 1) + 1 from rfl, Op.equalIn]
  simp only [Sem.run_bind, run_underlying und_marks, Result.andThen_ok]
  simp only [Std.Legacy.Range.forIn_eq_forIn_range', Std.Legacy.Range.size, Nat.sub_zero, Nat.add_sub_cancel, Nat.div_one, List.range'_succ, List.range'_zero, List.forIn_cons, List.forIn_nil]
  go_simp
  cases x0 <;> cases x1 <;> cases x2 <;> cases y0 <;> cases y1 <;> cases y2 <;> simp
theorem eqb9_run (d : Nat) (f g : Nat → Nat → Bool) (w : World) :
    (Op.equalIn (d + 3) 82 (.agg (bs9 f)) (.agg (bs9 g))).run Try.prog w = .ok (pb (bs9 f = bs9 g)) w := by
  have hd : pb (bs9 f = bs9 g) = ((f 0 0 == g 0 0 && (f 0 1 == g 0 1 && f 0 2 == g 0 2)) && ((f 1 0 == g 1 0 && (f 1 1 == g 1 1 && f 1 2 == g 1 2)) && (f 2 0 == g 2 0 && (f 2 1 == g 2 1 && f 2 2 == g 2 2)))) := by
    rw [Bool.eq_iff_iff, pb_iff]
    simp [bs9, and_assoc]
  rw [hd]
  unfold bs9
  generalize f 0 0 = x0, f 0 1 = x1, f 0 2 = x2, f 1 0 = x3, f 1 1 = x4, f 1 2 = x5, f 2 0 = x6, f 2 1 = x7, f 2 2 = x8
  generalize g 0 0 = y0, g 0 1 = y1, g 0 2 = y2, g 1 0 = y3, g 1 1 = y4, g 1 2 = y5, g 2 0 = y6, g 2 1 = y7, g 2 2 = y8
  have p0 : ∀ w, (part 80 #[.bool x0, .bool x1, .bool x2, .bool x3, .bool x4, .bool x5, .bool x6, .bool x7, .bool x8] (0 * 3)).run Try.prog w = .ok (.agg #[.bool x0, .bool x1, .bool x2]) w := fun w => by rw [run_part_marks]; rfl
  have p1 : ∀ w, (part 80 #[.bool x0, .bool x1, .bool x2, .bool x3, .bool x4, .bool x5, .bool x6, .bool x7, .bool x8] ((0 + 1) * 3)).run Try.prog w = .ok (.agg #[.bool x3, .bool x4, .bool x5]) w := fun w => by rw [run_part_marks]; rfl
  have p2 : ∀ w, (part 80 #[.bool x0, .bool x1, .bool x2, .bool x3, .bool x4, .bool x5, .bool x6, .bool x7, .bool x8] ((0 + 1 + 1) * 3)).run Try.prog w = .ok (.agg #[.bool x6, .bool x7, .bool x8]) w := fun w => by rw [run_part_marks]; rfl
  have q0 : ∀ w, (part 80 #[.bool y0, .bool y1, .bool y2, .bool y3, .bool y4, .bool y5, .bool y6, .bool y7, .bool y8] (0 * 3)).run Try.prog w = .ok (.agg #[.bool y0, .bool y1, .bool y2]) w := fun w => by rw [run_part_marks]; rfl
  have q1 : ∀ w, (part 80 #[.bool y0, .bool y1, .bool y2, .bool y3, .bool y4, .bool y5, .bool y6, .bool y7, .bool y8] ((0 + 1) * 3)).run Try.prog w = .ok (.agg #[.bool y3, .bool y4, .bool y5]) w := fun w => by rw [run_part_marks]; rfl
  have q2 : ∀ w, (part 80 #[.bool y0, .bool y1, .bool y2, .bool y3, .bool y4, .bool y5, .bool y6, .bool y7, .bool y8] ((0 + 1 + 1) * 3)).run Try.prog w = .ok (.agg #[.bool y6, .bool y7, .bool y8]) w := fun w => by rw [run_part_marks]; rfl
  rw [show d + 3 = (d + 2) + 1 from rfl, Op.equalIn]
  simp only [Sem.run_bind, run_underlying und_pairs, Result.andThen_ok, run_sizeOf' info_marks]
  simp only [Std.Legacy.Range.forIn_eq_forIn_range', Std.Legacy.Range.size, Nat.sub_zero, Nat.add_sub_cancel, Nat.div_one, List.range'_succ, List.range'_zero, List.forIn_cons, List.forIn_nil, Sem.run_bind]
  rw [p0]
  simp only [Result.andThen_ok, q0, eqb3_run]
  by_cases h0 : (x0 == y0 && (x1 == y1 && x2 == y2)) = true
  · rw [h0]
    simp only [Bool.not_true, Bool.false_eq_true, if_false, Sem.run_pure, Result.andThen_ok, Sem.run_bind, p1, q1, eqb3_run]
    by_cases h1 : (x3 == y3 && (x4 == y4 && x5 == y5)) = true
    · rw [h1]
      simp only [Bool.not_true, Bool.false_eq_true, if_false, Sem.run_pure, Result.andThen_ok, Sem.run_bind, p2, q2, eqb3_run]
      by_cases h2 : (x6 == y6 && (x7 == y7 && x8 == y8)) = true
      · rw [h2]; simp
      · rw [Bool.not_eq_true] at h2; rw [h2]; simp
    · rw [Bool.not_eq_true] at h1; rw [h1]; simp
  · rw [Bool.not_eq_true] at h0; rw [h0]; simp
theorem eqb9_op (f : Nat → Nat → Bool) (w : World) : (Op.equalIn 10000 82 (.agg (bs9 f)) (.agg #[.bool false, .bool false, .bool false, .bool false, .bool false, .bool false, .bool false, .bool false, .bool false])).run Try.prog w = .ok (pb (bs9 f = bs9 fun _ _ => false)) w := eqb9_run 9997 f (fun _ _ => false) w
theorem ends_bs9 {xs ys : List (List Int)} (v : VG xs ys) : bs9 (mvS xs ys (xs.length * (gr xs 0).length)) = bs9 (fun _ _ => false) ↔ EnP xs ys := by
  rw [ends_moves v]
  constructor
  · intro h a b
    cases hab : mvS xs ys (xs.length * (gr xs 0).length) a b with
    | false => rfl
    | true =>
      have hp := mvS_in v hab
      have h3 := v.ta.n3
      have h4 := v.ta.m3
      have := bs9_inj h a b (by omega) (by omega)
      rw [hab] at this; exact this
  · intro h
    exact bs9_congr fun r c _ _ => h r c

/-- The pairs that are reached, in a box. -/
structure ER (p : GP) (w : World) (xs ys : List (List Int)) (h s : Nat) (W : World) : Prop where
  gt : GT p w W w.heap.size xs ys
  lt : w.heap.size < h
  box : Blk W h 82 (bs9 (mvS xs ys s))
theorem ER.up {p w xs ys h s W W'} (e : ER p w xs ys h s W) (k : Below W.heap.size W W') : ER p w xs ys h s W' := ⟨e.gt.up k, e.lt, blk_below e.box k⟩
theorem ER.put {p w xs ys h s W} (e : ER p w xs ys h s W) : ER p w xs ys h (s + 1) (W.setRow h (bs9 (oneP xs ys (mvS xs ys s) 3))) :=
  ⟨e.gt.up2 (B := w.heap.size + 1) (below_row (Below.refl _ _) (g := h) (by have := e.lt; omega) _) (by omega) (by omega), e.lt, blk_row e.box _⟩
set_option maxRecDepth 100000 in
set_option maxHeartbeats 3200000 in
theorem EndsAlways_impl (A B : Option Addr) (n c m d : Nat) (xs ys : List (List Int)) (w : World) (hx : IntRows w A n c xs) (hy : IntRows w B m d ys) :
    Calls Try.prog 36 #[.agg #[.slice A n c, .slice B m d]] w (Ret (.bool (pb (EnP xs ys))) w) := by
  have hb0 := below_alloc w (.cells #[.slice A n c, .slice B m d] 29)
  have b0 := blk_new w 29 #[.slice A n c, .slice B m d]
  have HB := Lib.hid hb0
  have HK := Lib.hid b0
  have HX := Lib.hid (hx.keep (Keep.below hb0))
  have HY := Lib.hid (hy.keep (Keep.below hb0))
  have HX0 := Lib.hid hx
  have HY0 := Lib.hid hy
  clear hx hy hb0 b0
  go_enter Try.func36, Try.ntmps36
  have z0 := blk_cell HK.out (i := 0) (v := .slice A n c) rfl
  have z1 := blk_cell HK.out (i := 1) (v := .slice B m d) rfl
  go_wp2_with fail
  generalize w.alloc (.cells #[.slice A n c, .slice B m d] 29) = W1 at *
  have HC := Lib.hid (ValidGame_impl _ _ _ _ _ _ _ _ _ HX.out HY.out)
  by_cases hv : VG xs ys
  · refine ((pb_true hv) ▸ HC.out).mono ?_
    rintro e w1 ⟨rfl, hb⟩
    have hb2 := below_up HB.out hb
    have hk2 := blk_below HK.out hb
    obtain ⟨p, rfl, rfl, rfl, rfl, rfl, rfl, hg⟩ := GV.of HX0.out HY0.out hv
    have HT := Lib.hid (show GT p w w1 w.heap.size xs ys from ⟨hb2, hk2, hg⟩)
    have hn3 := hg.tx.n3
    have hm3 := hg.tx.m3
    have hn1 := hg.tx.n1
    have hm1 := hg.tx.m1
    have hnm : p.n * p.m ≤ 9 := by have := Nat.mul_le_mul hn3 hm3; omega
    have HV := Lib.hid hv
    have hmul : IntKind.i64.wrap ((p.n : Int) * (p.m : Int)) = ((p.n * p.m : Nat) : Int) := by rw [wrap_in64 (by rw [← Int.natCast_mul]; omega), Int.natCast_mul]
    have HEND : Hid (pb (bs9 (mvS xs ys (p.n * p.m)) = bs9 fun _ _ => false) = pb (EnP xs ys)) := Lib.hid (pb_congr (by rw [← hg.lx, ← hg.mx]; exact ends_bs9 hv))
    have HAP := Lib.hid (allPairs_any p xs ys w1 HT.out.gv)
    have HA0 : Hid (allP p.n p.m = mvS xs ys 0) := Lib.hid (by rw [← hg.lx, ← hg.mx]; rfl)
    have HEQ := Lib.hid (fun s W => eqb9_op (mvS xs ys s) W)
    have hgd : Try.prog.eqGuardType Try.prog.depth 82 = false := by kernel_rfl
    rw [HA0.out] at HAP
    have HS9 : Hid (∀ f : Nat → Nat → Bool, (Try.prog.info? 82).map (·.size) = some (bs9 f).size) := Lib.hid (fun f => by show _ = some 9; kernel_rfl)
    have HO9 : Hid (∀ f : Nat → Nat → Bool, (bs9 f).all (·.oneCell') = true) := Lib.hid (fun f => by simp [bs9, Value.oneCell'])
    clear hb hb2 hk2 hg HX HY HB HK HC hv z0 z1 HA0
    have k0 := HT.out.c0
    have k1 := HT.out.c1
    generalize hN : p.n * p.m = N at *
    clear hN
    go_wp2_with fail
    refine HAP.out.mono ?_
    rintro e w2 ⟨rfl, hb⟩
    have HT := Lib.hid (HT.out.up hb)
    have HER : Hid (ER p w xs ys w2.heap.size 0 ((w2.alloc (.cells #[.bool false, .bool false, .bool false, .bool false, .bool false, .bool false, .bool false, .bool false, .bool false] 82)).setRow w2.heap.size (bs9 (mvS xs ys 0)))) := Lib.hid ⟨(HT.out.up (below_alloc _ _)).up2 (B := w.heap.size + 1) (below_row (Below.refl _ _) (g := w2.heap.size) (blk_lt HT.out.box) _) (by omega) (by omega), blk_lt HT.out.box, blk_row (blk_new _ _ _) _⟩
    clear hb HAP k0 k1
    go_wp2_with (first | (refine wpList_store_row rfl 82 _ _ rfl w2.heap.size (bs9 (mvS xs ys 0)) rfl rfl 82 (bs9 fun _ _ => false) (blk_new w2 82 (bs9 fun _ _ => false)) (HS9.out _) rfl (HO9.out _) ?_) | fail)
    generalize (w2.alloc (.cells #[.bool false, .bool false, .bool false, .bool false, .bool false, .bool false, .bool false, .bool false, .bool false] 82)).setRow w2.heap.size (bs9 (mvS xs ys 0)) = W3 at *
    generalize w2.heap.size = h at *
    have HERM := Lib.hid (fun m => HER.out.up (W' := W3.drewN m) (Quiet.below ⟨m, rfl⟩))
    have k0 := HER.out.gt.c0
    have r0 := HER.out.gt.gv.tx.row 0 hn1
    simp only [Nat.add_zero] at r0
    have hn0 : 0 < p.n := by omega
    have hn0' : (0 : Int) < (p.n : Int) := by omega
    go_wp2
    go_quiet (fail)
    clear k0 r0 HER HT
    go_wp2
    go_loopw [18] (fun k_ wr => ∃ k : Nat, k ≤ N ∧ k_ = .int .i64 k ∧ Hid (ER p w xs ys h k wr)) (fun k_ _ => N - (intOf k_).toNat)
    case atStart => exact ⟨0, Nat.zero_le _, rfl, Lib.hid (HERM.out _)⟩
    case round =>
      clear HERM
      obtain ⟨k, hk, rfl, HE⟩ := hrel
      by_cases hlt : k < N
      · have k0 := HE.out.gt.c0
        have k1 := HE.out.gt.c1
        have HKP := Lib.hid (Keep.below HE.out.gt.below)
        have HMO := Lib.hid (oneMoveOn_any p xs ys (mvS xs ys k) wr HV.out HE.out.gt.gv (HX0.out.keep HKP.out) (HY0.out.keep HKP.out))
        have hki : (k : Int) < (N : Int) := by omega
        clear HKP
        go_wp2_with (first | (refine wpList_load_row rfl 82 _ rfl h rfl 82 (bs9 (mvS xs ys k)) (0, 0) _ HE.out.box und_pairs rfl (HS9.out _) ?_) | fail)
        refine HMO.out.mono ?_
        rintro e w5 ⟨rfl, hb⟩
        have HE5 := Lib.hid (HE.out.up hb)
        have HE6 := Lib.hid HE5.out.put
        clear hb HMO HE k0 k1
        go_wp2_with (first | (refine wpList_store_row rfl 82 _ _ rfl h (bs9 (oneP xs ys (mvS xs ys k) 3)) rfl rfl 82 _ HE5.out.box (HS9.out _) rfl (HO9.out _) ?_) | fail)
        clear HE5
        go_roundw
        case rel => exact ⟨k + 1, by omega, by go_num, HE6⟩
        case measure => simp [intOf]; omega
      · obtain rfl : k = N := by omega
        have HB := Lib.hid HE.out.gt.below
        have heq := HEQ.out k
        rw [HEND.out] at heq
        have HBX := Lib.hid HE.out.box
        clear HE HEND HEQ
        generalize mvS xs ys k = F at *
        generalize pb (EnP xs ys) = b at *
        go_wp2_with (first | (refine wpList_load_row rfl 82 _ rfl h rfl 82 (bs9 F) (0, 0) _ HBX.out und_pairs rfl (HS9.out _) ?_) | fail)
        go_ret
        exact ⟨rfl, HB.out⟩
  · have HNO := Lib.hid (pb_false (p := EnP xs ys) (fun k => hv k.v))
    refine ((pb_false hv) ▸ HC.out).mono ?_
    rintro e w1 ⟨rfl, hb⟩
    have hb2 := Lib.hid (below_up HB.out hb)
    clear hb HC HX HY HX0 HY0 HB HK z0 z1 hv
    go_wp2
    go_ret
    exact ⟨ret_bool HNO.out.symm, hb2.out⟩

end Go.Proofs.Ytbpjblefmammcaa

/- Pure rests, by the model. -/
namespace Go.Proofs.Ytbpjblefmammcaa
open Go.RowKit

theorem Try.info32_ : (Try.prog.info? 26).map (fun i => (i.zero, i.size, i.bytes)) = some (some (.slice none 0 0), 1, 24) := by kernel_rfl
end Go.Proofs.Ytbpjblefmammcaa

