/- Texts merged: CO LO4 LO5 LO6 LO7 LO8 D4 IB C92 G3 G4 G5 G6 Math60 C9V D2 C93 K7 Y3 Asc Y5. -/
import Derived.Test.YtjkmgpiiamffgaaQ13
import Derived.Laws.Tables
import Derived.Laws.Rows
/- A table as an array, by the program. -/
namespace Go.Proofs.Ytjkmgpiiamffgaa
open Go.RowKit

theorem blk_row {w g t cs} (h : Blk w g t cs) (c : Array Value) : Blk (w.setRow g c) g t c := setRow_heap w g cs c t (0, 0) h
theorem row_other (w : World) (g k : Nat) (c : Array Value) (h : k ≠ g) : (w.setRow g c).heap[k]? = w.heap[k]? := by
  simp only [World.setRow, Array.getElem?_modify, if_neg (Ne.symm h)]
theorem blk_row_other {w g k t cs} (h : Blk w k t cs) (c : Array Value) (hne : k ≠ g) : Blk (w.setRow g c) k t cs := (row_other w g k c hne).trans h
theorem below_row {B : Nat} {a w : World} (h : Below B a w) {g : Nat} (hg : B ≤ g) (c : Array Value) : Below B a (w.setRow g c) :=
  ⟨h.os, h.tape, h.output, by simpa [World.setRow] using h.size, fun k hk => (row_other w g k c (by omega)).trans (h.block k hk)⟩

end Go.Proofs.Ytjkmgpiiamffgaa

/- What is left over, by the program: rows compared at marks, beaten rows. -/
namespace Go.Proofs.Ytjkmgpiiamffgaa
open Go.RowKit

def cs3 (x : Nat → Int) : Array Value := #[.int .i64 (x 0), .int .i64 (x 1), .int .i64 (x 2)]
def bs3 (h : Nat → Bool) : Array Value := #[.bool (h 0), .bool (h 1), .bool (h 2)]
theorem cs3_get (x : Nat → Int) {k : Nat} (h : k < 3) : (cs3 x)[k]? = some (.int .i64 (x k)) := by
  have : k = 0 ∨ k = 1 ∨ k = 2 := by omega
  rcases this with rfl | rfl | rfl <;> rfl
theorem bs3_get (x : Nat → Bool) {k : Nat} (h : k < 3) : (bs3 x)[k]? = some (.bool (x k)) := by
  have : k = 0 ∨ k = 1 ∨ k = 2 := by omega
  rcases this with rfl | rfl | rfl <;> rfl
/-- Less at all marks. -/
def LA (x y : Nat → Int) (h : Nat → Bool) (l : Nat) : Prop := ∀ j, j < l → h j = true → x j < y j

end Go.Proofs.Ytjkmgpiiamffgaa

/- What is left over, by the program: is a row beaten. -/
namespace Go.Proofs.Ytjkmgpiiamffgaa
open Go.RowKit

/-- One of the first l own rows that are marked is more than row i at all marks of the other. -/
def BM (f : Nat → Nat → Int) (own h : Nat → Bool) (i l : Nat) : Prop := ∃ k, k < l ∧ own k = true ∧ LA (f i) (f k) h 3

end Go.Proofs.Ytjkmgpiiamffgaa

/- What is left over, by the program: who stays. -/
namespace Go.Proofs.Ytjkmgpiiamffgaa
open Go.RowKit

noncomputable def stM (f : Nat → Nat → Int) (own h : Nat → Bool) : Nat → Bool := fun i => own i && !pb (BM f own h i 3)
/-- The first k of them. -/
def partB (s : Nat → Bool) (k : Nat) : Nat → Bool := fun j => if j < k then s j else false
theorem partB_zero (s : Nat → Bool) : bs3 (partB s 0) = #[.bool false, .bool false, .bool false] := by simp [bs3, partB]
theorem partB_set (s : Nat → Bool) {k : Nat} (h : k < 3) : (bs3 (partB s k)).setIfInBounds k (.bool (s k)) = bs3 (partB s (k + 1)) := by
  have : k = 0 ∨ k = 1 ∨ k = 2 := by omega
  rcases this with rfl | rfl | rfl <;> simp [bs3, partB]
theorem partB_all (s : Nat → Bool) : bs3 (partB s 3) = bs3 s := by simp [bs3, partB]
end Go.Proofs.Ytjkmgpiiamffgaa

/- What is left over, by the program: all marks, and the marked. -/
namespace Go.Proofs.Ytjkmgpiiamffgaa
open Go.RowKit

end Go.Proofs.Ytjkmgpiiamffgaa

/- What is left over, by the program: the marked. -/
namespace Go.Proofs.Ytjkmgpiiamffgaa
open Go.RowKit

theorem selL_yes {f : Nat → Bool} {k : Nat} (h : f k = true) : selL f (k + 1) = selL f k ++ [(k : Int)] := by simp [selL, List.range_succ, List.filter_append, h]
theorem selL_no {f : Nat → Bool} {k : Nat} (h : f k = false) : selL f (k + 1) = selL f k := by simp [selL, List.range_succ, List.filter_append, h]
theorem selL_small (f : Nat → Bool) (n : Nat) (hn : n ≤ 100) : ∀ y ∈ selL f n, -1000000000000000 ≤ y ∧ y ≤ 1000000000000000 := fun y hy => by
  obtain ⟨k, hk, _, rfl⟩ := selL_mem.1 hy
  omega

end Go.Proofs.Ytjkmgpiiamffgaa

/- Pure rests, by the program. -/
namespace Go.Proofs.Ytjkmgpiiamffgaa
open Go.RowKit

theorem Try.info32b : (Try.prog.info? 30).map (fun i => (i.zero, i.size, i.bytes)) = some (some (.slice none 0 0), 1, 24) := by kernel_rfl

/-- What the loops know: the game, the turned table, the rests so far. -/
structure PS (p : GP) (w : World) (N L : Nat) (wr : World) (v : Value) (vs : List Value) (xs ys rs : List (List Int)) : Prop where
  gt : GT p w wr w.heap.size xs ys
  tn : OwnR N L wr N (some ⟨N, 0, none⟩) p.m p.m (flip xs p.n p.m)
  bd : Bld L wr.heap.size wr v vs rs
  h1 : w.heap.size < N
  h2 : N < L
  h3 : L ≤ wr.heap.size
theorem PS.qu {p w N L wr wr' v vs xs ys rs} (h : PS p w N L wr v vs xs ys rs) (k : Quiet wr wr') : PS p w N L wr' v vs xs ys rs := by
  have kb : Below wr.heap.size wr wr' := k.below
  exact ⟨h.gt.up kb, h.tn.below kb, (h.bd.below kb).mono kb.size, h.h1, h.h2, Nat.le_trans h.h3 kb.size⟩

set_option maxHeartbeats 1000000 in
theorem PureRests_impl (A B : Option Addr) (n c m d : Nat) (xs ys : List (List Int)) (w : World) (hx : IntRows w A n c xs) (hy : IntRows w B m d ys) :
    Calls Try.prog 46 #[.agg #[.slice A n c, .slice B m d]] w (RetR (pureR xs ys) w) := by
  have hb0 := below_alloc w (.cells #[.slice A n c, .slice B m d] 54)
  have b0 := blk_new w 54 #[.slice A n c, .slice B m d]
  have HB := Lib.hid hb0
  have HK := Lib.hid b0
  have HX := Lib.hid (hx.keep (Keep.below hb0))
  have HY := Lib.hid (hy.keep (Keep.below hb0))
  have HX0 := Lib.hid hx
  have HY0 := Lib.hid hy
  clear hx hy hb0 b0
  go_enter Try.func46, Try.ntmps46
  go_wp2_with fail
  generalize w.alloc (.cells #[.slice A n c, .slice B m d] 54) = W1 at *
  have HC := Lib.hid (ValidGame_impl _ _ _ _ _ _ _ _ _ HX.out HY.out)
  by_cases hv : VG xs ys
  · refine ((pb_true hv) ▸ HC.out).mono ?_
    rintro e w1 ⟨rfl, hb⟩
    have hb2 := below_up HB.out hb
    have hk2 := blk_below HK.out hb
    obtain ⟨p, rfl, rfl, rfl, rfl, rfl, rfl, hg⟩ := GV.of HX0.out HY0.out hv
    have HT := Lib.hid (show GT p w w1 w.heap.size xs ys from ⟨hb2, hk2, hg⟩)
    have hn3 := hg.tx.n3
    have hm3 := hg.tx.m3
    have hn1 := hg.tx.n1
    have hm1 := hg.tx.m1
    have HP := Lib.hid (show pureR xs ys = allRests xs ys p.n p.m p.n by rw [pureR, if_pos (pb_true hv), hg.lx, hg.mx])
    have HLY := Lib.hid (show ∀ i, i < p.n → (gr ys i).length = p.m from fun i hi => (hg.ty.ints i hi).len)
    clear hb hv hb2 hk2 hg HX HY HX0 HY0 HB HK HC
    have k0 := HT.out.c0
    go_wp2_with fail
    refine (turned_any _ _ _ _ _ _ _ _ _ _ HT.out.gv.tx).mono ?_
    rintro e w2 ⟨rfl, ho, hb, hlt⟩
    have HS := Lib.hid (show PS p w w1.heap.size w2.heap.size w2 (.slice none 0 0) [] xs ys [] from ⟨HT.out.up hb, ho, Bld.nil _ _ _, blk_lt HT.out.box, hlt, Nat.le_refl _⟩)
    clear ho hb hlt HT k0
    generalize w1.heap.size = N at *
    generalize w2.heap.size = L at *
    have k1 := HS.out.gt.c1
    go_wp2
    clear k1
    go_loopw [4, 18] (fun v s wr => ∃ (i : Nat) (vs : List Value), i ≤ p.n ∧ s = .int .i64 i ∧ Hid (PS p w N L wr v vs xs ys (allRests xs ys p.n p.m i))) (fun _ s _ => p.n - (intOf s).toNat)
    case atStart => exact ⟨0, [], Nat.zero_le _, rfl, HS⟩
    case round =>
      clear HS
      obtain ⟨i, vs, hi, rfl, HS⟩ := hrel
      by_cases hin : i < p.n
      · have s1 := HS.out.gt.gv.ty.row i hin
        go_wp2
        clear s1
        go_loopw [4, 25] (fun v s wj => ∃ (j : Nat) (vs : List Value), j ≤ p.m ∧ s = .int .i64 j ∧ Hid (PS p w N L wj v vs xs ys (allRests xs ys p.n p.m i ++ rowRests xs ys p.n p.m i j))) (fun _ s _ => p.m - (intOf s).toNat)
        case atStart => exact ⟨0, vs, Nat.zero_le _, rfl, Lib.hid (by rw [rowRests, List.append_nil]; exact HS.out)⟩
        case round =>
          clear HS vs
          obtain ⟨j, vs, hj, rfl, HS⟩ := hrel
          by_cases hjm : j < p.m
          · have k0 := HS.out.gt.c0
            have r1 := HS.out.gt.gv.tx.row i hin
            have e1 := HS.out.gt.gv.tx.cell i j hin hjm
            have f1 := HS.out.gt.gv.ty.cell i j hin hjm
            obtain ⟨R, cc, t1, tI⟩ := HS.out.tn.row0 hjm
            have hfl : (gr (flip xs p.n p.m) j).length = p.n := by rw [gr_flip hjm]; simp
            have HQX := Lib.hid tI
            have HQY := Lib.hid (HS.out.gt.gv.ty.ints i hin)
            clear tI
            generalize hcol : gr (flip xs p.n p.m) j = col at *
            have HCOL := Lib.hid hcol
            clear hcol
            have QX := Lib.hid (fun W (hW : Quiet wr W) => Max_any _ _ _ _ W (HQX.out.keep (Keep.quiet hW)) (by omega))
            have QY := Lib.hid (fun W (hW : Quiet wr W) => Max_any _ _ _ _ W (HQY.out.keep (Keep.quiet hW)) (by omega))
            clear HQX HQY hfl
            by_cases h1 : g2 xs i j = mxl col
            · have h1' : (g2 xs i j == mxl col) = true := by simp [h1]
              by_cases h2 : g2 ys i j = mxl (gr ys i)
              · have h2' : (g2 ys i j == mxl (gr ys i)) = true := by simp [h2]
                have HR := Lib.hid (rowRests_yes ((RestAt_iff hin hjm (HLY.out i hin)).2 ⟨by rw [HCOL.out]; exact h1, h2⟩))
                clear h1 h2
                go_wp2
                go_quiet ((go_at_call 87; (first | (with_reducible refine quiet_fit (QX.out _ ?_) (fun m => ?_)) | (with_reducible refine quiet_fit (QY.out _ ?_) (fun m => ?_))); (first | exact ⟨_, rfl⟩ | exact Quiet.two _ _ _); (first | exact drewN_to1 _ _ _ | exact drewN_to2 _ _ _ _)))
                have HS2 := Lib.hid (HS.out.qu ⟨nq, rfl⟩)
                have hlen : (allRests xs ys p.n p.m i ++ rowRests xs ys p.n p.m i j).length ≤ 12 := by
                  have h1 := allRests_len xs ys p.n p.m hm3 i
                  have h2 := rowRests_len xs ys p.n p.m i j
                  rw [List.length_append]; omega
                clear QX QY h1' h2' HS k0 r1 e1 f1 t1
                generalize wr.drewN nq = w2 at *
                have hb3 := below_alloc w2 (.cells #[.int .i64 i, .int .i64 j] 3)
                have hb4 := below_alloc (w2.alloc (.cells #[.int .i64 i, .int .i64 j] 3)) (.cells #[.slice (some ⟨w2.heap.size, 0, none⟩) 2 2] 30)
                have HB4 := Lib.hid ((HS2.out.bd.below hb3).below hb4).own
                have HN := Lib.hid (cell_one_new (w2.alloc (.cells #[.int .i64 i, .int .i64 j] 3)) (.slice (some ⟨w2.heap.size, 0, none⟩) 2 2) 30)
                have hL := HS2.out.h3
                clear hb3 hb4
                generalize hrs : allRests xs ys p.n p.m i ++ rowRests xs ys p.n p.m i j = rs at *
                have HRS := Lib.hid hrs
                clear hrs
                obtain ⟨i0, hi0, hz0, hz1, hz2⟩ := info_parts Try.info32b
                go_wp2_with (at_builtin; refine wpList_append_own_at _ rfl _ _ 23 rfl L 30 i0 (.slice none 0 0) 1 24 Try.underlying23 hi0 hz0 hz1 hz2 rfl (by decide) _ rs.length vs rfl HB4.out ⟨w2.heap.size + 1, 0, none⟩ 1 1 [.slice (some ⟨w2.heap.size, 0, none⟩) 2 2] rfl rfl ?c1 ?c2 ?c3 ?c4 ?c5 ?_)
                case c1 => have h := HN.out; rw [World.size_alloc] at h; exact h
                case c2 => intro u hu; simp at hu; subst hu; rfl
                case c3 => unfold maxLen; omega
                case c4 => omega
                case c5 => simp; omega
                intro v' w5 hown' hgrow _ hat
                obtain ⟨hP, hK⟩ := push_pair HS2.out.bd (by omega) (by omega) hown' hgrow hat hL
                have HS5 := Lib.hid (show PS p w N L w5 v' _ xs ys _ from ⟨HS2.out.gt.up2 hK (by have := HS2.out.h1; have := HS2.out.h2; omega) (by have := HS2.out.h1; have := HS2.out.h2; omega), HS2.out.tn.of_blocks (fun g _ hg _ => hK.block g hg), hP, HS2.out.h1, HS2.out.h2, Nat.le_trans hL hK.size⟩)
                clear HB4 HN hown' hgrow hat hP hK HS2
                go_wp2
                go_roundw
                case rel => exact ⟨j + 1, _, by omega, by go_num, Lib.hid (by rw [HR.out, ← List.append_assoc, HRS.out]; exact HS5.out)⟩
                case measure => simp [intOf]; omega
              · have h2' : (g2 ys i j == mxl (gr ys i)) = false := by simp [h2]
                have HR := Lib.hid (rowRests_no (a := xs) (fun v => h2 ((RestAt_iff hin hjm (HLY.out i hin)).1 v).2))
                clear h1 h2
                go_wp2
                go_quiet ((go_at_call 87; (first | (with_reducible refine quiet_fit (QX.out _ ?_) (fun m => ?_)) | (with_reducible refine quiet_fit (QY.out _ ?_) (fun m => ?_))); (first | exact ⟨_, rfl⟩ | exact Quiet.two _ _ _); (first | exact drewN_to1 _ _ _ | exact drewN_to2 _ _ _ _)))
                have HS2 := Lib.hid (HS.out.qu ⟨nq, rfl⟩)
                go_wp2
                go_roundw
                case rel => exact ⟨j + 1, vs, by omega, by go_num, Lib.hid (by rw [HR.out]; exact HS2.out)⟩
                case measure => simp [intOf]; omega
            · have h1' : (g2 xs i j == mxl col) = false := by simp [h1]
              have HR := Lib.hid (rowRests_no (fun v => h1 (by have := ((RestAt_iff hin hjm (HLY.out i hin)).1 v).1; rw [HCOL.out] at this; exact this)))
              clear h1
              go_wp2
              go_quiet ((go_at_call 87; (first | (with_reducible refine quiet_fit (QX.out _ ?_) (fun m => ?_)) | (with_reducible refine quiet_fit (QY.out _ ?_) (fun m => ?_))); (first | exact ⟨_, rfl⟩ | exact Quiet.two _ _ _); (first | exact drewN_to1 _ _ _ | exact drewN_to2 _ _ _ _)))
              have HS2 := Lib.hid (HS.out.qu ⟨nq, rfl⟩)
              go_wp2
              go_roundw
              case rel => exact ⟨j + 1, vs, by omega, by go_num, Lib.hid (by rw [HR.out]; exact HS2.out)⟩
              case measure => simp [intOf]; omega
          · go_wp2
            go_roundw
            case rel => exact ⟨i + 1, vs, by omega, by go_num, Lib.hid (by have h := HS.out; rw [show j = p.m by omega] at h; rw [allRests]; exact h)⟩
            case measure => simp [intOf]; omega
      · go_wp2
        go_ret
        obtain ⟨A, n, c, g, rfl, hn, ho⟩ := HS.out.bd.owns (by have := allRests_len xs ys p.n p.m hm3 i; omega)
        have e : pureR xs ys = allRests xs ys p.n p.m i := by rw [HP.out, show i = p.n by omega]
        exact ⟨A, n, c, g, rfl, by rw [e]; exact hn, by rw [e]; exact ho.mono (by have := HS.out.h1; have := HS.out.h2; omega) (Nat.le_refl _), HS.out.gt.below⟩
  · have HZ := Lib.hid (show pureR xs ys = [] by rw [pureR, if_neg (by rw [pb_false hv]; decide)])
    refine ((pb_false hv) ▸ HC.out).mono ?_
    rintro e w1 ⟨rfl, hb⟩
    have HB2 := Lib.hid (below_up HB.out hb)
    clear hb hv HC
    go_wp2
    go_ret
    exact ⟨none, 0, 0, 0, rfl, by rw [HZ.out]; rfl, by rw [HZ.out]; exact OwnR.nil _ _ _ _, HB2.out⟩
end Go.Proofs.Ytjkmgpiiamffgaa

/- A number below another one, by the program. -/
namespace Go.Proofs.Ytjkmgpiiamffgaa
open Go.RowKit

def Blw (n x : Int) : Prop := 0 ≤ x ∧ x < n
theorem isBelow_any (n x : Int) (w : World) : Calls Try.prog 82 #[.int .i64 n, .int .i64 x] w fun e w' => e = .returned (.bool (pb (Blw n x))) ∧ w = w' := by
  by_cases h1 : 0 ≤ x
  · by_cases h2 : x < n
    · have h := Lib.hid (pb_true (p := Blw n x) ⟨h1, h2⟩)
      have h2' : decide (x < n) = true := by simpa using h2
      go_enter Try.func82, Try.ntmps82
      go_wp2
      go_ret
      exact ⟨ret_bool (by rw [h.out]), rfl⟩
    · have h := Lib.hid (pb_false (p := Blw n x) (fun h => h2 h.2))
      have h2' : decide (x < n) = false := by simpa using h2
      go_enter Try.func82, Try.ntmps82
      go_wp2
      go_ret
      exact ⟨ret_bool (by rw [h.out]), rfl⟩
  · have h := Lib.hid (pb_false (p := Blw n x) (fun h => h1 h.1))
    go_enter Try.func82, Try.ntmps82
    go_wp2
    go_ret
    exact ⟨ret_bool (by rw [h.out]), rfl⟩
end Go.Proofs.Ytjkmgpiiamffgaa

/- Best replies, by the program. -/
namespace Go.Proofs.Ytjkmgpiiamffgaa
open Go.RowKit

theorem Try.info_row9 : (Try.prog.info? 30).map (fun i => (i.zero, i.size, i.bytes)) = some (some (.slice none 0 0), 1, 24) := by kernel_rfl
/-- Where a number stands. -/
def atB (x : Int) (xs : List Int) : Nat → Bool := fun k => decide (gi xs k = x)
/-- The best replies, when one plays an act now. -/
def brF (pays : List Int) (now : Nat) : List Int := if gi pays now = mxl pays then [] else selL (atB (mxl pays) pays) pays.length
theorem brF_len (pays : List Int) (now : Nat) : (brF pays now).length ≤ pays.length := by
  unfold brF; split
  · simp
  · exact selL_len _ _
theorem brF_mem {pays : List Int} {now : Nat} {y : Int} : y ∈ brF pays now ↔ gi pays now ≠ mxl pays ∧ ∃ k : Nat, k < pays.length ∧ gi pays k = mxl pays ∧ y = k := by
  unfold brF; split
  · rename_i h; simp [h]
  · rename_i h; rw [selL_mem]; simp [atB, h]
def colOf (xs : List (List Int)) (n j : Nat) : List Int := (List.range n).map fun i => g2 xs i j
theorem colOf_len (xs : List (List Int)) (n j : Nat) : (colOf xs n j).length = n := by simp [colOf]
theorem gi_colOf {xs : List (List Int)} {n i j : Nat} (h : i < n) : gi (colOf xs n j) i = g2 xs i j := gi_col h
theorem flip_colOf {xs : List (List Int)} {n m j : Nat} (h : j < m) : gr (flip xs n m) j = colOf xs n j := gr_flip h
def mvA (j : Nat) (l : List Int) : List (List Int) := l.map fun r => [r, (j : Int)]
def mvB (i : Nat) (l : List Int) : List (List Int) := l.map fun c => [(i : Int), c]
theorem mvA_len (j : Nat) (l : List Int) : (mvA j l).length = l.length := by simp [mvA]
theorem mvB_len (j : Nat) (l : List Int) : (mvB j l).length = l.length := by simp [mvB]
theorem mvA_step (j : Nat) {l : List Int} {k : Nat} (h : k < l.length) : mvA j (l.take (k + 1)) = mvA j (l.take k) ++ [[gi l k, (j : Int)]] := by
  rw [mvA, mvA, List.take_add_one, List.map_append, List.getElem?_eq_getElem h, gi_get h]; rfl
theorem mvB_step (j : Nat) {l : List Int} {k : Nat} (h : k < l.length) : mvB j (l.take (k + 1)) = mvB j (l.take k) ++ [[(j : Int), gi l k]] := by
  rw [mvB, mvB, List.take_add_one, List.map_append, List.getElem?_eq_getElem h, gi_get h]; rfl
/-- The pairs to which a pair leads. -/
def repL (xs ys : List (List Int)) (n i j : Nat) : List (List Int) := mvA j (brF (colOf xs n j) i) ++ mvB i (brF (gr ys i) j)
noncomputable def repF (xs ys : List (List Int)) (i j : Int) : List (List Int) := if (pb (VG xs ys) && pb (Blw xs.length i) && pb (Blw (gr xs 0).length j)) = true then repL xs ys xs.length i.toNat j.toNat else []

set_option maxRecDepth 100000 in
set_option maxHeartbeats 3200000 in
theorem indexesOf_any (x : Int) (A : Option Addr) (n c : Nat) (xs : List Int) (w : World) (hx : Ints w A n c xs) (hn : n ≤ 100) :
    Calls Try.prog 105 #[.int .i64 x, .slice A n c] w (NewI w (selL (atB x xs) n)) := by
  have HX := Lib.hid hx
  clear hx
  have HS0 := Lib.hid (IU.nil w)
  go_enter Try.func105, Try.ntmps105
  go_wp2
  go_loopw [5, 10] (fun v i wr => ∃ k : Nat, k ≤ n ∧ i = .int .i64 k ∧ Hid (IU w v (selL (atB x xs) k) wr)) (fun _ i _ => n - (intOf i).toNat)
  case atStart => exact ⟨0, by omega, rfl, HS0⟩
  case round =>
    clear HS0
    obtain ⟨k, hk, rfl, HI⟩ := hrel
    obtain ⟨Av, cv, rfl⟩ := HI.out.bi.form
    by_cases hlt : k < n
    · obtain ⟨b, o, rfl, hc⟩ := (HX.out.keep (Keep.below HI.out.up)).at_ (by omega)
      have c1 := hc k hlt
      clear hc
      by_cases hm : gi xs k = x
      · have hm' : (gi xs k == x) = true := by simp [hm]
        have HCS := Lib.hid (selL_yes (f := atB x xs) (k := k) (by simp [atB, hm]))
        clear hm
        have HML := Lib.hid (selL_len (atB x xs) k)
        have hb := below_alloc wr (.cells #[iv (k : Int)] 3)
        have HB4 := Lib.hid (HI.out.bi.below hb).own
        have HN := Lib.hid (cell_one_new wr (iv (k : Int)) 3)
        have hwz := HI.out.up.size
        clear hb
        generalize selL (atB x xs) k = ys at *
        obtain ⟨i0, hi0, hz0, hz1, hz2⟩ := info_parts Try.info_int
        go_wp2_with (at_builtin; refine wpList_append_own_at _ rfl _ _ 30 rfl w.heap.size 3 i0 (.int .i64 0) 1 8 Try.underlying30 hi0 hz0 hz1 hz2 rfl (by decide) _ ys.length (ys.map iv) rfl HB4.out ⟨wr.heap.size, 0, none⟩ 1 1 [iv (k : Int)] rfl rfl ?c1 ?c2 ?c3 ?c4 ?c5 ?_)
        case c1 => exact HN.out
        case c2 => intro u hu; simp at hu; subst hu; rfl
        case c3 => have := HML.out; unfold maxLen; omega
        case c4 => have := HML.out; omega
        case c5 => simp; omega
        intro v' w5 hown' hgrow _ hat
        have HI5 := Lib.hid (HI.out.push hown' hgrow (by simpa using hat))
        clear HB4 HN hown' hgrow hat HI c1
        go_wp2
        go_roundw
        case rel => exact ⟨k + 1, by omega, by go_num, Lib.hid (by rw [HCS.out]; exact HI5.out)⟩
        case measure => simp [intOf]; omega
      · have hm' : (gi xs k == x) = false := by simp [hm]
        have HCS := Lib.hid (selL_no (f := atB x xs) (k := k) (by simp [atB, hm]))
        clear hm
        go_wp2
        go_roundw
        case rel => exact ⟨k + 1, by omega, by go_num, Lib.hid (by rw [HCS.out]; exact HI.out)⟩
        case measure => simp [intOf]; omega
    · obtain rfl : k = n := by omega
      have HNW := Lib.hid (HI.out.new (by have := selL_len (atB x xs) k; omega) (selL_small _ k hn))
      go_wp2
      go_ret
      exact HNW.out
set_option maxRecDepth 100000 in
set_option maxHeartbeats 1600000 in
theorem bestReplies_any (A : Option Addr) (n c : Nat) (xs : List Int) (now : Nat) (w : World) (hx : Ints w A n c xs) (hn : n ≤ 100) (h0 : now < n) :
    Calls Try.prog 83 #[.slice A n c, .int .i64 now] w (NewI w (brF xs now)) := by
  have HC := Lib.hid (Max_any A n c xs w hx (by omega))
  have HX := Lib.hid hx
  have hl := hx.len
  clear hx
  by_cases hm : gi xs now = mxl xs
  · have hm' : (gi xs now == mxl xs) = true := by simp [hm]
    have HE := Lib.hid (show brF xs now = [] by rw [brF, if_pos hm])
    clear hm hl
    go_enter Try.func83, Try.ntmps83
    go_wp2_with fail
    refine HC.out.mono ?_
    rintro e w1 ⟨rfl, hq⟩
    obtain ⟨b, o, rfl, hc⟩ := (HX.out.keep (Keep.quiet hq)).at_ (by omega)
    have c1 := hc now h0
    have HQ := Lib.hid (Quiet.below (B := w.heap.size) hq)
    clear hc hq HC
    go_wp2
    go_ret
    exact NewI.empty HQ.out HE.out
  · have hm' : (gi xs now == mxl xs) = false := by simp [hm]
    have HE := Lib.hid (show selL (atB (mxl xs) xs) n = brF xs now by rw [brF, if_neg hm, hl])
    clear hm hl
    go_enter Try.func83, Try.ntmps83
    go_wp2_with fail
    refine HC.out.mono ?_
    rintro e w1 ⟨rfl, hq⟩
    have HX1 := Lib.hid (HX.out.keep (Keep.quiet hq))
    have HQ := Lib.hid (Quiet.below (B := w.heap.size) hq)
    obtain ⟨b, o, rfl, hc⟩ := (HX.out.keep (Keep.quiet hq)).at_ (by omega)
    have c1 := hc now h0
    clear hc hq HC HX
    go_wp2_with fail
    refine (HE.out ▸ indexesOf_any _ _ _ _ xs _ HX1.out hn).mono ?_
    rintro e w2 hN
    have HN := Lib.hid (NewI.from HQ.out hN)
    obtain ⟨Av, k, cv, gg, rfl, -⟩ := hN
    clear HQ HX1 c1
    go_wp2
    go_ret
    exact HN.out
theorem NewT.is {w w' : World} {a b : List (List Int)} {e : Ending} (h : a = b) (k : NewT w a e w') : NewT w b e w' := h ▸ k
/-- Rows under way, and a list of ints that is read beside them. -/
structure RS (wb : World) (lo hi : Nat) (v : Value) (vs : List Value) (acc : List (List Int)) (gg : Nat) (A : Option Addr) (n c : Nat) (ls : List Int) (wr : World) : Prop where
  tm : TM wb v vs acc wr
  li : OwnI lo hi wr gg A n c ls
  hi_ : hi ≤ wr.heap.size
  far : ∀ k, v.ownBlock = some k → k < lo ∨ hi ≤ k
theorem RS.start {wb w1 w2 : World} {v : Value} {vs : List Value} {acc : List (List Int)} {gg : Nat} {A : Option Addr} {n c : Nat} {ls : List Int} (h : TM wb v vs acc w1) (ho : OwnI w1.heap.size w2.heap.size w2 gg A n c ls) (hb : Below w1.heap.size w1 w2) :
    RS wb w1.heap.size w2.heap.size v vs acc gg A n c ls w2 :=
  ⟨h.next hb, ho, Nat.le_refl _, fun k hk => .inl (h.bo.hi_ k hk)⟩
theorem RS.push {wb wr w6 : World} {lo hi : Nat} {v v' : Value} {vs : List Value} {acc : List (List Int)} {gg n c : Nat} {A : Option Addr} {ls : List Int} {x y : Int} (h : RS wb lo hi v vs acc gg A n c ls wr)
    (hr : OwnI wr.heap.size (wr.heap.size + 1) (wr.alloc (.cells #[.int .i64 x, .int .i64 y] 3)) wr.heap.size (some ⟨wr.heap.size, 0, none⟩) 2 2 [x, y])
    (hown : w6.ownsRow wb.heap.size 30 1 v' (acc.length + 1) (vs ++ [.slice (some ⟨wr.heap.size, 0, none⟩) 2 2]))
    (hgrow : ((wr.alloc (.cells #[.int .i64 x, .int .i64 y] 3)).alloc (.cells #[.slice (some ⟨wr.heap.size, 0, none⟩) 2 2] 30)).grownBy w6 v.ownBlock)
    (hat : v'.ownBlock = v.ownBlock ∨ v'.ownBlock = some ((wr.alloc (.cells #[.int .i64 x, .int .i64 y] 3)).heap.size + 1)) :
    RS wb lo hi v' (vs ++ [.slice (some ⟨wr.heap.size, 0, none⟩) 2 2]) (acc ++ [[x, y]]) gg A n c ls w6 := by
  have h1 := h.hi_
  have hk := below_alloc wr (.cells #[.int .i64 x, .int .i64 y] 3)
  have h3 := hgrow.size
  simp only [World.size_alloc] at h3
  refine ⟨h.tm.push (r := [x, y]) hk (hr.mono (Nat.le_refl _) (by simp)) hown hgrow hat, h.li.of_block fun hn => ?_, by omega, fun k hk => ?_⟩
  · obtain ⟨o, e, hl, hh, _⟩ := h.li.own hn
    refine (hgrow.block gg (by simp; omega) (fun e => ?_)).trans ((Below.heap_alloc _ _ _ (by simp; omega)).trans (hk.block gg (by omega)))
    have := h.far gg e.symm
    omega
  · rcases hat with hat | hat
    · exact h.far k (by rw [← hat]; exact hk)
    · rw [hat] at hk; injection hk with hk; simp at hk; omega

set_option maxRecDepth 100000 in
set_option maxHeartbeats 6400000 in
theorem ReplyMoves_impl (A B : Option Addr) (n c m d : Nat) (xs ys : List (List Int)) (i j : Int) (w : World) (hx : IntRows w A n c xs) (hy : IntRows w B m d ys) (hi : Fit i) (hj : Fit j) :
    Calls Try.prog 42 #[.agg #[.slice A n c, .slice B m d], .int .i64 i, .int .i64 j] w (NewT w (repF xs ys i j)) := by
  have hb0 := below_alloc w (.cells #[.slice A n c, .slice B m d] 54)
  have b0 := blk_new w 54 #[.slice A n c, .slice B m d]
  have HB := Lib.hid hb0
  have HK := Lib.hid b0
  have HX := Lib.hid (hx.keep (Keep.below hb0))
  have HY := Lib.hid (hy.keep (Keep.below hb0))
  have HX0 := Lib.hid hx
  have HY0 := Lib.hid hy
  have HFI := Lib.hid hi
  have HFJ := Lib.hid hj
  clear hx hy hb0 b0 hi hj
  go_enter Try.func42, Try.ntmps42
  go_wp2_with fail
  generalize w.alloc (.cells #[.slice A n c, .slice B m d] 54) = W1 at *
  have HC := Lib.hid (ValidGame_impl _ _ _ _ _ _ _ _ _ HX.out HY.out)
  by_cases hv : VG xs ys
  · refine ((pb_true hv) ▸ HC.out).mono ?_
    rintro e w1 ⟨rfl, hb⟩
    have hb2 := below_up HB.out hb
    have hk2 := blk_below HK.out hb
    obtain ⟨p, rfl, rfl, rfl, rfl, rfl, rfl, hg⟩ := GV.of HX0.out HY0.out hv
    have HT := Lib.hid (show GT p w w1 w.heap.size xs ys from ⟨hb2, hk2, hg⟩)
    have hn3 := hg.tx.n3
    have hm3 := hg.tx.m3
    have hn1 := hg.tx.n1
    have hm1 := hg.tx.m1
    have HP := Lib.hid (show repF xs ys i j = if (pb (Blw p.n i) && pb (Blw p.m j)) = true then repL xs ys p.n i.toNat j.toNat else [] by rw [repF, pb_true hv, hg.lx, hg.mx, Bool.true_and])
    have HLY := Lib.hid (show ∀ i, i < p.n → (gr ys i).length = p.m from fun i hi => (hg.ty.ints i hi).len)
    clear hb hv hb2 hk2 hg HX HY HX0 HY0 HB HK HC
    have k0 := HT.out.c0
    have r0 := HT.out.gv.tx.row 0 hn1
    simp only [Nat.add_zero] at r0
    by_cases hi : Blw p.n i
    · by_cases hj : Blw p.m j
      · have QI := Lib.hid (fun W => pb_true hi ▸ isBelow_any (p.n : Int) i W)
        have QJ := Lib.hid (fun W => pb_true hj ▸ isBelow_any (p.m : Int) j W)
        rw [pb_true hi, pb_true hj, Bool.and_self, if_pos rfl] at HP
        unfold Blw at hi hj
        obtain ⟨x, rfl⟩ : ∃ x : Nat, i = x := ⟨i.toNat, by omega⟩
        obtain ⟨y, rfl⟩ : ∃ y : Nat, j = y := ⟨j.toNat, by omega⟩
        have hxn : x < p.n := by omega
        have hym : y < p.m := by omega
        simp only [Int.toNat_natCast] at HP
        clear hi hj HFI HFJ
        go_wp2_with fail
        refine (QI.out _).mono ?_
        rintro e w2 ⟨rfl, rfl⟩
        go_wp2_with fail
        refine (QJ.out _).mono ?_
        rintro e w2 ⟨rfl, rfl⟩
        clear QI QJ
        go_wp2_with fail
        refine (turned_any _ _ _ _ _ _ _ _ _ _ HT.out.gv.tx).mono ?_
        rintro e w2 ⟨rfl, ho, hb, hlt⟩
        have HT2 := Lib.hid (HT.out.up hb)
        obtain ⟨R, cc, t1, tI⟩ := ho.row0 hym
        rw [flip_colOf hym, colOf_len] at t1 tI
        have HBR := Lib.hid (bestReplies_any _ _ _ _ x _ tI (by omega) hxn)
        have HTM := Lib.hid (TM.mk (wb := w2) (v := .slice none 0 0) (vs := []) (xss := []) (Bld.nil _ _ _) (Below.refl _ _))
        clear ho hb hlt HT k0 r0 tI
        generalize hw1 : w1.heap.size = N at *
        clear hw1
        go_wp2_with fail
        refine HBR.out.mono ?_
        rintro e w3 ⟨Al, nl, cl, gl, rfl, rfl, ho, hb⟩
        have HR := Lib.hid (RS.start HTM.out ho hb)
        have HLL := Lib.hid (show (brF (colOf xs p.n y) x).length ≤ 3 by have := brF_len (colOf xs p.n y) x; rw [colOf_len] at this; omega)
        have HMEM := Lib.hid (show ∀ z ∈ brF (colOf xs p.n y) x, -1000 ≤ z ∧ z ≤ 1000 from fun z hz => by
          obtain ⟨_, k, hk, _, rfl⟩ := brF_mem.1 hz
          rw [colOf_len] at hk; omega)
        clear HBR ho hb HTM t1
        have hl3 := HLL.out
        generalize hls : brF (colOf xs p.n y) x = ls at *
        have HLS := Lib.hid hls
        clear hls
        generalize hlo : w2.heap.size = lo at *
        have HLO := Lib.hid hlo
        clear hlo
        generalize w3.heap.size = hi at *
        go_wp2
        go_loopw [7, 42] (fun v s wr => ∃ (k : Nat) (vs : List Value), k ≤ ls.length ∧ s = .int .i64 k ∧ Hid (RS w2 lo hi v vs (mvA y (ls.take k)) gl Al ls.length cl ls wr)) (fun _ s _ => ls.length - (intOf s).toNat)
        case atStart => exact ⟨0, [], Nat.zero_le _, rfl, HR⟩
        case round =>
          clear HR
          obtain ⟨k, vs, hk, rfl, HR⟩ := hrel
          obtain ⟨Av, cv, rfl⟩ := HR.out.tm.bo.form
          by_cases hkl : k < ls.length
          · obtain ⟨bl, ol, rfl, hcl⟩ := HR.out.li.ints.at_ (by omega)
            have c1 := hcl k hkl
            have HMS := Lib.hid (mvA_step y hkl)
            have HGB := Lib.hid (HMEM.out _ (gi_mem hkl))
            have HLA := Lib.hid (show (mvA y (ls.take k)).length ≤ 3 by rw [mvA_len, List.length_take]; have := HLL.out; omega)
            clear hcl
            have HRT := Lib.hid HR.out.tm
            generalize gi ls k = z at *
            generalize mvA y (ls.take k) = acc at *
            have hb3 := below_alloc wr (.cells #[.int .i64 z, .int .i64 y] 3)
            have hb4 := below_alloc (wr.alloc (.cells #[.int .i64 z, .int .i64 y] 3)) (.cells #[.slice (some ⟨wr.heap.size, 0, none⟩) 2 2] 30)
            have HB4 := Lib.hid ((HRT.out.bo.below hb3).below hb4).own
            have HN := Lib.hid (cell_one_new (wr.alloc (.cells #[.int .i64 z, .int .i64 y] 3)) (.slice (some ⟨wr.heap.size, 0, none⟩) 2 2) 30)
            have HPO := Lib.hid (pair_own (lo := wr.heap.size) (w := wr) z y (by have := HGB.out; omega) (by omega) (Nat.le_refl _))
            have hlh : w2.heap.size ≤ wr.heap.size := HRT.out.up.size
            clear hb3 hb4
            obtain ⟨i0, hi0, hz0, hz1, hz2⟩ := info_parts Try.info_row9
            go_wp2_with (at_builtin; refine wpList_append_own_at _ rfl _ _ 23 rfl w2.heap.size 30 i0 (.slice none 0 0) 1 24 Try.underlying23 hi0 hz0 hz1 hz2 rfl (by decide) _ (acc).length vs rfl HB4.out ⟨wr.heap.size + 1, 0, none⟩ 1 1 [.slice (some ⟨wr.heap.size, 0, none⟩) 2 2] rfl rfl ?c1 ?c2 ?c3 ?c4 ?c5 ?_)
            case c1 => have h := HN.out; rw [World.size_alloc] at h; exact h
            case c2 => intro u hu; simp at hu; subst hu; rfl
            case c3 => have := HLA.out; unfold maxLen; omega
            case c4 => have := HLA.out; omega
            case c5 => simp; omega
            intro v' w5 hown' hgrow _ hat
            have hgrow2 : ((wr.alloc (.cells #[.int .i64 z, .int .i64 y] 3)).alloc (.cells #[.slice (some ⟨wr.heap.size, 0, none⟩) 2 2] 30)).grownBy w5 (Value.slice Av (acc).length cv).ownBlock := hgrow
            have hat2 : v'.ownBlock = (Value.slice Av (acc).length cv).ownBlock ∨ v'.ownBlock = some ((wr.alloc (.cells #[.int .i64 z, .int .i64 y] 3)).heap.size + 1) := by simpa using hat
            have HR5 := Lib.hid (HR.out.push HPO.out hown' hgrow2 hat2)
            clear HB4 HN HPO hown' hgrow hat hgrow2 hat2 HLA
            clear HR HRT c1
            go_wp2
            go_roundw
            case rel => exact ⟨k + 1, _, by omega, by go_num, Lib.hid (by rw [HMS.out]; exact HR5.out)⟩
            case measure => simp [intOf]; omega
          · obtain rfl : k = ls.length := by omega
            have HTM := Lib.hid HR.out.tm
            have HT3 := Lib.hid (HT2.out.up HTM.out.up)
            have HA1 := Lib.hid (show (mvA y (ls.take ls.length)).length ≤ 3 by rw [mvA_len, List.take_length]; exact HLL.out)
            have k1 := HT3.out.c1
            have r1 := HT3.out.gv.ty.row x hxn
            have HIY := Lib.hid (HT3.out.gv.ty.ints x hxn)
            have HBR := Lib.hid (bestReplies_any _ _ _ _ y _ HIY.out (by omega) hym)
            clear HR HIY
            go_wp2_with fail
            refine HBR.out.mono ?_
            rintro e w4 ⟨Am, nm, cm, gm, rfl, rfl, ho, hb⟩
            have HR := Lib.hid (RS.start HTM.out ho hb)
            have HLM := Lib.hid (show (brF (gr ys x) y).length ≤ 3 by have := brF_len (gr ys x) y; rw [HLY.out x hxn] at this; omega)
            have HMEM2 := Lib.hid (show ∀ z ∈ brF (gr ys x) y, -1000 ≤ z ∧ z ≤ 1000 from fun z hz => by
              obtain ⟨_, k, hk, _, rfl⟩ := brF_mem.1 hz
              rw [HLY.out x hxn] at hk; omega)
            clear HBR ho hb HTM r1 k1
            have hm3' := HLM.out
            generalize hms : brF (gr ys x) y = ms at *
            have HMSS := Lib.hid hms
            clear hms
            obtain ⟨wA, hwA⟩ : ∃ wA, wA = wr := ⟨_, rfl⟩
            subst hwA
            generalize hac0 : mvA y (ls.take ls.length) = ac0 at *
            have HAC0 := Lib.hid hac0
            clear hac0
            generalize wA.heap.size = lo2 at *
            generalize w4.heap.size = hi2 at *
            go_wp2
            go_loopw [7, 61] (fun v s wr => ∃ (k : Nat) (vs : List Value), k ≤ ms.length ∧ s = .int .i64 k ∧ Hid (RS w2 lo2 hi2 v vs (ac0 ++ mvB x (ms.take k)) gm Am ms.length cm ms wr)) (fun _ s _ => ms.length - (intOf s).toNat)
            case atStart => exact ⟨0, vs, Nat.zero_le _, rfl, Lib.hid (by simpa [mvB] using HR.out)⟩
            case round =>
              clear HR vs
              obtain ⟨k, vs, hk, rfl, HR⟩ := hrel
              obtain ⟨Av, cv, rfl⟩ := HR.out.tm.bo.form
              by_cases hkm : k < ms.length
              · obtain ⟨bl, ol, rfl, hcl⟩ := HR.out.li.ints.at_ (by omega)
                have c1 := hcl k hkm
                have HMS := Lib.hid (mvB_step x hkm)
                have HGB := Lib.hid (HMEM2.out _ (gi_mem hkm))
                have HLA := Lib.hid (show (ac0 ++ mvB x (ms.take k)).length ≤ 6 by rw [List.length_append, mvB_len, List.length_take]; have := HA1.out; have := HLM.out; omega)
                clear hcl
                have HRT := Lib.hid HR.out.tm
                generalize gi ms k = z at *
                generalize hpart : mvB x (ms.take k) = part at *
                clear hpart
                generalize hacc : ac0 ++ part = acc at *
                have HACC := Lib.hid hacc
                clear hacc
                have hb3 := below_alloc wr (.cells #[.int .i64 x, .int .i64 z] 3)
                have hb4 := below_alloc (wr.alloc (.cells #[.int .i64 x, .int .i64 z] 3)) (.cells #[.slice (some ⟨wr.heap.size, 0, none⟩) 2 2] 30)
                have HB4 := Lib.hid ((HRT.out.bo.below hb3).below hb4).own
                have HN := Lib.hid (cell_one_new (wr.alloc (.cells #[.int .i64 x, .int .i64 z] 3)) (.slice (some ⟨wr.heap.size, 0, none⟩) 2 2) 30)
                have HPO := Lib.hid (pair_own (lo := wr.heap.size) (w := wr) x z (by omega) (by have := HGB.out; omega) (Nat.le_refl _))
                have hlh : w2.heap.size ≤ wr.heap.size := HRT.out.up.size
                clear hb3 hb4
                obtain ⟨i0, hi0, hz0, hz1, hz2⟩ := info_parts Try.info_row9
                go_wp2_with (at_builtin; refine wpList_append_own_at _ rfl _ _ 23 rfl w2.heap.size 30 i0 (.slice none 0 0) 1 24 Try.underlying23 hi0 hz0 hz1 hz2 rfl (by decide) _ (acc).length vs rfl HB4.out ⟨wr.heap.size + 1, 0, none⟩ 1 1 [.slice (some ⟨wr.heap.size, 0, none⟩) 2 2] rfl rfl ?c1 ?c2 ?c3 ?c4 ?c5 ?_)
                case c1 => have h := HN.out; rw [World.size_alloc] at h; exact h
                case c2 => intro u hu; simp at hu; subst hu; rfl
                case c3 => have := HLA.out; unfold maxLen; omega
                case c4 => have := HLA.out; omega
                case c5 => simp; omega
                intro v' w5 hown' hgrow _ hat
                have hgrow2 : ((wr.alloc (.cells #[.int .i64 x, .int .i64 z] 3)).alloc (.cells #[.slice (some ⟨wr.heap.size, 0, none⟩) 2 2] 30)).grownBy w5 (Value.slice Av (acc).length cv).ownBlock := hgrow
                have hat2 : v'.ownBlock = (Value.slice Av (acc).length cv).ownBlock ∨ v'.ownBlock = some ((wr.alloc (.cells #[.int .i64 x, .int .i64 z] 3)).heap.size + 1) := by simpa using hat
                have HR5 := Lib.hid (HR.out.push HPO.out hown' hgrow2 hat2)
                clear HB4 HN HPO hown' hgrow hat hgrow2 hat2 HLA
                clear HR HRT c1
                go_wp2
                go_roundw
                case rel => exact ⟨k + 1, _, by omega, by go_num, Lib.hid (by rw [HMS.out, ← List.append_assoc, HACC.out]; exact HR5.out)⟩
                case measure => simp [intOf]; omega
              · obtain rfl : k = ms.length := by omega
                have HE := Lib.hid (show ac0 ++ mvB x (ms.take ms.length) = repF xs ys x y by rw [HP.out, repL, HLS.out, HMSS.out, List.take_length, ← HAC0.out, List.take_length])
                have HNT := Lib.hid (NewT.from HT2.out.below (HR.out.tm.new (by rw [List.length_append, mvB_len, List.length_take]; have := HA1.out; have := HLM.out; omega)))
                clear HR
                go_wp2
                go_ret
                exact NewT.is HE.out HNT.out
      · have QI := Lib.hid (fun W => pb_true hi ▸ isBelow_any (p.n : Int) i W)
        have QJ := Lib.hid (fun W => pb_false hj ▸ isBelow_any (p.m : Int) j W)
        have HE := Lib.hid (show repF xs ys i j = [] by rw [HP.out, pb_false hj, Bool.and_false]; rfl)
        clear hi hj HP
        go_wp2_with fail
        refine (QI.out _).mono ?_
        rintro e w2 ⟨rfl, rfl⟩
        go_wp2_with fail
        refine (QJ.out _).mono ?_
        rintro e w2 ⟨rfl, rfl⟩
        go_wp2
        go_ret
        exact NewT.none HT.out.below HE.out
    · have QI := Lib.hid (fun W => pb_false hi ▸ isBelow_any (p.n : Int) i W)
      have HE := Lib.hid (show repF xs ys i j = [] by rw [HP.out, pb_false hi, Bool.false_and]; rfl)
      clear hi HP
      go_wp2_with fail
      refine (QI.out _).mono ?_
      rintro e w2 ⟨rfl, rfl⟩
      go_wp2
      go_ret
      exact NewT.none HT.out.below HE.out
  · have HZ := Lib.hid (show repF xs ys i j = [] by rw [repF, pb_false hv]; rfl)
    refine ((pb_false hv) ▸ HC.out).mono ?_
    rintro e w1 ⟨rfl, hb⟩
    have HB2 := Lib.hid (below_up HB.out hb)
    clear hb hv HC
    go_wp2
    go_ret
    exact NewT.none HB2.out HZ.out
end Go.Proofs.Ytjkmgpiiamffgaa

/- A game under way: the box is written; the second table is appended to. -/
namespace Go.Proofs.Ytjkmgpiiamffgaa
open Go.RowKit

theorem Bld.set_box {lo hi w v vs xss} {h : Nat} {cs : Array Value} (b : Bld lo hi w v vs xss) (hb : Blk w h 54 cs) (hcs : ∀ (k : Nat) (v : Value), cs[k]? = some v → ∀ (kk : IntKind) (x : Int), v ≠ Value.int kk x) (i : Nat) (u : Value) :
    Bld lo hi (w.setCell ⟨h, i, none⟩ u) v vs xss := by
  have hno := box_ne_own hb b.own (by decide)
  obtain ⟨ho, h4, G, R, C, h2, h3⟩ := b
  refine ⟨blk_kept ho fun g hg => Below.heap_setCell _ _ _ _ (fun e => hno (by rw [hg, e])), h4, G, R, C, fun k hk => ⟨(h2 k hk).1, (h2 k hk).2.1.of_block fun hp => Below.heap_setCell _ _ _ _ ?_, (h2 k hk).2.2⟩, h3⟩
  show G k ≠ h
  obtain ⟨o, e, _, _, _⟩ := (h2 k hk).2.1.own hp
  obtain ⟨b', o', e', hc⟩ := (h2 k hk).2.1.ints.at_ hp
  rw [e] at e'
  injection e' with e'
  injection e' with e1 _ _
  rw [e1]
  exact Ne.symm (box_ne_int (k := .i64) hb hcs ⟨_, hc 0 hp⟩)

/-- The box's second cell is written. -/
theorem GO.rebox {w0 w3 mid g A l c p Aa na ca ga xa Bb nb cb vs xb h w Nb nn cn vs' xb'} (o : GO w0 w3 mid g A l c p Aa na ca ga xa (.slice Bb nb cb) vs xb h w) (hmh : mid ≤ h) (hb : Bld mid w.heap.size w (.slice Nb nn cn) vs' xb') :
    GO w0 w3 mid g A l c p Aa na ca ga xa (.slice Nb nn cn) vs' xb' h (w.setCell ⟨h, 1, none⟩ (.slice Nb nn cn)) := by
  have hgl := o.gl
  have hlm := o.lm
  have hs : (w.setCell ⟨h, 1, none⟩ (.slice Nb nn cn)).heap.size = w.heap.size := by simp [World.setCell]
  refine ⟨⟨blk_other o.rd.box (by show g ≠ h; omega) _, o.rd.bytes, o.rd.below.setCell (by show w0.heap.size ≤ h; have := o.rd.lt; omega) _, o.rd.lt, o.rd.small⟩, o.a.of_blocks fun k _ h2 _ => Below.heap_setCell _ _ _ _ (by show k ≠ h; omega), by rw [hs]; exact hb.set_box o.box (box_slices _ _ _ _ _ _) 1 _, o.gl, o.lm, by rw [hs]; exact o.mw, ?_, blk_set o.box 1 _⟩
  exact ⟨o.up.os, o.up.tape, o.up.output, by rw [hs]; exact o.up.size, fun k hk hne => (Below.heap_setCell _ _ _ _ (by show k ≠ h; omega)).trans (o.up.block k hk hne)⟩

def cutW (w : World) (m : Nat) : World := { w with heap := w.heap.extract 0 m }
theorem cutW_size {w : World} {m : Nat} (h : m ≤ w.heap.size) : (cutW w m).heap.size = m := by simp [cutW]; omega
theorem cutW_block {w : World} {m k : Nat} (hm : m ≤ w.heap.size) (h : k < m) : (cutW w m).heap[k]? = w.heap[k]? := by
  simp only [cutW]
  rw [Array.getElem?_extract]
  simp
  omega
theorem GO.to {w0 w3 mid g A l c p Aa na ca ga xa v vs xb h w} (o : GO w0 w3 mid g A l c p Aa na ca ga xa v vs xb h w) : TO w0 (cutW w mid) g A l c p v vs xb w := by
  have hgl := o.gl
  have hlm := o.lm
  have hs := cutW_size o.mw
  refine ⟨o.rd, by rw [hs]; exact o.b, by rw [hs]; omega, ⟨rfl, rfl, rfl, by rw [hs]; exact o.mw, fun k hk _ => ?_⟩⟩
  rw [hs] at hk
  exact (cutW_block o.mw hk).symm
/-- What lies below mid is as it was. -/
theorem grown_cut {w w' : World} {mid g k : Nat} (u : (cutW w mid).grownBy w' (some g)) (hm : mid ≤ w.heap.size) (hk : k < mid) (hne : k ≠ g) : w'.heap[k]? = w.heap[k]? := by
  have := u.block k (by rw [cutW_size hm]; exact hk) (fun e => hne (by injection e))
  rw [this, cutW_block hm hk]
theorem Bld.small_rows {lo hi w v vs xss} (b : Bld lo hi w v vs xss) (s : Small xss) : ∃ A n c, v = .slice A n c ∧ IntRows w A n c xss := by
  obtain ⟨A, n, c, g, e, _, ho⟩ := b.owns (by have := s.n; omega)
  exact ⟨A, n, c, e, ho.rows⟩

/-- A game drawn: its tables are of small numbers, in memory of their own behind st. -/
def GameOut (w0 : World) (st g : Nat) (A : Option Addr) (l c p : Nat) (e : Ending) (w' : World) : Prop :=
  ∃ Aa na ca ga ha xa Ab nb cb gb hb xb lo p', e = .returned (.agg #[.slice Aa na ca, .slice Ab nb cb]) ∧ Small xa ∧ Small xb ∧ st < lo ∧ OwnR lo ha w' ga Aa na ca xa ∧ OwnR lo hb w' gb Ab nb cb xb ∧ Rdr w0 w' g A l c p' ∧ p' ≤ p + 100
/-- At the end: the box's cells go to the result's. -/
theorem game_done {w0 w3 mid g A l c p p0 Aa na ca ga xa w r} {v : Value} {vs : List Value} {xb : List (List Int)} {Ab : Option Addr} {nb cb : Nat} (rd : Rdr w0 w g A l c p) (a : OwnR w3 mid w ga Aa na ca xa) (b : Bld mid w.heap.size w (.slice Ab nb cb) vs xb)
    (sa : Small xa) (sb : Small xb) (hr : r < w3) (hlm : w3 ≤ mid) (hg : g ≠ r) (hw : w0.heap.size ≤ r) (hp : p ≤ p0 + 100) (x y : Value) (hv : v = .agg #[.slice Aa na ca, .slice Ab nb cb]) :
    GameOut w0 r g A l c p0 (.returned v) ((w.setCell ⟨r, 0, none⟩ x).setCell ⟨r, 1, none⟩ y) := by
  have hs : ((w.setCell ⟨r, 0, none⟩ x).setCell ⟨r, 1, none⟩ y).heap.size = w.heap.size := by simp [World.setCell]
  have hk : ∀ k, k ≠ r → ((w.setCell ⟨r, 0, none⟩ x).setCell ⟨r, 1, none⟩ y).heap[k]? = w.heap[k]? := fun k hne => (Below.heap_setCell _ _ _ _ hne).trans (Below.heap_setCell _ _ _ _ hne)
  have hbb := b.of_blocks (w' := (w.setCell ⟨r, 0, none⟩ x).setCell ⟨r, 1, none⟩ y) fun k h1 _ _ => hk k (by omega)
  obtain ⟨A', n', c', gb, e, _, hown⟩ := hbb.owns (by have := sb.n; omega)
  injection e with e1 e2 e3
  subst e1
  subst e2
  subst e3
  exact ⟨Aa, na, ca, ga, mid, xa, Ab, nb, cb, gb, w.heap.size, xb, w3, p, by rw [hv], sa, sb, hr, a.of_blocks fun k h1 _ _ => hk k (by omega), hown.mono hlm (Nat.le_refl _), ⟨blk_other (blk_other rd.box (p := ⟨r, 0, none⟩) hg _) (p := ⟨r, 1, none⟩) hg _, rd.bytes, (rd.below.setCell (p := ⟨r, 0, none⟩) hw _).setCell (p := ⟨r, 1, none⟩) hw _, rd.lt, rd.small⟩, hp⟩
end Go.Proofs.Ytjkmgpiiamffgaa

/- A game drawn. -/
namespace Go.Proofs.Ytjkmgpiiamffgaa
open Go.RowKit

set_option maxRecDepth 100000 in
set_option maxHeartbeats 3200000 in
theorem someGame_any (w0 w : World) (g : Nat) (A : Option Addr) (l c p : Nat) (hrd : Rdr w0 w g A l c p) (hp : p < 700000000) :
    Calls Try.prog 80 #[.pointer (some ⟨g, 0, none⟩)] w (GameOut w0 w.heap.size g A l c p) := by
  obtain ⟨i0, hi0, hz0, hz1, hz2⟩ := info_parts Try.info_row
  have HR := Lib.hid (hrd.below_ (below_alloc w (.cells #[.slice none 0 0, .slice none 0 0] 54)))
  have HB0 := Lib.hid (blk_new w 54 #[.slice none 0 0, .slice none 0 0])
  have HNE := Lib.hid (show g ≠ w.heap.size from by have := blk_lt hrd.box; omega)
  have HW0 := Lib.hid hrd.below.size
  have HI1 : Hid (Ints ((w.alloc (.cells #[.slice none 0 0, .slice none 0 0] 54)).alloc (.cells #[iv 2, iv 3, iv 2, iv 1] 3)) (some ⟨w.heap.size + 1, 0, none⟩) 4 4 [2, 3, 2, 1]) := Lib.hid (by
    have h := Ints.lit (w.alloc (.cells #[.slice none 0 0, .slice none 0 0] 54)) [2, 3, 2, 1] (by decide) (by decide)
    rw [World.size_alloc] at h
    exact h)
  clear hrd
  go_enter Try.func80, Try.ntmps80
  go_wp2_with fail
  have HZ0 : Hid (w.heap.size < (w.alloc (.cells #[.slice none 0 0, .slice none 0 0] 54)).heap.size) := Lib.hid (by simp)
  have HZ1 : Hid ((w.alloc (.cells #[.slice none 0 0, .slice none 0 0] 54)).heap.size ≤ w.heap.size + 1) := Lib.hid (by simp)
  generalize hr0 : w.heap.size = r0 at *
  have HR0 := Lib.hid hr0
  clear hr0
  generalize w.alloc (.cells #[.slice none 0 0, .slice none 0 0] 54) = W0 at *
  have H1 := Lib.hid (one_lit w0 W0 _ g A l c p (r0 + 1) 4 [2, 3, 2, 1] HR.out (by omega) (below_alloc W0 (.cells #[iv 2, iv 3, iv 2, iv 1] 3)) HZ1.out HI1.out (by omega))
  refine H1.out.mono ?_
  rintro e w1 ⟨n, rfl, hx, hr, hgr⟩
  have hn1 : 1 ≤ n ∧ n ≤ 3 := by simp at hx; omega
  have HG1 := Lib.hid hgr
  have H2 := Lib.hid (one_lit w0 w1 _ g A l c (p + 1) w1.heap.size 4 [2, 3, 2, 1] hr (by omega) (below_alloc w1 (.cells #[iv 2, iv 3, iv 2, iv 1] 3)) (Nat.le_refl _) (Ints.lit w1 [2, 3, 2, 1] (by decide) (by decide)) (by omega))
  clear hx hr hgr H1 HR HI1
  go_wp2_with fail
  refine H2.out.mono ?_
  rintro e w2 ⟨m, rfl, hx, hr, hgr⟩
  have hm1 : 1 ≤ m ∧ m ≤ 3 := by simp at hx; omega
  have HG2 := Lib.hid (grown_trans HG1.out hgr)
  have H3 := Lib.hid (one_lit w0 w2 _ g A l c (p + 2) w2.heap.size 3 [3, 1, 9] hr (by omega) (below_alloc w2 (.cells #[iv 3, iv 1, iv 9] 3)) (Nat.le_refl _) (Ints.lit w2 [3, 1, 9] (by decide) (by decide)) (by omega))
  clear hx hr hgr H2 HG1
  go_wp2_with fail
  refine H3.out.mono ?_
  rintro e w3 ⟨x, rfl, hx, hr, hgr⟩
  have hx1 : 1 ≤ x ∧ x ≤ 9 := by simp at hx; omega
  have HG3 := Lib.hid (grown_trans HG2.out hgr)
  obtain ⟨n, rfl⟩ := Int.eq_ofNat_of_zero_le (show 0 ≤ n by omega)
  obtain ⟨m, rfl⟩ := Int.eq_ofNat_of_zero_le (show 0 ≤ m by omega)
  obtain ⟨hn1, hn3⟩ := hn1
  obtain ⟨hm1, hm3⟩ := hm1
  have HRS := Lib.hid (show r0 < w3.heap.size by have := HG3.out.size; have := HZ0.out; omega)
  have HRB := Lib.hid (show Blk w3 r0 54 #[.slice none 0 0, .slice none 0 0] from (HG3.out.block r0 HZ0.out (fun e => HNE.out (by injection e with e; exact e.symm))).trans HB0.out)
  have H4 := Lib.hid (tableOf_any w0 w3 g A l c (p + 3) n m (-x) x hr (by omega) (by omega) (by omega) (by omega) (by omega) (by omega))
  clear hx hr hgr H3 HG2 HG3 HB0 HZ0 HZ1
  go_wp2_with fail
  refine H4.out.mono ?_
  rintro e w4 ⟨Av, cv, vsa, xa, p4, rfl, hla, hxa, hto, hp4⟩
  have HSA := Lib.hid (show Shp n m xa from ⟨hla, fun k hk => (hxa _ (gr_mem (by omega))).1, ⟨by omega, fun r hr => ⟨by have := (hxa r hr).1; omega, fun y hy => by have := (hxa r hr).2 y hy; omega⟩⟩⟩)
  obtain ⟨A', n', c', ga, e, -, hown⟩ := hto.bo.owns (by omega)
  injection e with e1 e2 e3
  subst e1
  subst e2
  subst e3
  have HOA := Lib.hid hown
  have HTA := Lib.hid hto
  have H5 := Lib.hid (tableOf_any w0 w4 g A l c p4 n m (-x) x hto.rd (by omega) (by omega) (by omega) (by omega) (by omega) (by omega))
  clear hxa hto hown H4 hla
  go_wp2_with fail
  refine H5.out.mono ?_
  rintro e w5 ⟨Bv, bv, vsb, xb, p5, rfl, hlb, hxb, hto, hp5⟩
  have HSB := Lib.hid (show Shp n m xb from ⟨hlb, fun k hk => (hxb _ (gr_mem (by omega))).1, ⟨by omega, fun r hr => ⟨by have := (hxb r hr).1; omega, fun y hy => by have := (hxb r hr).2 y hy; omega⟩⟩⟩)
  have HMH := Lib.hid hto.up.size
  have HGO : Hid (GO w0 w3 w4.heap.size g A l c p5 Av n cv ga xa (.slice Bv n bv) vsb xb w5.heap.size (w5.alloc (.cells #[.slice Av n cv, .slice Bv n bv] 54))) := Lib.hid (by
    have hgl := HTA.out.gl
    have hlm := HTA.out.up.size
    have hb := below_alloc w5 (.cells #[.slice Av n cv, .slice Bv n bv] 54)
    exact ⟨hto.rd.below_ hb, (HOA.out.of_blocks fun k h1 _ h3 => hto.up.block k h3 (fun e => by injection e with e; omega)).below hb, (hto.bo.below hb).mono hb.size, hgl, hlm, Nat.le_trans hto.up.size hb.size, grown_below (grown_trans HTA.out.up hto.up) hb, blk_new _ _ _⟩)
  clear hxb hto H5 HTA HOA hlb
  go_wp2_with fail
  generalize w5.alloc (.cells #[.slice Av n cv, .slice Bv n bv] 54) = W6 at *
  generalize w5.heap.size = h at *
  generalize hmid : w4.heap.size = mid at *
  clear hmid
  have hmh : mid ≤ h := HMH.out
  have HC := Lib.hid (pick_any w0 W6 g A l c p5 6 HGO.out.rd (by omega))
  refine HC.out.mono ?_
  rintro e w7 ⟨k, rfl, hk1, _, hr, z, hw⟩
  have hone := Rdr.one (g := g) W6 (.int .i64 (p5 + 1 : Nat)) z
  rw [← hw] at hone
  obtain ⟨k0, k1⟩ := hk1 (by omega)
  have HG7 := Lib.hid (HGO.out.one hr hone)
  clear hr hone hw hk1 HC HGO HMH
  by_cases ek0 : k = 0
  · subst ek0
    have c0 := blk_cell HG7.out.box (i := 0) (v := .slice Av n cv) rfl
    have HC := Lib.hid (negatedB_any Av n cv xa w7 HG7.out.a.rows HSA.out.sm)
    go_wp2_with fail
    refine HC.out.mono ?_
    rintro e w8 ⟨Nv, cn, vsn, rfl, hbld, hb⟩
    have HG8 := Lib.hid ((HG7.out.below hb).rebox hmh (hbld.mono_lo HG7.out.mw))
    have HSN := Lib.hid HSA.out.sm.mtab
    have HNL : Hid ((mtab xa xa.length).length ≤ 3) := Lib.hid (by rw [mtab_len, HSA.out.len]; omega)
    have HOX := Lib.hid (HG7.out.below hb).box
    have c1 := blk_cell HOX.out (i := 1) (v := .slice Bv n bv) rfl
    have f1 := blk_frozen HOX.out 1
    clear hbld hb HC HG7 c0 HSB HOX
    generalize mtab xa xa.length = ys at *
    generalize hN : ys.length = N at *
    have HBL := Lib.hid hN
    clear hN
    go_wp2_with fail
    clear c1 f1
    generalize hW : w8.setCell ⟨h, 1, none⟩ (.slice Nv N cn) = WT at *
    clear hW
    have HT := HG8
    have HSMA := Lib.hid HSA.out.sm
    have HSMB := HSN
    have hl7 : N ≤ 3 := HNL.out
    clear HG8 HSA HSN HNL
    have HC := Lib.hid (pick_any w0 WT g A l c (p5 + 1) 40 HT.out.rd (by omega))
    go_wp2_with fail
    refine HC.out.mono ?_
    rintro e x1 ⟨kk, rfl, hk1, _, hr, z, hw⟩
    have hone := Rdr.one (g := g) WT (.int .i64 (p5 + 1 + 1 : Nat)) z
    rw [← hw] at hone
    obtain ⟨kk0, kk1⟩ := hk1 (by omega)
    have HT2 := Lib.hid (HT.out.one hr hone)
    have HRX := Lib.hid (show Blk x1 r0 54 #[.slice none 0 0, .slice none 0 0] from (HT2.out.up.block r0 HRS.out (fun e => HNE.out (by injection e with e; exact e.symm))).trans HRB.out)
    clear hr hone hw hk1 HC HT HRB
    by_cases e0 : kk = 0
    · subst e0
      have HTO := Lib.hid HT2.out.to
      have HI := Lib.hid (HTO.out.lit 0)
      have hWs : (x1.alloc (.cells #[iv 0] 3)).heap.size = x1.heap.size + 1 := by simp
      obtain ⟨Ar, nr, cr, gg, e, hn, ho, _⟩ := HI.out.bi.owns (by simp) (fun x hx => by simp at hx; omega)
      injection e with e1 e2 e3
      subst e1
      subst e2
      subst e3
      have HO := Lib.hid ho
      have hb := below_alloc (x1.alloc (.cells #[iv 0] 3)) (.cells #[.slice (some ⟨x1.heap.size, 0, none⟩) 1 1] 30)
      have HB4 := Lib.hid (HI.out.bo.below hb).own
      have HN := Lib.hid (cell_one_new (x1.alloc (.cells #[iv 0] 3)) (.slice (some ⟨x1.heap.size, 0, none⟩) 1 1) 30)
      have HNO := Lib.hid (box_ne_own HT2.out.box HTO.out.bo.own (by decide))
      have HBF := Lib.hid (blk_below (blk_below HT2.out.box (below_alloc x1 (.cells #[iv 0] 3))) (below_alloc _ (.cells #[.slice (some ⟨x1.heap.size, 0, none⟩) 1 1] 30)))
      have hHs := HI.out.hs
      have hlh := HI.out.lh
      have c1 := blk_cell HT2.out.box (i := 1) (v := .slice Nv N cn) rfl
      have HLB : Hid (ys.length = N) := Lib.hid HBL.out
      rw [HLB.out] at HB4
      clear hb ho hn
      go_wp2_with (at_builtin; refine wpList_append_own_at _ rfl _ _ 23 rfl (cutW x1 mid).heap.size 30 i0 (.slice none 0 0) 1 24 Try.underlying23 hi0 hz0 hz1 hz2 rfl (by decide) _ (N) vsn rfl HB4.out ⟨x1.heap.size + 1, 0, none⟩ 1 1 [.slice (some ⟨x1.heap.size, 0, none⟩) 1 1] rfl rfl ?d1 ?d2 ?d3 ?d4 ?d5 ?_)
      case d1 => have := HN.out; rw [hWs] at this; exact this
      case d2 => intro u hu; simp at hu; subst hu; rfl
      case d3 => unfold maxLen; omega
      case d4 => omega
      case d5 => simp; omega
      intro v' x2 hown' hgrow _ hat
      rw [← HLB.out] at hown'
      have HT5 := Lib.hid (TI.done (w := x1.alloc (.cells #[iv 0] 3)) (ys := [0]) (xss := ys) (v' := v') (vs := vsn) (Ar := some ⟨x1.heap.size, 0, none⟩) (cr := 1) HI.out HO.out hown' hgrow (by simpa using hat))
      have HBG := Lib.hid (show Blk x2 h 54 #[.slice Av n cv, .slice Nv (N) cn] from (hgrow.block h (blk_lt HBF.out) (fun e => HNO.out e.symm)).trans HBF.out)
      clear HB4 HN hown' hgrow hat HI HO HBF HNO HTO c1
      obtain ⟨Av2, cv2, rfl⟩ := HT5.out.bo.form
      have HS4 := Lib.hid (HSMB.out.snoc (x := 0) (by rw [HLB.out]; omega) (by omega))
      have hl8 : (ys ++ [[0]]).length ≤ 7 := by rw [List.length_append, HLB.out]; simp; omega
      generalize ys ++ [[0]] = zs at *
      have HSP := Lib.hid (spoilH_any w0 (cutW x1 mid) x2 h _ g A l c (p5 + 1 + 1) Av2 cv2 _ zs HT5.out (by omega) HS4.out hl8 HBG.out (box_slices _ _ _ _ _ _))
      clear HT5 HBG HS4
      go_wp2_with fail
      refine HSP.out.mono ?_
      rintro e x3 ⟨vv, vs3, xs3, p3, rfl, hsm3, hto3, hp3, hbx3⟩
      obtain ⟨Ab, nb, cb, gb, ev, -, hob⟩ := hto3.bo.owns (by have := hsm3.n; omega)
      subst ev
      have HSM3 := Lib.hid hsm3
      have HTO3 := Lib.hid hto3
      have HBX3 := Lib.hid hbx3
      have HMW := Lib.hid HT2.out.mw
      have HKE := Lib.hid (fun k (hk : k < mid) (hne : k ≠ g) => grown_cut hto3.up HT2.out.mw hk hne)
      have HA3 := Lib.hid (HT2.out.a.of_blocks (w' := x3) fun k h1 h2 _ => HKE.out k h2 (by have := HT2.out.gl; omega))
      have HR3 := Lib.hid (show Blk x3 r0 54 #[.slice none 0 0, .slice none 0 0] from (HKE.out r0 (by have := HRS.out; have := HT2.out.lm; omega) (Ne.symm HNE.out)).trans HRX.out)
      have HLM := Lib.hid HT2.out.lm
      clear hsm3 hto3 hbx3 hob HSP HT2 HRX
      have hneh : r0 ≠ h := by have := HRS.out; have := HLM.out; omega
      have c1 := blk_cell HBX3.out (i := 1) (v := .slice Nv (N) cn) rfl
      have f1 := blk_frozen HBX3.out 1
      have c0 := blk_cell HBX3.out (i := 0) (v := .slice Av n cv) rfl
      have d0 := blk_cell HR3.out (i := 0) (v := .slice none 0 0) rfl
      have d1 := blk_cell HR3.out (i := 1) (v := .slice none 0 0) rfl
      have g0 := blk_frozen HR3.out 0
      have g1 := blk_frozen HR3.out 1
      go_wp2
      clear c1 f1 c0 d0 d1 g0 g1
      have HBB := Lib.hid ((HTO3.out.bo.mono_lo (lo' := mid) (by rw [cutW_size HMW.out]; exact Nat.le_refl _)).set_box HBX3.out (box_slices _ _ _ _ _ _) 1 (.slice Ab nb cb))
      have hs1 : (x3.setCell ⟨h, 1, none⟩ (.slice Ab nb cb)).heap.size = x3.heap.size := by simp [World.setCell]
      have HAA := Lib.hid (HA3.out.of_blocks (w' := x3.setCell ⟨h, 1, none⟩ (.slice Ab nb cb)) fun k _ h2 _ => Below.heap_setCell _ _ _ _ (by show k ≠ h; omega))
      have HNH := Lib.hid (box_ne_box HBX3.out HTO3.out.rd.box (by decide))
      have HRR := Lib.hid (show Rdr w0 (x3.setCell ⟨h, 1, none⟩ (.slice Ab nb cb)) g A l c p3 from ⟨blk_other HTO3.out.rd.box (Ne.symm HNH.out) _, HTO3.out.rd.bytes, HTO3.out.rd.below.setCell (by show w0.heap.size ≤ h; have := HTO3.out.rd.lt; have := HTO3.out.gl; rw [cutW_size HMW.out] at this; omega) _, HTO3.out.rd.lt, HTO3.out.rd.small⟩)
      have HRZ := Lib.hid (blk_other HR3.out (p := ⟨h, 1, none⟩) hneh (.slice Ab nb cb))
      rw [← hs1] at HBB
      clear hs1 HA3 HTO3 HBX3 HR3
      have B1 := blk_set (blk_set HRZ.out 0 (.slice Av n cv)) 1 (.slice Ab nb cb)
      have q0 := blk_cell B1 (i := 0) (v := .slice Av n cv) rfl
      have q1 := blk_cell B1 (i := 1) (v := .slice Ab nb cb) rfl
      clear B1 HRZ
      generalize x3.setCell ⟨h, 1, none⟩ (.slice Ab nb cb) = X3 at *
      have HFIN := Lib.hid (game_done (w3 := w3.heap.size) (p0 := p) (x := .slice Av n cv) (y := .slice Ab nb cb) HRR.out HAA.out HBB.out HSMA.out HSM3.out HRS.out HLM.out HNE.out HW0.out (by omega) rfl)
      refine bodyPost_ret (v := .agg #[.slice Av n cv, .slice Ab nb cb]) (by simp [results, Try.results80, go_sem, q0, q1]) rfl ?_
      exact HFIN.out
    · have c0 := blk_cell HT2.out.box (i := 0) (v := .slice Av n cv) rfl
      have c1 := blk_cell HT2.out.box (i := 1) (v := .slice Nv (N) cn) rfl
      have d0 := blk_cell HRX.out (i := 0) (v := .slice none 0 0) rfl
      have d1 := blk_cell HRX.out (i := 1) (v := .slice none 0 0) rfl
      have g0 := blk_frozen HRX.out 0
      have g1 := blk_frozen HRX.out 1
      go_wp2
      clear c0 c1 d0 d1 g0 g1
      have B1 := blk_set (blk_set HRX.out 0 (.slice Av n cv)) 1 (.slice Nv (N) cn)
      have q0 := blk_cell B1 (i := 0) (v := .slice Av n cv) rfl
      have q1 := blk_cell B1 (i := 1) (v := .slice Nv (N) cn) rfl
      clear B1
      have HFIN := Lib.hid (game_done (w3 := w3.heap.size) (p0 := p) (x := .slice Av n cv) (y := .slice Nv (N) cn) HT2.out.rd HT2.out.a HT2.out.b HSMA.out HSMB.out HRS.out HT2.out.lm HNE.out HW0.out (by omega) rfl)
      refine bodyPost_ret (v := .agg #[.slice Av n cv, .slice Nv (N) cn]) (by simp [results, Try.results80, go_sem, q0, q1]) rfl ?_
      exact HFIN.out
  · by_cases ek1 : k = 1
    · subst ek1
      go_wp2
      go_loopw [7] (fun i wr => ∃ (ii q : Nat) (ya yb : List (List Int)), ii ≤ n ∧ i = .int .i64 ii ∧ q ≤ p5 + 1 + 3 * ii ∧ Hid (Shp n m ya) ∧ Hid (Shp n m yb) ∧ Hid (GO w0 w3 mid g A l c q Av n cv ga ya (.slice Bv n bv) vsb yb h wr)) (fun i _ => n - (intOf i).toNat)
      case atStart => exact ⟨0, p5 + 1, xa, xb, Nat.zero_le _, rfl, by omega, HSA, HSB, HG7⟩
      case round =>
        clear HG7 HSA HSB
        obtain ⟨ii, q, ya, yb, hii, rfl, hq, HSA, HSB, HG7⟩ := hrel
        by_cases hlt : ii < n
        · go_wp2
          go_loopw [8] (fun j wi => ∃ (jj q' : Nat) (za zb : List (List Int)), jj ≤ m ∧ j = .int .i64 jj ∧ q' ≤ p5 + 1 + 3 * ii + jj ∧ Hid (Shp n m za) ∧ Hid (Shp n m zb) ∧ Hid (GO w0 w3 mid g A l c q' Av n cv ga za (.slice Bv n bv) vsb zb h wi)) (fun j _ => m - (intOf j).toNat)
          case atStart => exact ⟨0, q, ya, yb, Nat.zero_le _, rfl, by omega, HSA, HSB, HG7⟩
          case round =>
            clear HG7 HSA HSB
            obtain ⟨jj, q', za, zb, hjj, rfl, hq', HSA, HSB, HG7⟩ := hrel
            by_cases hlj : jj < m
            · have HC := Lib.hid (pick_any w0 wr g A l c q' 5 HG7.out.rd (by omega))
              go_wp2_with fail
              refine HC.out.mono ?_
              rintro e w8 ⟨kk, rfl, hk1, _, hr, z, hw⟩
              have hone := Rdr.one (g := g) wr (.int .i64 (q' + 1 : Nat)) z
              rw [← hw] at hone
              obtain ⟨kk0, kk1⟩ := hk1 (by omega)
              have HG8 := Lib.hid (HG7.out.one hr hone)
              clear hr hone hw hk1 HC HG7
              have HRA := Lib.hid (HSA.out.row ii hlt)
              have HRBm := Lib.hid (HSB.out.row ii hlt)
              obtain ⟨oo, gg, r, cc, e, c1, ⟨y, hy⟩, hf, hset⟩ := HG8.out.setA (i := ii) (j := jj) (x := kk - 2 + (jj : Int)) hlt (by rw [HRA.out]; exact hlj) (by omega)
              subst e
              rw [HRA.out] at c1
              have c0 := blk_cell HG8.out.box (i := 0) (v := .slice (some ⟨ga, oo, none⟩) n cv) rfl
              have HG9 := Lib.hid hset
              have HSA2 := Lib.hid (HSA.out.set (i := ii) (j := jj) (x := kk - 2 + (jj : Int)) hlt (by omega))
              clear hset HG8
              have d0 := blk_cell HG9.out.box (i := 1) (v := .slice Bv n bv) rfl
              obtain ⟨bo, gg2, r2, cc2, e, c2, ⟨y2, hy2⟩, hf2, hset2⟩ := HG9.out.setB (i := ii) (j := jj) (x := kk - 2 - (ii : Int)) (by rw [HSB.out.len]; exact hlt) (by rw [HRBm.out]; exact hlj) (by omega)
              subst e
              rw [HRBm.out] at c2
              have HG10 := Lib.hid hset2
              have HSB2 := Lib.hid (HSB.out.set (i := ii) (j := jj) (x := kk - 2 - (ii : Int)) hlt (by omega))
              clear hset2 HG9
              go_wp2
              go_roundw
              case rel => exact ⟨jj + 1, q' + 1, _, _, by omega, by go_num, by omega, HSA2, HSB2, HG10⟩
              case measure => simp [intOf]; omega
            · go_wp2
              go_roundw
              case rel => exact ⟨ii + 1, q', za, zb, by omega, by go_num, by omega, HSA, HSB, HG7⟩
              case measure => simp [intOf]; omega
        · have HT := HG7
          have HSMA := Lib.hid HSA.out.sm
          have HSMB := Lib.hid HSB.out.sm
          have hl7 : n ≤ 3 := by omega
          have HBL := Lib.hid HSB.out.len
          clear HG7 HSA HSB
          have HC := Lib.hid (pick_any w0 wr g A l c (q) 40 HT.out.rd (by omega))
          go_wp2_with fail
          refine HC.out.mono ?_
          rintro e x1 ⟨kk, rfl, hk1, _, hr, z, hw⟩
          have hone := Rdr.one (g := g) wr (.int .i64 (q + 1 : Nat)) z
          rw [← hw] at hone
          obtain ⟨kk0, kk1⟩ := hk1 (by omega)
          have HT2 := Lib.hid (HT.out.one hr hone)
          have HRX := Lib.hid (show Blk x1 r0 54 #[.slice none 0 0, .slice none 0 0] from (HT2.out.up.block r0 HRS.out (fun e => HNE.out (by injection e with e; exact e.symm))).trans HRB.out)
          clear hr hone hw hk1 HC HT HRB
          by_cases e0 : kk = 0
          · subst e0
            have HTO := Lib.hid HT2.out.to
            have HI := Lib.hid (HTO.out.lit 0)
            have hWs : (x1.alloc (.cells #[iv 0] 3)).heap.size = x1.heap.size + 1 := by simp
            obtain ⟨Ar, nr, cr, gg, e, hn, ho, _⟩ := HI.out.bi.owns (by simp) (fun x hx => by simp at hx; omega)
            injection e with e1 e2 e3
            subst e1
            subst e2
            subst e3
            have HO := Lib.hid ho
            have hb := below_alloc (x1.alloc (.cells #[iv 0] 3)) (.cells #[.slice (some ⟨x1.heap.size, 0, none⟩) 1 1] 30)
            have HB4 := Lib.hid (HI.out.bo.below hb).own
            have HN := Lib.hid (cell_one_new (x1.alloc (.cells #[iv 0] 3)) (.slice (some ⟨x1.heap.size, 0, none⟩) 1 1) 30)
            have HNO := Lib.hid (box_ne_own HT2.out.box HTO.out.bo.own (by decide))
            have HBF := Lib.hid (blk_below (blk_below HT2.out.box (below_alloc x1 (.cells #[iv 0] 3))) (below_alloc _ (.cells #[.slice (some ⟨x1.heap.size, 0, none⟩) 1 1] 30)))
            have hHs := HI.out.hs
            have hlh := HI.out.lh
            have c1 := blk_cell HT2.out.box (i := 1) (v := .slice Bv n bv) rfl
            have HLB : Hid (yb.length = n) := Lib.hid HBL.out
            rw [HLB.out] at HB4
            clear hb ho hn
            go_wp2_with (at_builtin; refine wpList_append_own_at _ rfl _ _ 23 rfl (cutW x1 mid).heap.size 30 i0 (.slice none 0 0) 1 24 Try.underlying23 hi0 hz0 hz1 hz2 rfl (by decide) _ (n) vsb rfl HB4.out ⟨x1.heap.size + 1, 0, none⟩ 1 1 [.slice (some ⟨x1.heap.size, 0, none⟩) 1 1] rfl rfl ?d1 ?d2 ?d3 ?d4 ?d5 ?_)
            case d1 => have := HN.out; rw [hWs] at this; exact this
            case d2 => intro u hu; simp at hu; subst hu; rfl
            case d3 => unfold maxLen; omega
            case d4 => omega
            case d5 => simp; omega
            intro v' x2 hown' hgrow _ hat
            rw [← HLB.out] at hown'
            have HT5 := Lib.hid (TI.done (w := x1.alloc (.cells #[iv 0] 3)) (ys := [0]) (xss := yb) (v' := v') (vs := vsb) (Ar := some ⟨x1.heap.size, 0, none⟩) (cr := 1) HI.out HO.out hown' hgrow (by simpa using hat))
            have HBG := Lib.hid (show Blk x2 h 54 #[.slice Av n cv, .slice Bv (n) bv] from (hgrow.block h (blk_lt HBF.out) (fun e => HNO.out e.symm)).trans HBF.out)
            clear HB4 HN hown' hgrow hat HI HO HBF HNO HTO c1
            obtain ⟨Av2, cv2, rfl⟩ := HT5.out.bo.form
            have HS4 := Lib.hid (HSMB.out.snoc (x := 0) (by rw [HLB.out]; omega) (by omega))
            have hl8 : (yb ++ [[0]]).length ≤ 7 := by rw [List.length_append, HLB.out]; simp; omega
            generalize yb ++ [[0]] = zs at *
            have HSP := Lib.hid (spoilH_any w0 (cutW x1 mid) x2 h _ g A l c (q + 1) Av2 cv2 _ zs HT5.out (by omega) HS4.out hl8 HBG.out (box_slices _ _ _ _ _ _))
            clear HT5 HBG HS4
            go_wp2_with fail
            refine HSP.out.mono ?_
            rintro e x3 ⟨vv, vs3, xs3, p3, rfl, hsm3, hto3, hp3, hbx3⟩
            obtain ⟨Ab, nb, cb, gb, ev, -, hob⟩ := hto3.bo.owns (by have := hsm3.n; omega)
            subst ev
            have HSM3 := Lib.hid hsm3
            have HTO3 := Lib.hid hto3
            have HBX3 := Lib.hid hbx3
            have HMW := Lib.hid HT2.out.mw
            have HKE := Lib.hid (fun k (hk : k < mid) (hne : k ≠ g) => grown_cut hto3.up HT2.out.mw hk hne)
            have HA3 := Lib.hid (HT2.out.a.of_blocks (w' := x3) fun k h1 h2 _ => HKE.out k h2 (by have := HT2.out.gl; omega))
            have HR3 := Lib.hid (show Blk x3 r0 54 #[.slice none 0 0, .slice none 0 0] from (HKE.out r0 (by have := HRS.out; have := HT2.out.lm; omega) (Ne.symm HNE.out)).trans HRX.out)
            have HLM := Lib.hid HT2.out.lm
            clear hsm3 hto3 hbx3 hob HSP HT2 HRX
            have hneh : r0 ≠ h := by have := HRS.out; have := HLM.out; omega
            have c1 := blk_cell HBX3.out (i := 1) (v := .slice Bv (n) bv) rfl
            have f1 := blk_frozen HBX3.out 1
            have c0 := blk_cell HBX3.out (i := 0) (v := .slice Av n cv) rfl
            have d0 := blk_cell HR3.out (i := 0) (v := .slice none 0 0) rfl
            have d1 := blk_cell HR3.out (i := 1) (v := .slice none 0 0) rfl
            have g0 := blk_frozen HR3.out 0
            have g1 := blk_frozen HR3.out 1
            go_wp2
            clear c1 f1 c0 d0 d1 g0 g1
            have HBB := Lib.hid ((HTO3.out.bo.mono_lo (lo' := mid) (by rw [cutW_size HMW.out]; exact Nat.le_refl _)).set_box HBX3.out (box_slices _ _ _ _ _ _) 1 (.slice Ab nb cb))
            have hs1 : (x3.setCell ⟨h, 1, none⟩ (.slice Ab nb cb)).heap.size = x3.heap.size := by simp [World.setCell]
            have HAA := Lib.hid (HA3.out.of_blocks (w' := x3.setCell ⟨h, 1, none⟩ (.slice Ab nb cb)) fun k _ h2 _ => Below.heap_setCell _ _ _ _ (by show k ≠ h; omega))
            have HNH := Lib.hid (box_ne_box HBX3.out HTO3.out.rd.box (by decide))
            have HRR := Lib.hid (show Rdr w0 (x3.setCell ⟨h, 1, none⟩ (.slice Ab nb cb)) g A l c p3 from ⟨blk_other HTO3.out.rd.box (Ne.symm HNH.out) _, HTO3.out.rd.bytes, HTO3.out.rd.below.setCell (by show w0.heap.size ≤ h; have := HTO3.out.rd.lt; have := HTO3.out.gl; rw [cutW_size HMW.out] at this; omega) _, HTO3.out.rd.lt, HTO3.out.rd.small⟩)
            have HRZ := Lib.hid (blk_other HR3.out (p := ⟨h, 1, none⟩) hneh (.slice Ab nb cb))
            rw [← hs1] at HBB
            clear hs1 HA3 HTO3 HBX3 HR3
            have B1 := blk_set (blk_set HRZ.out 0 (.slice Av n cv)) 1 (.slice Ab nb cb)
            have q0 := blk_cell B1 (i := 0) (v := .slice Av n cv) rfl
            have q1 := blk_cell B1 (i := 1) (v := .slice Ab nb cb) rfl
            clear B1 HRZ
            generalize x3.setCell ⟨h, 1, none⟩ (.slice Ab nb cb) = X3 at *
            have HFIN := Lib.hid (game_done (w3 := w3.heap.size) (p0 := p) (x := .slice Av n cv) (y := .slice Ab nb cb) HRR.out HAA.out HBB.out HSMA.out HSM3.out HRS.out HLM.out HNE.out HW0.out (by omega) rfl)
            refine bodyPost_ret (v := .agg #[.slice Av n cv, .slice Ab nb cb]) (by simp [results, Try.results80, go_sem, q0, q1]) rfl ?_
            exact HFIN.out
          · have c0 := blk_cell HT2.out.box (i := 0) (v := .slice Av n cv) rfl
            have c1 := blk_cell HT2.out.box (i := 1) (v := .slice Bv (n) bv) rfl
            have d0 := blk_cell HRX.out (i := 0) (v := .slice none 0 0) rfl
            have d1 := blk_cell HRX.out (i := 1) (v := .slice none 0 0) rfl
            have g0 := blk_frozen HRX.out 0
            have g1 := blk_frozen HRX.out 1
            go_wp2
            clear c0 c1 d0 d1 g0 g1
            have B1 := blk_set (blk_set HRX.out 0 (.slice Av n cv)) 1 (.slice Bv (n) bv)
            have q0 := blk_cell B1 (i := 0) (v := .slice Av n cv) rfl
            have q1 := blk_cell B1 (i := 1) (v := .slice Bv (n) bv) rfl
            clear B1
            have HFIN := Lib.hid (game_done (w3 := w3.heap.size) (p0 := p) (x := .slice Av n cv) (y := .slice Bv (n) bv) HT2.out.rd HT2.out.a HT2.out.b HSMA.out HSMB.out HRS.out HT2.out.lm HNE.out HW0.out (by omega) rfl)
            refine bodyPost_ret (v := .agg #[.slice Av n cv, .slice Bv (n) bv]) (by simp [results, Try.results80, go_sem, q0, q1]) rfl ?_
            exact HFIN.out
    · have HT := HG7
      have HSMA := Lib.hid HSA.out.sm
      have HSMB := Lib.hid HSB.out.sm
      have hl7 : n ≤ 3 := by omega
      have HBL := Lib.hid HSB.out.len
      clear HG7 HSA HSB
      have HC := Lib.hid (pick_any w0 w7 g A l c (p5 + 1) 40 HT.out.rd (by omega))
      go_wp2_with fail
      refine HC.out.mono ?_
      rintro e x1 ⟨kk, rfl, hk1, _, hr, z, hw⟩
      have hone := Rdr.one (g := g) w7 (.int .i64 (p5 + 1 + 1 : Nat)) z
      rw [← hw] at hone
      obtain ⟨kk0, kk1⟩ := hk1 (by omega)
      have HT2 := Lib.hid (HT.out.one hr hone)
      have HRX := Lib.hid (show Blk x1 r0 54 #[.slice none 0 0, .slice none 0 0] from (HT2.out.up.block r0 HRS.out (fun e => HNE.out (by injection e with e; exact e.symm))).trans HRB.out)
      clear hr hone hw hk1 HC HT HRB
      by_cases e0 : kk = 0
      · subst e0
        have HTO := Lib.hid HT2.out.to
        have HI := Lib.hid (HTO.out.lit 0)
        have hWs : (x1.alloc (.cells #[iv 0] 3)).heap.size = x1.heap.size + 1 := by simp
        obtain ⟨Ar, nr, cr, gg, e, hn, ho, _⟩ := HI.out.bi.owns (by simp) (fun x hx => by simp at hx; omega)
        injection e with e1 e2 e3
        subst e1
        subst e2
        subst e3
        have HO := Lib.hid ho
        have hb := below_alloc (x1.alloc (.cells #[iv 0] 3)) (.cells #[.slice (some ⟨x1.heap.size, 0, none⟩) 1 1] 30)
        have HB4 := Lib.hid (HI.out.bo.below hb).own
        have HN := Lib.hid (cell_one_new (x1.alloc (.cells #[iv 0] 3)) (.slice (some ⟨x1.heap.size, 0, none⟩) 1 1) 30)
        have HNO := Lib.hid (box_ne_own HT2.out.box HTO.out.bo.own (by decide))
        have HBF := Lib.hid (blk_below (blk_below HT2.out.box (below_alloc x1 (.cells #[iv 0] 3))) (below_alloc _ (.cells #[.slice (some ⟨x1.heap.size, 0, none⟩) 1 1] 30)))
        have hHs := HI.out.hs
        have hlh := HI.out.lh
        have c1 := blk_cell HT2.out.box (i := 1) (v := .slice Bv n bv) rfl
        have HLB : Hid (xb.length = n) := Lib.hid HBL.out
        rw [HLB.out] at HB4
        clear hb ho hn
        go_wp2_with (at_builtin; refine wpList_append_own_at _ rfl _ _ 23 rfl (cutW x1 mid).heap.size 30 i0 (.slice none 0 0) 1 24 Try.underlying23 hi0 hz0 hz1 hz2 rfl (by decide) _ (n) vsb rfl HB4.out ⟨x1.heap.size + 1, 0, none⟩ 1 1 [.slice (some ⟨x1.heap.size, 0, none⟩) 1 1] rfl rfl ?d1 ?d2 ?d3 ?d4 ?d5 ?_)
        case d1 => have := HN.out; rw [hWs] at this; exact this
        case d2 => intro u hu; simp at hu; subst hu; rfl
        case d3 => unfold maxLen; omega
        case d4 => omega
        case d5 => simp; omega
        intro v' x2 hown' hgrow _ hat
        rw [← HLB.out] at hown'
        have HT5 := Lib.hid (TI.done (w := x1.alloc (.cells #[iv 0] 3)) (ys := [0]) (xss := xb) (v' := v') (vs := vsb) (Ar := some ⟨x1.heap.size, 0, none⟩) (cr := 1) HI.out HO.out hown' hgrow (by simpa using hat))
        have HBG := Lib.hid (show Blk x2 h 54 #[.slice Av n cv, .slice Bv (n) bv] from (hgrow.block h (blk_lt HBF.out) (fun e => HNO.out e.symm)).trans HBF.out)
        clear HB4 HN hown' hgrow hat HI HO HBF HNO HTO c1
        obtain ⟨Av2, cv2, rfl⟩ := HT5.out.bo.form
        have HS4 := Lib.hid (HSMB.out.snoc (x := 0) (by rw [HLB.out]; omega) (by omega))
        have hl8 : (xb ++ [[0]]).length ≤ 7 := by rw [List.length_append, HLB.out]; simp; omega
        generalize xb ++ [[0]] = zs at *
        have HSP := Lib.hid (spoilH_any w0 (cutW x1 mid) x2 h _ g A l c (p5 + 1 + 1) Av2 cv2 _ zs HT5.out (by omega) HS4.out hl8 HBG.out (box_slices _ _ _ _ _ _))
        clear HT5 HBG HS4
        go_wp2_with fail
        refine HSP.out.mono ?_
        rintro e x3 ⟨vv, vs3, xs3, p3, rfl, hsm3, hto3, hp3, hbx3⟩
        obtain ⟨Ab, nb, cb, gb, ev, -, hob⟩ := hto3.bo.owns (by have := hsm3.n; omega)
        subst ev
        have HSM3 := Lib.hid hsm3
        have HTO3 := Lib.hid hto3
        have HBX3 := Lib.hid hbx3
        have HMW := Lib.hid HT2.out.mw
        have HKE := Lib.hid (fun k (hk : k < mid) (hne : k ≠ g) => grown_cut hto3.up HT2.out.mw hk hne)
        have HA3 := Lib.hid (HT2.out.a.of_blocks (w' := x3) fun k h1 h2 _ => HKE.out k h2 (by have := HT2.out.gl; omega))
        have HR3 := Lib.hid (show Blk x3 r0 54 #[.slice none 0 0, .slice none 0 0] from (HKE.out r0 (by have := HRS.out; have := HT2.out.lm; omega) (Ne.symm HNE.out)).trans HRX.out)
        have HLM := Lib.hid HT2.out.lm
        clear hsm3 hto3 hbx3 hob HSP HT2 HRX
        have hneh : r0 ≠ h := by have := HRS.out; have := HLM.out; omega
        have c1 := blk_cell HBX3.out (i := 1) (v := .slice Bv (n) bv) rfl
        have f1 := blk_frozen HBX3.out 1
        have c0 := blk_cell HBX3.out (i := 0) (v := .slice Av n cv) rfl
        have d0 := blk_cell HR3.out (i := 0) (v := .slice none 0 0) rfl
        have d1 := blk_cell HR3.out (i := 1) (v := .slice none 0 0) rfl
        have g0 := blk_frozen HR3.out 0
        have g1 := blk_frozen HR3.out 1
        go_wp2
        clear c1 f1 c0 d0 d1 g0 g1
        have HBB := Lib.hid ((HTO3.out.bo.mono_lo (lo' := mid) (by rw [cutW_size HMW.out]; exact Nat.le_refl _)).set_box HBX3.out (box_slices _ _ _ _ _ _) 1 (.slice Ab nb cb))
        have hs1 : (x3.setCell ⟨h, 1, none⟩ (.slice Ab nb cb)).heap.size = x3.heap.size := by simp [World.setCell]
        have HAA := Lib.hid (HA3.out.of_blocks (w' := x3.setCell ⟨h, 1, none⟩ (.slice Ab nb cb)) fun k _ h2 _ => Below.heap_setCell _ _ _ _ (by show k ≠ h; omega))
        have HNH := Lib.hid (box_ne_box HBX3.out HTO3.out.rd.box (by decide))
        have HRR := Lib.hid (show Rdr w0 (x3.setCell ⟨h, 1, none⟩ (.slice Ab nb cb)) g A l c p3 from ⟨blk_other HTO3.out.rd.box (Ne.symm HNH.out) _, HTO3.out.rd.bytes, HTO3.out.rd.below.setCell (by show w0.heap.size ≤ h; have := HTO3.out.rd.lt; have := HTO3.out.gl; rw [cutW_size HMW.out] at this; omega) _, HTO3.out.rd.lt, HTO3.out.rd.small⟩)
        have HRZ := Lib.hid (blk_other HR3.out (p := ⟨h, 1, none⟩) hneh (.slice Ab nb cb))
        rw [← hs1] at HBB
        clear hs1 HA3 HTO3 HBX3 HR3
        have B1 := blk_set (blk_set HRZ.out 0 (.slice Av n cv)) 1 (.slice Ab nb cb)
        have q0 := blk_cell B1 (i := 0) (v := .slice Av n cv) rfl
        have q1 := blk_cell B1 (i := 1) (v := .slice Ab nb cb) rfl
        clear B1 HRZ
        generalize x3.setCell ⟨h, 1, none⟩ (.slice Ab nb cb) = X3 at *
        have HFIN := Lib.hid (game_done (w3 := w3.heap.size) (p0 := p) (x := .slice Av n cv) (y := .slice Ab nb cb) HRR.out HAA.out HBB.out HSMA.out HSM3.out HRS.out HLM.out HNE.out HW0.out (by omega) rfl)
        refine bodyPost_ret (v := .agg #[.slice Av n cv, .slice Ab nb cb]) (by simp [results, Try.results80, go_sem, q0, q1]) rfl ?_
        exact HFIN.out
      · have c0 := blk_cell HT2.out.box (i := 0) (v := .slice Av n cv) rfl
        have c1 := blk_cell HT2.out.box (i := 1) (v := .slice Bv (n) bv) rfl
        have d0 := blk_cell HRX.out (i := 0) (v := .slice none 0 0) rfl
        have d1 := blk_cell HRX.out (i := 1) (v := .slice none 0 0) rfl
        have g0 := blk_frozen HRX.out 0
        have g1 := blk_frozen HRX.out 1
        go_wp2
        clear c0 c1 d0 d1 g0 g1
        have B1 := blk_set (blk_set HRX.out 0 (.slice Av n cv)) 1 (.slice Bv (n) bv)
        have q0 := blk_cell B1 (i := 0) (v := .slice Av n cv) rfl
        have q1 := blk_cell B1 (i := 1) (v := .slice Bv (n) bv) rfl
        clear B1
        have HFIN := Lib.hid (game_done (w3 := w3.heap.size) (p0 := p) (x := .slice Av n cv) (y := .slice Bv (n) bv) HT2.out.rd HT2.out.a HT2.out.b HSMA.out HSMB.out HRS.out HT2.out.lm HNE.out HW0.out (by omega) rfl)
        refine bodyPost_ret (v := .agg #[.slice Av n cv, .slice Bv (n) bv]) (by simp [results, Try.results80, go_sem, q0, q1]) rfl ?_
        exact HFIN.out

end Go.Proofs.Ytjkmgpiiamffgaa

/- Games drawn from bytes. -/
namespace Go.Proofs.Ytjkmgpiiamffgaa
open Go.RowKit

/-- A game of small numbers, in memory of its own. -/
def DrawnG (w : World) (e : Ending) (w' : World) : Prop :=
  ∃ Aa na ca xa Ab nb cb xb, e = .returned (.agg #[.slice Aa na ca, .slice Ab nb cb]) ∧ Small xa ∧ Small xb ∧ IntRows w' Aa na ca xa ∧ IntRows w' Ab nb cb xb ∧ Below w.heap.size w w'
/-- A law's game: its box at h, and both tables. -/
structure GW (w : World) (h : Nat) (A : Option Addr) (n c : Nat) (xs : List (List Int)) (B : Option Addr) (m d : Nat) (ys : List (List Int)) (W : World) : Prop where
  below : Below w.heap.size w W
  box : Blk W h 54 #[.slice A n c, .slice B m d]
  ra : IntRows W A n c xs
  rb : IntRows W B m d ys
theorem GW.up {w h A n c xs B m d ys W W'} (o : GW w h A n c xs B m d ys W) (k : Below W.heap.size W W') : GW w h A n c xs B m d ys W' :=
  ⟨below_up o.below k, blk_below o.box k, o.ra.keep (Keep.below k), o.rb.keep (Keep.below k)⟩
theorem GW.start {w A n c xs B m d ys W} (hb : Below w.heap.size w W) (ra : IntRows W A n c xs) (rb : IntRows W B m d ys) : GW w W.heap.size A n c xs B m d ys (W.alloc (.cells #[.slice A n c, .slice B m d] 54)) :=
  ⟨below_up hb (below_alloc _ _), blk_new _ _ _, ra.keep (Keep.below (below_alloc _ _)), rb.keep (Keep.below (below_alloc _ _))⟩
theorem GW.cells {w h A n c xs B m d ys W} (o : GW w h A n c xs B m d ys W) : W.cell? ⟨h, 0, none⟩ = some (.slice A n c) ∧ W.cell? ⟨h, 1, none⟩ = some (.slice B m d) := ⟨blk_cell o.box rfl, blk_cell o.box rfl⟩






end Go.Proofs.Ytjkmgpiiamffgaa

/- Both players exchanged. -/
namespace Go.Proofs.Ytjkmgpiiamffgaa
open Go.RowKit

theorem VG.flip2 {a b : List (List Int)} (v : VG a b) : VG (flip b b.length (gr b 0).length) (flip a a.length (gr a 0).length) := by
  have h1 := v.tb.m1
  have h2 := v.ta.m1
  exact ⟨v.tb.flip, v.ta.flip, by rw [flip_len, flip_len]; exact v.m.symm, by rw [gr_flip h1, gr_flip h2]; simp; exact v.n.symm⟩

theorem g2_flip {a : List (List Int)} {n m i j : Nat} (hi : i < m) (hj : j < n) : g2 (flip a n m) i j = g2 a j i := by
  unfold g2
  rw [gr_flip hi, gi_col hj]
  rfl
theorem NR.flip {a b : List (List Int)} (v : VG a b) : NR (flip b b.length (gr b 0).length) (flip a a.length (gr a 0).length) ↔ NR a b := by
  have h1 := v.tb.m1
  have h2 := v.ta.m1
  have hn := v.n
  have hm := v.m
  have hl : (Go.Proofs.Ytjkmgpiiamffgaa.flip b b.length (gr b 0).length).length = (gr b 0).length := flip_len _ _ _
  have hl0 : (gr (Go.Proofs.Ytjkmgpiiamffgaa.flip b b.length (gr b 0).length) 0).length = b.length := by rw [gr_flip h1]; simp
  have hr : ∀ i k j l, i < (gr a 0).length → k < (gr a 0).length → j < a.length → l < a.length →
      rnd (Go.Proofs.Ytjkmgpiiamffgaa.flip b b.length (gr b 0).length) (Go.Proofs.Ytjkmgpiiamffgaa.flip a a.length (gr a 0).length) i k j l = rnd a b j l k i := fun i k j l hi hk hj hl => by
    unfold rnd
    rw [g2_flip (a := b) (by omega) (by omega), g2_flip (a := b) (by omega) (by omega), g2_flip (a := a) hk hl, g2_flip (a := a) hk hj, g2_flip (a := b) (by omega) (by omega), g2_flip (a := b) (by omega) (by omega), g2_flip (a := a) hi hj, g2_flip (a := a) hi hl]
    omega
  constructor
  · intro h
    refine ⟨v, fun i k j l hi hk hj hl' => ?_⟩
    have := h.no l j i k (by rw [hl]; omega) (by rw [hl]; omega) (by rw [hl0]; omega) (by rw [hl0]; omega)
    rw [hr l j i k hl' hj hi hk] at this
    exact this
  · intro h
    refine ⟨v.flip2, fun i k j l hi hk hj hl' => ?_⟩
    rw [hl] at hi hk
    rw [hl0] at hj hl'
    rw [hr i k j l (by omega) (by omega) (by omega) (by omega)]
    exact h.no j l k i (by omega) (by omega) (by omega) (by omega)
theorem NR.one {a b : List (List Int)} (v : VG a b) (h : a.length ≤ 1 ∨ (gr a 0).length ≤ 1) : NR a b := by
  refine ⟨v, fun i k j l hi hk hj hl => ?_⟩
  rcases h with h | h
  · obtain rfl : i = k := by omega
    unfold rnd; omega
  · obtain rfl : j = l := by omega
    unfold rnd; omega

/-- .. with the first row of the first table. -/
def GX (w : World) (h : Nat) (A : Option Addr) (n c : Nat) (xs : List (List Int)) (B : Option Addr) (m d : Nat) (ys : List (List Int)) (ba oa : Nat) (v : Value) (W : World) : Prop :=
  GW w h A n c xs B m d ys W ∧ W.cell? ⟨ba, oa, none⟩ = some v
theorem GX.up {w h A n c xs B m d ys ba oa v W W'} (o : GX w h A n c xs B m d ys ba oa v W) (k : Below W.heap.size W W') : GX w h A n c xs B m d ys ba oa v W' := ⟨o.1.up k, Keep.below k _ _ o.2⟩
theorem GX.cells {w h A n c xs B m d ys ba oa v W} (o : GX w h A n c xs B m d ys ba oa v W) : (W.cell? ⟨h, 0, none⟩ = some (.slice A n c) ∧ W.cell? ⟨h, 1, none⟩ = some (.slice B m d)) ∧ W.cell? ⟨ba, oa, none⟩ = some v := ⟨o.1.cells, o.2⟩
end Go.Proofs.Ytjkmgpiiamffgaa

/- Rests are where replies are none; rests with both players exchanged. -/
namespace Go.Proofs.Ytjkmgpiiamffgaa
open Go.RowKit

theorem brF_nil {pays : List Int} {now : Nat} (h : now < pays.length) : brF pays now = [] ↔ gi pays now = mxl pays := by
  constructor
  · intro e
    refine Classical.byContradiction fun hne => ?_
    obtain ⟨j, hj, e2⟩ := mx_at pays (pays.length - 1)
    have : (j : Int) ∈ brF pays now := brF_mem.2 ⟨hne, j, by omega, e2, rfl⟩
    rw [e] at this; simp at this
  · intro e; rw [brF, if_pos e]
theorem repL_nil {xs ys : List (List Int)} {n m i j : Nat} (hi : i < n) (hj : j < m) (hl : (gr ys i).length = m) : repL xs ys n i j = [] ↔ RestAt xs ys n m i j := by
  rw [RestAt_iff hi hj hl, repL, List.append_eq_nil_iff, flip_colOf hj]
  have e1 : mvA j (brF (colOf xs n j) i) = [] ↔ brF (colOf xs n j) i = [] := by simp [mvA]
  have e2 : mvB i (brF (gr ys i) j) = [] ↔ brF (gr ys i) j = [] := by simp [mvB]
  rw [e1, e2, brF_nil (by rw [colOf_len]; exact hi), brF_nil (by rw [hl]; exact hj), gi_colOf hi]
  exact Iff.rfl
theorem repF_in {xs ys : List (List Int)} {i j : Nat} (v : VG xs ys) (hi : i < xs.length) (hj : j < (gr xs 0).length) : repF xs ys i j = repL xs ys xs.length i j := by
  unfold repF
  rw [pb_true v, pb_true (p := Blw xs.length i) ⟨by omega, by omega⟩, pb_true (p := Blw (gr xs 0).length j) ⟨by omega, by omega⟩]
  simp
theorem repF_rest {xs ys : List (List Int)} {i j : Nat} (v : VG xs ys) (hi : i < xs.length) (hj : j < (gr xs 0).length) : repF xs ys i j = [] ↔ RestAt xs ys xs.length (gr xs 0).length i j := by
  rw [repF_in v hi hj]
  exact repL_nil hi hj (by rw [(v.tb.rows i (by rw [← v.n]; exact hi)).1, v.m])
theorem pureR_mem {xs ys : List (List Int)} {i j : Nat} (v : VG xs ys) (hi : i < xs.length) (hj : j < (gr xs 0).length) : [(i : Int), (j : Int)] ∈ pureR xs ys ↔ RestAt xs ys xs.length (gr xs 0).length i j := by
  rw [pureR, if_pos (pb_true v), allRests_mem]
  constructor
  · rintro ⟨k, l, _, _, e, h⟩
    injection e with e1 e2
    injection e2 with e2 _
    obtain rfl : i = k := by omega
    obtain rfl : j = l := by omega
    exact h
  · intro h; exact ⟨i, j, hi, hj, rfl, h⟩
theorem rest_flip {xs ys : List (List Int)} {n m i j : Nat} (hi : i < n) (hj : j < m) : RestAt (flip ys n m) (flip xs n m) m n j i ↔ RestAt xs ys n m i j := by
  unfold RestAt
  constructor
  · rintro ⟨h1, h2⟩
    refine ⟨fun k hk => ?_, fun k hk => ?_⟩
    · have := h2 k hk; rw [g2_flip hj hk, g2_flip hj hi] at this; exact this
    · have := h1 k hk; rw [g2_flip hk hi, g2_flip hj hi] at this; exact this
  · rintro ⟨h1, h2⟩
    refine ⟨fun k hk => ?_, fun k hk => ?_⟩
    · rw [g2_flip hk hi, g2_flip hj hi]; exact h2 k hk
    · rw [g2_flip hj hk, g2_flip hj hi]; exact h1 k hk
/-- How many of a row, of all. -/
noncomputable def cR (f : Nat → Nat → Prop) (i : Nat) : Nat → Nat
  | 0 => 0
  | j + 1 => cR f i j + if pb (f i j) = true then 1 else 0
noncomputable def cA (f : Nat → Nat → Prop) (m : Nat) : Nat → Nat
  | 0 => 0
  | i + 1 => cA f m i + cR f i m
theorem rowRests_cR (a b : List (List Int)) (n m i : Nat) : ∀ j, (rowRests a b n m i j).length = cR (fun i j => RestAt a b n m i j) i j
  | 0 => rfl
  | j + 1 => by rw [rowRests, List.length_append, rowRests_cR a b n m i j, cR]; split <;> simp
theorem allRests_cA (a b : List (List Int)) (n m : Nat) : ∀ i, (allRests a b n m i).length = cA (fun i j => RestAt a b n m i j) m i
  | 0 => rfl
  | i + 1 => by rw [allRests, List.length_append, allRests_cA a b n m i, rowRests_cR, cA]
theorem cA_zero (f : Nat → Nat → Prop) : ∀ i, cA f 0 i = 0
  | 0 => rfl
  | i + 1 => by rw [cA, cA_zero f i]; rfl
theorem cA_col (f : Nat → Nat → Prop) (m : Nat) : ∀ i, cA f (m + 1) i = cA f m i + cR (fun a b => f b a) m i
  | 0 => rfl
  | i + 1 => by rw [cA, cA_col f m i, cA, cR, cR]; omega
theorem cA_swap (f : Nat → Nat → Prop) (n : Nat) : ∀ m, cA f m n = cA (fun a b => f b a) n m
  | 0 => by rw [cA_zero]; rfl
  | m + 1 => by rw [cA_col, cA_swap f n m, cA]
theorem cR_congr {f g : Nat → Nat → Prop} {i : Nat} : ∀ {j : Nat}, (∀ l, l < j → (f i l ↔ g i l)) → cR f i j = cR g i j
  | 0, _ => rfl
  | j + 1, h => by rw [cR, cR, cR_congr (fun l hl => h l (by omega)), pb_congr (h j (by omega))]
theorem cA_congr {f g : Nat → Nat → Prop} {m : Nat} : ∀ {i : Nat}, (∀ k l, k < i → l < m → (f k l ↔ g k l)) → cA f m i = cA g m i
  | 0, _ => rfl
  | i + 1, h => by rw [cA, cA, cA_congr (fun k l hk hl => h k l (by omega) hl), cR_congr (fun l hl => h i l (by omega) hl)]
theorem pureR_flip_len {xs ys : List (List Int)} (v : VG xs ys) : (pureR (flip ys ys.length (gr ys 0).length) (flip xs xs.length (gr xs 0).length)).length = (pureR xs ys).length := by
  have v2 := v.flip2
  have hn := v.n
  have hm := v.m
  have h1 := v.tb.m1
  have hl : (flip ys ys.length (gr ys 0).length).length = (gr ys 0).length := flip_len _ _ _
  have hl0 : (gr (flip ys ys.length (gr ys 0).length) 0).length = ys.length := by rw [gr_flip h1]; simp
  rw [pureR, if_pos (pb_true v2), pureR, if_pos (pb_true v), hl, hl0, allRests_cA, allRests_cA, cA_swap]
  rw [← hn, ← hm]
  exact cA_congr fun k l hk hl => rest_flip hk hl
end Go.Proofs.Ytjkmgpiiamffgaa

/- A game and a pair drawn. -/
namespace Go.Proofs.Ytjkmgpiiamffgaa
open Go.RowKit

/-- A game of small numbers and a pair, in memory of its own. -/
def DrawnGP (w : World) (e : Ending) (w' : World) : Prop :=
  ∃ Aa na ca xa Ab nb cb xb i j, e = .returned (.tuple #[.agg #[.slice Aa na ca, .slice Ab nb cb], .int .i64 i, .int .i64 j]) ∧ Small xa ∧ Small xb ∧ (-1 ≤ i ∧ i ≤ 3) ∧ (0 ≤ j ∧ j ≤ 3) ∧ IntRows w' Aa na ca xa ∧ IntRows w' Ab nb cb xb ∧ Below w.heap.size w w'
theorem blk_one {w w' : World} {h g : Nat} {t : TypeId} {cs : Array Value} (b : Blk w h t cs) (k : One g w w') (hne : h ≠ g) : Blk w' h t cs := (k.block h hne).trans b
theorem Ints.one {w w' : World} {b o g n c : Nat} {xs : List Int} (h : Ints w (some ⟨b, o, none⟩) n c xs) (k : One g w w') (hne : b ≠ g) : Ints w' (some ⟨b, o, none⟩) n c xs :=
  ⟨h.len, h.cap, h.max, h.wf, fun h0 => by
    obtain ⟨b', o', e, hc⟩ := h.at_ h0
    injection e with e; injection e with e1 e2 _; subst e1; subst e2
    refine ⟨b, o, rfl, fun i hi => ?_⟩
    have := hc i hi
    simp only [World.cell?, k.block b hne] at this ⊢
    exact this⟩
/-- What the region keeps. -/
structure GY (wl wS : World) (g h2 h6 : Nat) (a b : Value) (W : World) : Prop where
  bw : Below wl.heap.size wl W
  kp : ∀ k, k < wS.heap.size → k ≠ g → k ≠ h2 → W.heap[k]? = wS.heap[k]?
  sz : wS.heap.size ≤ W.heap.size
  b6 : Blk W h6 54 #[a, b]
  g2 : h2 ≠ g
  g6 : h6 ≠ g
  n6 : h6 ≠ h2
  lo : wl.heap.size ≤ h2
  lg : wl.heap.size ≤ g
  gS : g < wS.heap.size
theorem GY.gt {wl wS g h2 h6 a b W} (h : GY wl wS g h2 h6 a b W) : g < W.heap.size := Nat.lt_of_lt_of_le h.gS h.sz
theorem GY.next {wl wS g h2 h6 a b W W'} (h : GY wl wS g h2 h6 a b W) (k : Below W.heap.size W W') : GY wl wS g h2 h6 a b W' :=
  ⟨below_up h.bw k, fun j h1 h3 h4 => (k.block j (by have := h.sz; omega)).trans (h.kp j h1 h3 h4), Nat.le_trans h.sz k.size, blk_below h.b6 k, h.g2, h.g6, h.n6, h.lo, h.lg, h.gS⟩
theorem GY.one {wl wS g h2 h6 a b W W'} (h : GY wl wS g h2 h6 a b W) (k : One g W W') : GY wl wS g h2 h6 a b W' :=
  ⟨One.below h.bw k h.lg, fun j h1 h3 h4 => (k.block j h3).trans (h.kp j h1 h3 h4), by rw [k.size]; exact h.sz, blk_one h.b6 k h.g6, h.g2, h.g6, h.n6, h.lo, h.lg, h.gS⟩
theorem GY.done {wl wS g h2 h6 a b W} (h : GY wl wS g h2 h6 a b W) (u v : Value) : GY wl wS g h2 h6 a b ((W.setCell ⟨h2, 0, none⟩ u).setCell ⟨h2, 1, none⟩ v) := by
  have keep : ∀ k, k ≠ h2 → ((W.setCell ⟨h2, 0, none⟩ u).setCell ⟨h2, 1, none⟩ v).heap[k]? = W.heap[k]? := fun k hk => (Below.heap_setCell _ _ _ _ hk).trans (Below.heap_setCell _ _ _ _ hk)
  exact ⟨(h.bw.setCell (p := ⟨h2, 0, none⟩) h.lo u).setCell (p := ⟨h2, 1, none⟩) h.lo v, fun j h1 h3 h4 => (keep j h4).trans (h.kp j h1 h3 h4), Nat.le_trans h.sz (Nat.le_of_eq (by simp [World.setCell])), (keep h6 h.n6).trans h.b6, h.g2, h.g6, h.n6, h.lo, h.lg, h.gS⟩
structure R3y (wl w0 wS : World) (g : Nat) (A : Option Addr) (l c p0 h2 h6 : Nat) (a b : Value) (L : Array Bool) (u11 u12 u13 u14 u15 u16 u17 u3 u4 : Value) (pp : Nat) (x4 : Int) (x7 : Int) (q13 : Nat) (q16 : Nat) (W : World) : Prop where
  sm : GY wl wS g h2 h6 a b W
  rd : On L 7 ∨ Rdr w0 W g A l c pp
  l7 : On L 7 → On L 6
  hp : On L 3 ∨ pp ≤ p0
  hp1 : On L 6 ∨ pp ≤ p0 + 1
  hp2 : pp ≤ p0 + 2
  z2 : On L 7 ∨ Blk W h2 54 #[.slice none 0 0, .slice none 0 0]
  h0 : On L 0 → u11 = .agg #[a, b]
  h1 : On L 1 → u12 = .pointer (some ⟨g, 0, none⟩)
  h2_ : On L 2 → On L 3 ∨ (u13 = .slice (some ⟨q13, 0, none⟩) 4 4 ∧ g < q13 ∧ Ints W (some ⟨q13, 0, none⟩) 4 4 [0, 1, 2, -1])
  h3 : On L 3 → u14 = .int .i64 x4 ∧ -1 ≤ x4 ∧ x4 ≤ 3
  h4 : On L 4 → u15 = .pointer (some ⟨g, 0, none⟩)
  h5 : On L 5 → On L 6 ∨ (u16 = .slice (some ⟨q16, 0, none⟩) 4 4 ∧ g < q16 ∧ Ints W (some ⟨q16, 0, none⟩) 4 4 [0, 1, 2, 3])
  h6_ : On L 6 → On L 3 ∧ u17 = .int .i64 x7 ∧ 0 ≤ x7 ∧ x7 ≤ 3
  h7 : On L 7 → Blk W h2 54 #[a, b]
  h8 : On L 8 → u3 = .int .i64 x4
  h9 : On L 9 → u4 = .int .i64 x7
  h83 : On L 8 → On L 3
  h96 : On L 9 → On L 6
theorem R3y.up {wl w0 wS g A l c p0 h2 h6 a b L u11 u12 u13 u14 u15 u16 u17 u3 u4 pp x4 x7 q13 q16 W W'} (Hy : R3y wl w0 wS g A l c p0 h2 h6 a b L u11 u12 u13 u14 u15 u16 u17 u3 u4 pp x4 x7 q13 q16 W) (k : Below W.heap.size W W') : R3y wl w0 wS g A l c p0 h2 h6 a b L u11 u12 u13 u14 u15 u16 u17 u3 u4 pp x4 x7 q13 q16 W' :=
  ⟨Hy.sm.next k, Hy.rd.imp id (fun a => a.below_ k), Hy.l7, Hy.hp, Hy.hp1, Hy.hp2, Hy.z2.imp id (fun a => blk_below a k), Hy.h0, Hy.h1, fun o => (Hy.h2_ o).imp id (fun ⟨a, b, d⟩ => ⟨a, b, d.keep (Keep.below k)⟩), Hy.h3, Hy.h4, fun o => (Hy.h5 o).imp id (fun ⟨a, b, d⟩ => ⟨a, b, d.keep (Keep.below k)⟩), Hy.h6_, fun o => blk_below (Hy.h7 o) k, Hy.h8, Hy.h9, Hy.h83, Hy.h96⟩

set_option maxRecDepth 100000 in
set_option maxHeartbeats 1600000 in
theorem DrawReplyMoves_any (A : Option Addr) (n c : Nat) (w : World) (h : Bytes w A n c) :
    Calls Try.prog 41 #[.slice A n c] w (DrawnGP w) := by
  have HB := Lib.hid (below_alloc w (.cells #[.slice none 0 0, .slice none 0 0] 54))
  have HK := Lib.hid (blk_new w 54 #[.slice none 0 0, .slice none 0 0])
  have H0 := Lib.hid (newReader_any A n c _ (h.keep (Keep.below (below_alloc w (.cells #[.slice none 0 0, .slice none 0 0] 54)))))
  clear h
  go_enter Try.func41, Try.ntmps41
  go_wp2_with fail
  have HZ : Hid (w.heap.size < (w.alloc (.cells #[.slice none 0 0, .slice none 0 0] 54)).heap.size) := Lib.hid (by simp)
  generalize w.alloc (.cells #[.slice none 0 0, .slice none 0 0] 54) = W0 at *
  refine H0.out.mono ?_
  rintro e w1 ⟨A1, l, c1, rfl, hl, hr, hs⟩
  have HS := Lib.hid (show W0.heap.size ≤ w1.heap.size by omega)
  have H1 := Lib.hid (someGame_any W0 w1 W0.heap.size A1 l c1 0 hr (by omega))
  clear hr hl hs H0
  go_wp2_with fail
  refine H1.out.mono ?_
  rintro e w2 ⟨Aa, na, ca, ga, ha, xa, Ab, nb, cb, gb, hb, xb, lo, p', rfl, sa, sb, hlo, oa, ob, rd, hp⟩
  have HSA := Lib.hid sa
  have HSB := Lib.hid sb
  have HOA := Lib.hid oa
  have HOB := Lib.hid ob
  have hgw : W0.heap.size < w2.heap.size := blk_lt rd.box
  have hwz := HZ.out
  have hws := HS.out
  have HK2 := Lib.hid (blk_below HK.out rd.below)
  have HGY := Lib.hid (GY.mk (wl := w) (wS := w2.alloc (.cells #[.slice Aa na ca, .slice Ab nb cb] 54)) (g := W0.heap.size) (h2 := w.heap.size) (below_up (below_up HB.out rd.below) (below_alloc w2 (.cells #[.slice Aa na ca, .slice Ab nb cb] 54))) (fun _ _ _ _ => rfl) (Nat.le_refl _) (blk_new w2 54 #[.slice Aa na ca, .slice Ab nb cb]) (by omega) (by omega) (by omega) (Nat.le_refl _) (by omega) (by simp; omega))
  have HRD := Lib.hid (rd.below_ (below_alloc w2 (.cells #[.slice Aa na ca, .slice Ab nb cb] 54)))
  have HBZ := Lib.hid (blk_below HK2.out (below_alloc w2 (.cells #[.slice Aa na ca, .slice Ab nb cb] 54)))
  have HOA2 := Lib.hid (HOA.out.below (below_alloc w2 (.cells #[.slice Aa na ca, .slice Ab nb cb] 54)))
  have HOB2 := Lib.hid (HOB.out.below (below_alloc w2 (.cells #[.slice Aa na ca, .slice Ab nb cb] 54)))
  clear sa sb oa ob rd H1 HOA HOB HK2 HK HB HZ HS
  go_wp2_with fail
  generalize w2.alloc (.cells #[.slice Aa na ca, .slice Ab nb cb] 54) = wS at *
  generalize w2.heap.size = h6 at *
  have HG9 := Lib.hid (show W0.heap.size = W0.heap.size from rfl)
  generalize hg9 : W0.heap.size = g9 at *
  clear HG9
  refine wp_region_invF (rs := [0, 1, 2, 3, 4, 5, 6, 7, 8, 9]) [11, 12, 13, 14, 15, 16, 17, 3, 4] (fun L us W => ∃ u11 u12 u13 u14 u15 u16 u17 u3 u4 pp x4 x7 q13 q16, us = [u11, u12, u13, u14, u15, u16, u17, u3, u4] ∧ R3y w W0 wS g9 A1 l c1 p' w.heap.size h6 (.slice Aa na ca) (.slice Ab nb cb) L u11 u12 u13 u14 u15 u16 u17 u3 u4 pp x4 x7 q13 q16 W) (by kernel_rfl) ?_ (by kernel_rfl) (by kernel_rfl) ?_ ?_
  · refine ⟨[undef, undef, undef, undef, undef, undef, undef, .int .i64 0, .int .i64 0], ?_, undef, undef, undef, undef, undef, undef, undef, .int .i64 0, .int .i64 0, p', 0, 0, 0, 0, rfl, ?_⟩
    · simp only [frmL, Act.put, List.setIfInBounds_toArray, List.set_cons_zero, List.set_cons_succ]
    exact ⟨HGY.out.next (Quiet.below ⟨1, rfl⟩), .inr (HRD.out.below_ (Quiet.below ⟨1, rfl⟩)), fun o => o.not_start.elim, .inr (Nat.le_refl _), .inr (by omega), by omega, .inr (blk_below HBZ.out (Quiet.below ⟨1, rfl⟩)), fun o => o.not_start.elim, fun o => o.not_start.elim, fun o => o.not_start.elim, fun o => o.not_start.elim, fun o => o.not_start.elim, fun o => o.not_start.elim, fun o => o.not_start.elim, fun o => o.not_start.elim, fun o => o.not_start.elim, fun o => o.not_start.elim, fun o => o.not_start.elim, fun o => o.not_start.elim⟩
  · refine StepsI.cons (i := 0) (ws := []) rfl (by kernel_rfl) (fun L a W hI hno hon hw K hK => ?_) ?_
    · obtain ⟨_, rfl, u11, u12, u13, u14, u15, u16, u17, u3, u4, pp, x4, x7, q13, q16, rfl, H⟩ := hI
      simp only [List.getElem_toArray, List.getElem_cons_zero]
      simp only [frmL, Act.put, List.setIfInBounds_toArray, List.set_cons_zero, List.set_cons_succ]
      have c0 := blk_cell H.sm.b6 (i := 0) rfl
      have c1 := blk_cell H.sm.b6 (i := 1) rfl
      go_simp
      have HN := H
      refine hK.out _ _ ⟨[.agg #[(.slice Aa na ca), (.slice Ab nb cb)], u12, u13, u14, u15, u16, u17, u3, u4], ?_, .agg #[(.slice Aa na ca), (.slice Ab nb cb)], u12, u13, u14, u15, u16, u17, u3, u4, pp, x4, x7, q13, q16, rfl, ?_⟩
      · simp only [frmL, Act.put, List.setIfInBounds_toArray, List.set_cons_zero, List.set_cons_succ]
      · exact ⟨HN.sm, HN.rd.imp On.old id, fun o => (HN.l7 (o.of_set (by decide))).old, HN.hp.imp On.old id, HN.hp1.imp On.old id, HN.hp2, HN.z2.imp On.old id, fun _ => rfl, fun o => HN.h1 (o.of_set (by decide)), fun o => (HN.h2_ (o.of_set (by decide))).imp On.old id, fun o => HN.h3 (o.of_set (by decide)), fun o => HN.h4 (o.of_set (by decide)), fun o => (HN.h5 (o.of_set (by decide))).imp On.old id, fun o => let ⟨a, b⟩ := HN.h6_ (o.of_set (by decide)); ⟨a.old, b⟩, fun o => HN.h7 (o.of_set (by decide)), fun o => HN.h8 (o.of_set (by decide)), fun o => HN.h9 (o.of_set (by decide)), fun o => (HN.h83 (o.of_set (by decide))).old, fun o => (HN.h96 (o.of_set (by decide))).old⟩
    refine StepsI.cons (i := 1) (ws := []) rfl (by kernel_rfl) (fun L a W hI hno hon hw K hK => ?_) ?_
    · obtain ⟨_, rfl, u11, u12, u13, u14, u15, u16, u17, u3, u4, pp, x4, x7, q13, q16, rfl, H⟩ := hI
      simp only [List.getElem_toArray, List.getElem_cons_zero, List.getElem_cons_succ]
      simp only [frmL, Act.put, List.setIfInBounds_toArray, List.set_cons_zero, List.set_cons_succ]
      go_simp
      have HN := H
      refine hK.out _ _ ⟨[u11, .pointer (some ⟨g9, 0, none⟩), u13, u14, u15, u16, u17, u3, u4], ?_, u11, .pointer (some ⟨g9, 0, none⟩), u13, u14, u15, u16, u17, u3, u4, pp, x4, x7, q13, q16, rfl, ?_⟩
      · simp only [frmL, Act.put, List.setIfInBounds_toArray, List.set_cons_zero, List.set_cons_succ]
      · exact ⟨HN.sm, HN.rd.imp On.old id, fun o => (HN.l7 (o.of_set (by decide))).old, HN.hp.imp On.old id, HN.hp1.imp On.old id, HN.hp2, HN.z2.imp On.old id, fun o => HN.h0 (o.of_set (by decide)), fun _ => rfl, fun o => (HN.h2_ (o.of_set (by decide))).imp On.old id, fun o => HN.h3 (o.of_set (by decide)), fun o => HN.h4 (o.of_set (by decide)), fun o => (HN.h5 (o.of_set (by decide))).imp On.old id, fun o => let ⟨a, b⟩ := HN.h6_ (o.of_set (by decide)); ⟨a.old, b⟩, fun o => HN.h7 (o.of_set (by decide)), fun o => HN.h8 (o.of_set (by decide)), fun o => HN.h9 (o.of_set (by decide)), fun o => (HN.h83 (o.of_set (by decide))).old, fun o => (HN.h96 (o.of_set (by decide))).old⟩
    refine StepsI.cons (i := 2) (ws := []) rfl (by kernel_rfl) (fun L a W hI hno hon hw K hK => ?_) ?_
    · obtain ⟨_, rfl, u11, u12, u13, u14, u15, u16, u17, u3, u4, pp, x4, x7, q13, q16, rfl, H⟩ := hI
      simp only [List.getElem_toArray, List.getElem_cons_zero, List.getElem_cons_succ]
      simp only [frmL, Act.put, List.setIfInBounds_toArray, List.set_cons_zero, List.set_cons_succ]
      go_simp
      have HN := H.up (below_alloc W (.cells #[.int .i64 0, .int .i64 1, .int .i64 2, .int .i64 (-1)] 3))
      refine hK.out _ _ ⟨[u11, u12, .slice (some ⟨W.heap.size, 0, none⟩) 4 4, u14, u15, u16, u17, u3, u4], ?_, u11, u12, .slice (some ⟨W.heap.size, 0, none⟩) 4 4, u14, u15, u16, u17, u3, u4, pp, x4, x7, W.heap.size, q16, rfl, ?_⟩
      · simp only [frmL, Act.put, List.setIfInBounds_toArray, List.set_cons_zero, List.set_cons_succ]
      · exact ⟨HN.sm, HN.rd.imp On.old id, fun o => (HN.l7 (o.of_set (by decide))).old, HN.hp.imp On.old id, HN.hp1.imp On.old id, HN.hp2, HN.z2.imp On.old id, fun o => HN.h0 (o.of_set (by decide)), fun o => HN.h1 (o.of_set (by decide)), fun _ => .inr ⟨rfl, H.sm.gt, Ints.lit W [0, 1, 2, -1] (by decide) (by decide)⟩, fun o => HN.h3 (o.of_set (by decide)), fun o => HN.h4 (o.of_set (by decide)), fun o => (HN.h5 (o.of_set (by decide))).imp On.old id, fun o => let ⟨a, b⟩ := HN.h6_ (o.of_set (by decide)); ⟨a.old, b⟩, fun o => HN.h7 (o.of_set (by decide)), fun o => HN.h8 (o.of_set (by decide)), fun o => HN.h9 (o.of_set (by decide)), fun o => (HN.h83 (o.of_set (by decide))).old, fun o => (HN.h96 (o.of_set (by decide))).old⟩
    refine StepsI.cons (i := 3) (ws := [1, 2]) rfl (by kernel_rfl) (fun L a W hI hno hon hw K hK => ?_) ?_
    · obtain ⟨_, rfl, u11, u12, u13, u14, u15, u16, u17, u3, u4, pp, x4, x7, q13, q16, rfl, H⟩ := hI
      simp only [List.getElem_toArray, List.getElem_cons_zero, List.getElem_cons_succ]
      obtain rfl := H.h1 (hw 1 (by simp))
      have H5 := (H.h2_ (hw 2 (by simp))).resolve_left hno
      have e5 := H5.1
      subst e5
      have hpp9 := H.hp.resolve_left hno
      have HRD := H.rd.resolve_left (fun o => hno (H.h6_ (H.l7 o)).1)
      simp only [frmL, Act.put, List.setIfInBounds_toArray, List.set_cons_zero, List.set_cons_succ]
      go_simp
      go_wp2_with (go_at_call 57; (with_reducible refine (one_any W0 W g9 A1 l c1 pp _ 4 4 [0, 1, 2, -1] HRD (by omega) H5.2.2 (by omega) (fun b o e => by injection e with e; injection e with e _ _; have := H5.2.1; omega)).mono ?_); rintro e w9 ⟨x9, rfl, hk1, hr, ho⟩; have HK1 := Lib.hid hk1; have HR := Lib.hid hr; have HO := Lib.hid ho; clear hk1 hr ho)
      have hx9 : -1 ≤ x9 ∧ x9 ≤ 3 := by have := HK1.out; simp at this; omega
      have HN := H
      refine hK.out _ _ ⟨[u11, .pointer (some ⟨g9, 0, none⟩), .slice (some ⟨q13, 0, none⟩) 4 4, .int .i64 x9, u15, u16, u17, u3, u4], ?_, u11, .pointer (some ⟨g9, 0, none⟩), .slice (some ⟨q13, 0, none⟩) 4 4, .int .i64 x9, u15, u16, u17, u3, u4, pp + 1, x9, x7, q13, q16, rfl, ?_⟩
      · simp only [frmL, Act.put, List.setIfInBounds_toArray, List.set_cons_zero, List.set_cons_succ]
      · exact ⟨H.sm.one HO.out, .inr HR.out, fun o => (HN.l7 (o.of_set (by decide))).old, .inl hon, .inr (by omega), by omega, H.z2.imp On.old (fun a => blk_one a HO.out H.sm.g2), fun o => HN.h0 (o.of_set (by decide)), fun o => HN.h1 (o.of_set (by decide)), fun _ => .inl hon, fun _ => ⟨rfl, hx9⟩, fun o => HN.h4 (o.of_set (by decide)), fun o => (H.h5 (o.of_set (by decide))).imp On.old (fun ⟨a, b, d⟩ => ⟨a, b, d.one HO.out (by omega)⟩), fun o => absurd (H.h6_ (o.of_set (by decide))).1 hno, fun o => blk_one (H.h7 (o.of_set (by decide))) HO.out H.sm.g2, fun o => absurd (H.h83 (o.of_set (by decide))) hno, fun o => HN.h9 (o.of_set (by decide)), fun o => (HN.h83 (o.of_set (by decide))).old, fun o => (HN.h96 (o.of_set (by decide))).old⟩
    refine StepsI.cons (i := 4) (ws := []) rfl (by kernel_rfl) (fun L a W hI hno hon hw K hK => ?_) ?_
    · obtain ⟨_, rfl, u11, u12, u13, u14, u15, u16, u17, u3, u4, pp, x4, x7, q13, q16, rfl, H⟩ := hI
      simp only [List.getElem_toArray, List.getElem_cons_zero, List.getElem_cons_succ]
      simp only [frmL, Act.put, List.setIfInBounds_toArray, List.set_cons_zero, List.set_cons_succ]
      go_simp
      have HN := H
      refine hK.out _ _ ⟨[u11, u12, u13, u14, .pointer (some ⟨g9, 0, none⟩), u16, u17, u3, u4], ?_, u11, u12, u13, u14, .pointer (some ⟨g9, 0, none⟩), u16, u17, u3, u4, pp, x4, x7, q13, q16, rfl, ?_⟩
      · simp only [frmL, Act.put, List.setIfInBounds_toArray, List.set_cons_zero, List.set_cons_succ]
      · exact ⟨HN.sm, HN.rd.imp On.old id, fun o => (HN.l7 (o.of_set (by decide))).old, HN.hp.imp On.old id, HN.hp1.imp On.old id, HN.hp2, HN.z2.imp On.old id, fun o => HN.h0 (o.of_set (by decide)), fun o => HN.h1 (o.of_set (by decide)), fun o => (HN.h2_ (o.of_set (by decide))).imp On.old id, fun o => HN.h3 (o.of_set (by decide)), fun _ => rfl, fun o => (HN.h5 (o.of_set (by decide))).imp On.old id, fun o => let ⟨a, b⟩ := HN.h6_ (o.of_set (by decide)); ⟨a.old, b⟩, fun o => HN.h7 (o.of_set (by decide)), fun o => HN.h8 (o.of_set (by decide)), fun o => HN.h9 (o.of_set (by decide)), fun o => (HN.h83 (o.of_set (by decide))).old, fun o => (HN.h96 (o.of_set (by decide))).old⟩
    refine StepsI.cons (i := 5) (ws := []) rfl (by kernel_rfl) (fun L a W hI hno hon hw K hK => ?_) ?_
    · obtain ⟨_, rfl, u11, u12, u13, u14, u15, u16, u17, u3, u4, pp, x4, x7, q13, q16, rfl, H⟩ := hI
      simp only [List.getElem_toArray, List.getElem_cons_zero, List.getElem_cons_succ]
      simp only [frmL, Act.put, List.setIfInBounds_toArray, List.set_cons_zero, List.set_cons_succ]
      go_simp
      have HN := H.up (below_alloc W (.cells #[.int .i64 0, .int .i64 1, .int .i64 2, .int .i64 3] 3))
      refine hK.out _ _ ⟨[u11, u12, u13, u14, u15, .slice (some ⟨W.heap.size, 0, none⟩) 4 4, u17, u3, u4], ?_, u11, u12, u13, u14, u15, .slice (some ⟨W.heap.size, 0, none⟩) 4 4, u17, u3, u4, pp, x4, x7, q13, W.heap.size, rfl, ?_⟩
      · simp only [frmL, Act.put, List.setIfInBounds_toArray, List.set_cons_zero, List.set_cons_succ]
      · exact ⟨HN.sm, HN.rd.imp On.old id, fun o => (HN.l7 (o.of_set (by decide))).old, HN.hp.imp On.old id, HN.hp1.imp On.old id, HN.hp2, HN.z2.imp On.old id, fun o => HN.h0 (o.of_set (by decide)), fun o => HN.h1 (o.of_set (by decide)), fun o => (HN.h2_ (o.of_set (by decide))).imp On.old id, fun o => HN.h3 (o.of_set (by decide)), fun o => HN.h4 (o.of_set (by decide)), fun _ => .inr ⟨rfl, H.sm.gt, Ints.lit W [0, 1, 2, 3] (by decide) (by decide)⟩, fun o => let ⟨a, b⟩ := HN.h6_ (o.of_set (by decide)); ⟨a.old, b⟩, fun o => HN.h7 (o.of_set (by decide)), fun o => HN.h8 (o.of_set (by decide)), fun o => HN.h9 (o.of_set (by decide)), fun o => (HN.h83 (o.of_set (by decide))).old, fun o => (HN.h96 (o.of_set (by decide))).old⟩
    refine StepsI.cons (i := 6) (ws := [4, 5, 3]) rfl (by kernel_rfl) (fun L a W hI hno hon hw K hK => ?_) ?_
    · obtain ⟨_, rfl, u11, u12, u13, u14, u15, u16, u17, u3, u4, pp, x4, x7, q13, q16, rfl, H⟩ := hI
      simp only [List.getElem_toArray, List.getElem_cons_zero, List.getElem_cons_succ]
      obtain rfl := H.h4 (hw 4 (by simp))
      have H5 := (H.h5 (hw 5 (by simp))).resolve_left hno
      have e5 := H5.1
      subst e5
      have hpp9 := H.hp1.resolve_left hno
      have HRD := H.rd.resolve_left (fun o => hno (H.l7 o))
      simp only [frmL, Act.put, List.setIfInBounds_toArray, List.set_cons_zero, List.set_cons_succ]
      go_simp
      go_wp2_with (go_at_call 57; (with_reducible refine (one_any W0 W g9 A1 l c1 pp _ 4 4 [0, 1, 2, 3] HRD (by omega) H5.2.2 (by omega) (fun b o e => by injection e with e; injection e with e _ _; have := H5.2.1; omega)).mono ?_); rintro e w9 ⟨x9, rfl, hk1, hr, ho⟩; have HK1 := Lib.hid hk1; have HR := Lib.hid hr; have HO := Lib.hid ho; clear hk1 hr ho)
      have hx9 : 0 ≤ x9 ∧ x9 ≤ 3 := by have := HK1.out; simp at this; omega
      have HN := H
      refine hK.out _ _ ⟨[u11, u12, u13, u14, .pointer (some ⟨g9, 0, none⟩), .slice (some ⟨q16, 0, none⟩) 4 4, .int .i64 x9, u3, u4], ?_, u11, u12, u13, u14, .pointer (some ⟨g9, 0, none⟩), .slice (some ⟨q16, 0, none⟩) 4 4, .int .i64 x9, u3, u4, pp + 1, x4, x9, q13, q16, rfl, ?_⟩
      · simp only [frmL, Act.put, List.setIfInBounds_toArray, List.set_cons_zero, List.set_cons_succ]
      · exact ⟨H.sm.one HO.out, .inr HR.out, fun o => (HN.l7 (o.of_set (by decide))).old, .inl (hw 3 (by simp)).old, .inl hon, by omega, H.z2.imp On.old (fun a => blk_one a HO.out H.sm.g2), fun o => HN.h0 (o.of_set (by decide)), fun o => HN.h1 (o.of_set (by decide)), fun o => .inl (hw 3 (by simp)).old, fun o => HN.h3 (o.of_set (by decide)), fun o => HN.h4 (o.of_set (by decide)), fun _ => .inl hon, fun _ => ⟨(hw 3 (by simp)).old, rfl, hx9⟩, fun o => blk_one (H.h7 (o.of_set (by decide))) HO.out H.sm.g2, fun o => HN.h8 (o.of_set (by decide)), fun o => absurd (H.h96 (o.of_set (by decide))) hno, fun o => (HN.h83 (o.of_set (by decide))).old, fun o => (HN.h96 (o.of_set (by decide))).old⟩
    refine StepsI.cons (i := 7) (ws := [0, 6, 0]) rfl (by kernel_rfl) (fun L a W hI hno hon hw K hK => ?_) ?_
    · obtain ⟨_, rfl, u11, u12, u13, u14, u15, u16, u17, u3, u4, pp, x4, x7, q13, q16, rfl, H⟩ := hI
      simp only [List.getElem_toArray, List.getElem_cons_zero, List.getElem_cons_succ]
      obtain rfl := H.h0 (hw 0 (by simp))
      have B0 := H.z2.resolve_left hno
      simp only [frmL, Act.put, List.setIfInBounds_toArray, List.set_cons_zero, List.set_cons_succ]
      have c0 := blk_cell B0 (i := 0) rfl
      have c1 := blk_cell B0 (i := 1) rfl
      have f0 := blk_frozen B0 0
      have f1 := blk_frozen B0 1
      go_simp
      have HN := H
      refine hK.out _ _ ⟨[.agg #[(.slice Aa na ca), (.slice Ab nb cb)], u12, u13, u14, u15, u16, u17, u3, u4], ?_, .agg #[(.slice Aa na ca), (.slice Ab nb cb)], u12, u13, u14, u15, u16, u17, u3, u4, pp, x4, x7, q13, q16, rfl, ?_⟩
      · simp only [frmL, Act.put, List.setIfInBounds_toArray, List.set_cons_zero, List.set_cons_succ]
      · exact ⟨H.sm.done (.slice Aa na ca) (.slice Ab nb cb), .inl hon, fun _ => (hw 6 (by simp)).old, HN.hp.imp On.old id, HN.hp1.imp On.old id, HN.hp2, .inl hon, fun o => HN.h0 (o.of_set (by decide)), fun o => HN.h1 (o.of_set (by decide)), fun o => .inl (H.h6_ (hw 6 (by simp))).1.old, fun o => HN.h3 (o.of_set (by decide)), fun o => HN.h4 (o.of_set (by decide)), fun _ => .inl (hw 6 (by simp)).old, fun o => let ⟨a, b⟩ := HN.h6_ (o.of_set (by decide)); ⟨a.old, b⟩, fun _ => blk_set (blk_set B0 0 (.slice Aa na ca)) 1 (.slice Ab nb cb), fun o => HN.h8 (o.of_set (by decide)), fun o => HN.h9 (o.of_set (by decide)), fun o => (HN.h83 (o.of_set (by decide))).old, fun o => (HN.h96 (o.of_set (by decide))).old⟩
    refine StepsI.cons (i := 8) (ws := [3, 7, 0, 1, 2, 3, 7]) rfl (by kernel_rfl) (fun L a W hI hno hon hw K hK => ?_) ?_
    · obtain ⟨_, rfl, u11, u12, u13, u14, u15, u16, u17, u3, u4, pp, x4, x7, q13, q16, rfl, H⟩ := hI
      simp only [List.getElem_toArray, List.getElem_cons_zero, List.getElem_cons_succ]
      obtain ⟨e3, _, _⟩ := H.h3 (hw 3 (by simp))
      subst e3
      simp only [frmL, Act.put, List.setIfInBounds_toArray, List.set_cons_zero, List.set_cons_succ]
      go_simp
      have HN := H
      refine hK.out _ _ ⟨[u11, u12, u13, .int .i64 x4, u15, u16, u17, .int .i64 x4, u4], ?_, u11, u12, u13, .int .i64 x4, u15, u16, u17, .int .i64 x4, u4, pp, x4, x7, q13, q16, rfl, ?_⟩
      · simp only [frmL, Act.put, List.setIfInBounds_toArray, List.set_cons_zero, List.set_cons_succ]
      · exact ⟨HN.sm, HN.rd.imp On.old id, fun o => (HN.l7 (o.of_set (by decide))).old, HN.hp.imp On.old id, HN.hp1.imp On.old id, HN.hp2, HN.z2.imp On.old id, fun o => HN.h0 (o.of_set (by decide)), fun o => HN.h1 (o.of_set (by decide)), fun o => (HN.h2_ (o.of_set (by decide))).imp On.old id, fun o => HN.h3 (o.of_set (by decide)), fun o => HN.h4 (o.of_set (by decide)), fun o => (HN.h5 (o.of_set (by decide))).imp On.old id, fun o => let ⟨a, b⟩ := HN.h6_ (o.of_set (by decide)); ⟨a.old, b⟩, fun o => HN.h7 (o.of_set (by decide)), fun _ => rfl, fun o => HN.h9 (o.of_set (by decide)), fun _ => (hw 3 (by simp)).old, fun o => (HN.h96 (o.of_set (by decide))).old⟩
    refine StepsI.cons (i := 9) (ws := [6, 8, 0, 1, 2, 3, 4, 5, 6, 7, 8]) rfl (by kernel_rfl) (fun L a W hI hno hon hw K hK => ?_) ?_
    · obtain ⟨_, rfl, u11, u12, u13, u14, u15, u16, u17, u3, u4, pp, x4, x7, q13, q16, rfl, H⟩ := hI
      simp only [List.getElem_toArray, List.getElem_cons_zero, List.getElem_cons_succ]
      obtain ⟨_, e6, _, _⟩ := H.h6_ (hw 6 (by simp))
      subst e6
      simp only [frmL, Act.put, List.setIfInBounds_toArray, List.set_cons_zero, List.set_cons_succ]
      go_simp
      have HN := H
      refine hK.out _ _ ⟨[u11, u12, u13, u14, u15, u16, .int .i64 x7, u3, .int .i64 x7], ?_, u11, u12, u13, u14, u15, u16, .int .i64 x7, u3, .int .i64 x7, pp, x4, x7, q13, q16, rfl, ?_⟩
      · simp only [frmL, Act.put, List.setIfInBounds_toArray, List.set_cons_zero, List.set_cons_succ]
      · exact ⟨HN.sm, HN.rd.imp On.old id, fun o => (HN.l7 (o.of_set (by decide))).old, HN.hp.imp On.old id, HN.hp1.imp On.old id, HN.hp2, HN.z2.imp On.old id, fun o => HN.h0 (o.of_set (by decide)), fun o => HN.h1 (o.of_set (by decide)), fun o => (HN.h2_ (o.of_set (by decide))).imp On.old id, fun o => HN.h3 (o.of_set (by decide)), fun o => HN.h4 (o.of_set (by decide)), fun o => (HN.h5 (o.of_set (by decide))).imp On.old id, fun o => let ⟨a, b⟩ := HN.h6_ (o.of_set (by decide)); ⟨a.old, b⟩, fun o => HN.h7 (o.of_set (by decide)), fun o => HN.h8 (o.of_set (by decide)), fun _ => rfl, fun o => (HN.h83 (o.of_set (by decide))).old, fun _ => (hw 6 (by simp)).old⟩
    exact StepsI.nil
  · rintro L us W hL ⟨u11, u12, u13, u14, u15, u16, u17, u3, u4, pp, x4, x7, q13, q16, rfl, H⟩
    have e3 := H.h8 (hL 8 (by simp))
    have e4 := H.h9 (hL 9 (by simp))
    subst e3
    subst e4
    have hx4 := (H.h3 (hL 3 (by simp))).2
    have hx7 := (H.h6_ (hL 6 (by simp))).2.2
    have B1 := H.h7 (hL 7 (by simp))
    have q0 := blk_cell B1 (i := 0) (v := .slice Aa na ca) rfl
    have q1 := blk_cell B1 (i := 1) (v := .slice Ab nb cb) rfl
    have HRA := Lib.hid (HOA2.out.of_blocks (w' := W) fun k h1 _ h3 => H.sm.kp k h3 (by omega) (by omega)).rows
    have HRB := Lib.hid (HOB2.out.of_blocks (w' := W) fun k h1 _ h3 => H.sm.kp k h3 (by omega) (by omega)).rows
    have HBX := Lib.hid H.sm.bw
    clear H HOA2 HOB2 HGY HRD HBZ hL B1
    simp only [frmL, Act.put, List.setIfInBounds_toArray, List.set_cons_zero, List.set_cons_succ]
    go_wp2
    refine bodyPost_ret (v := .tuple #[.agg #[.slice Aa na ca, .slice Ab nb cb], .int .i64 x4, .int .i64 x7]) (by simp [results, Try.results41, go_sem, q0, q1]) rfl ?_
    exact ⟨_, _, _, _, _, _, _, _, _, _, rfl, HSA.out, HSB.out, hx4, hx7, HRA.out, HRB.out, HBX.out⟩
end Go.Proofs.Ytjkmgpiiamffgaa

/- Pure rests, by the model. -/
namespace Go.Proofs.Ytjkmgpiiamffgaa
open Go.RowKit

theorem Try.info32_ : (Try.prog.info? 30).map (fun i => (i.zero, i.size, i.bytes)) = some (some (.slice none 0 0), 1, 24) := by kernel_rfl
end Go.Proofs.Ytjkmgpiiamffgaa

/- Best replies, and the pairs to which they lead, by the model. -/
namespace Go.Proofs.Ytjkmgpiiamffgaa
open Go.RowKit

/-- The greatest of a number and the first ones of a list. -/
def fm (b : Int) (xs : List Int) : Nat → Int
  | 0 => b
  | k + 1 => if fm b xs k < gi xs k then gi xs k else fm b xs k
theorem fm_ge (b : Int) (xs : List Int) : ∀ k, b ≤ fm b xs k ∧ ∀ j, j < k → gi xs j ≤ fm b xs k
  | 0 => ⟨Int.le_refl _, fun j h => by omega⟩
  | k + 1 => by
    have h := fm_ge b xs k
    simp only [fm]
    split
    · exact ⟨by omega, fun j hj => by
        by_cases hjk : j = k
        · subst hjk; omega
        · have := h.2 j (by omega); omega⟩
    · exact ⟨h.1, fun j hj => by
        by_cases hjk : j = k
        · subst hjk; omega
        · exact h.2 j (by omega)⟩
theorem fm_at (b : Int) (xs : List Int) : ∀ k, fm b xs k = b ∨ ∃ j, j < k ∧ gi xs j = fm b xs k
  | 0 => .inl rfl
  | k + 1 => by
    simp only [fm]
    split
    · exact .inr ⟨k, by omega, rfl⟩
    · rcases fm_at b xs k with h | ⟨j, hj, h⟩
      · exact .inl h
      · exact .inr ⟨j, by omega, h⟩
theorem fm_mxl {xs : List Int} {i : Nat} (h : i < xs.length) : fm (gi xs i) xs xs.length = mxl xs := by
  obtain ⟨j, hj, e⟩ : ∃ j, j < xs.length ∧ gi xs j = fm (gi xs i) xs xs.length := by
    rcases fm_at (gi xs i) xs xs.length with h1 | ⟨j, hj, e⟩
    · exact ⟨i, h, h1.symm⟩
    · exact ⟨j, hj, e⟩
  rw [← e, mxl_iff hj]
  intro k hk
  rw [e]
  exact (fm_ge _ _ _).2 k hk
theorem fm_bd {b lo hi : Int} {xs : List Int} (hb : lo ≤ b ∧ b ≤ hi) : ∀ k, (∀ j, j < k → lo ≤ gi xs j ∧ gi xs j ≤ hi) → lo ≤ fm b xs k ∧ fm b xs k ≤ hi
  | 0, _ => hb
  | k + 1, h => by
    have h1 := fm_bd hb k (fun j hj => h j (by omega))
    have h2 := h k (by omega)
    simp only [fm]; split <;> omega
/-- Which replies are best: the model asks both at once. -/
def brB (pays : List Int) (now : Nat) : Nat → Bool := fun k => decide (gi pays k = mxl pays) && decide (gi pays now < mxl pays)
theorem le_mxl {xs : List Int} {k : Nat} (h : k < xs.length) : gi xs k ≤ mxl xs := mx_ge xs (by omega)
theorem brB_sel {pays : List Int} {now : Nat} (h : now < pays.length) : selL (brB pays now) pays.length = brF pays now := by
  have h1 := le_mxl h
  unfold brF
  by_cases he : gi pays now = mxl pays
  · rw [if_pos he]
    have : selL (brB pays now) pays.length = selL (fun _ => false) pays.length := selL_congr fun k _ => by simp [brB, he]
    rw [this]; simp [selL]
  · rw [if_neg he]
    exact selL_congr fun k _ => by have : gi pays now < mxl pays := by omega
                                   simp [brB, atB, this]
theorem mvA_yes {j k : Nat} {f : Nat → Bool} (h : f k = true) : mvA j (selL f (k + 1)) = mvA j (selL f k) ++ [[(k : Int), (j : Int)]] := by rw [selL_yes h, mvA, mvA, List.map_append]; rfl
theorem mvB_yes {j k : Nat} {f : Nat → Bool} (h : f k = true) : mvB j (selL f (k + 1)) = mvB j (selL f k) ++ [[(j : Int), (k : Int)]] := by rw [selL_yes h, mvB, mvB, List.map_append]; rfl
/-- What the loops know. -/
structure RQ9 (p : GP) (w w1 : World) (v : Value) (vs : List Value) (acc xs ys : List (List Int)) (wr : World) : Prop where
  tm : TM w1 v vs acc wr
  gt : GT p w w1 w.heap.size xs ys
theorem RQ9.gr_ {p w w1 v vs acc xs ys wr} (h : RQ9 p w w1 v vs acc xs ys wr) : GT p w wr w.heap.size xs ys := h.gt.up h.tm.up

set_option maxRecDepth 100000 in
set_option maxHeartbeats 6400000 in
theorem replies_any (p : GP) (i j : Nat) (xs ys : List (List Int)) (w : World) (hg : GV p w xs ys) (hi : i < p.n) (hj : j < p.m) :
    Calls Try.prog 86 #[.agg #[.slice (some ⟨p.ba, p.oa, none⟩) p.n p.c, .slice (some ⟨p.bb, p.ob, none⟩) p.n p.d], .int .i64 i, .int .i64 j] w (NewT w (repL xs ys p.n i j)) := by
  have HT := Lib.hid (GT.start hg)
  have hn3 := hg.tx.n3
  have hm3 := hg.tx.m3
  have hn1 := hg.tx.n1
  have hm1 := hg.tx.m1
  have HLY := Lib.hid (show (gr ys i).length = p.m from (hg.ty.ints i hi).len)
  have HBA := Lib.hid (fun k (hk : k < p.n) => show -9 ≤ gi (colOf xs p.n j) k ∧ gi (colOf xs p.n j) k ≤ 9 by rw [gi_colOf hk]; exact hg.tx.bd k j hk hj)
  have HBB := Lib.hid (fun k (hk : k < p.m) => show -9 ≤ gi (gr ys i) k ∧ gi (gr ys i) k ≤ 9 from hg.ty.bd i k hi hk)
  have HMA := Lib.hid (show fm (gi (colOf xs p.n j) i) (colOf xs p.n j) p.n = mxl (colOf xs p.n j) by have h := fm_mxl (xs := colOf xs p.n j) (i := i) (by rw [colOf_len]; exact hi); rw [colOf_len] at h; exact h)
  have HMB := Lib.hid (show fm (gi (gr ys i) j) (gr ys i) p.m = mxl (gr ys i) by have h := fm_mxl (xs := gr ys i) (i := j) (by rw [HLY.out]; exact hj); rw [HLY.out] at h; exact h)
  have HSA := Lib.hid (show mvA j (selL (brB (colOf xs p.n j) i) p.n) = mvA j (brF (colOf xs p.n j) i) by have h := brB_sel (pays := colOf xs p.n j) (now := i) (by rw [colOf_len]; exact hi); rw [colOf_len] at h; rw [h])
  have HSB := Lib.hid (show mvB i (selL (brB (gr ys i) j) p.m) = mvB i (brF (gr ys i) j) by have h := brB_sel (pays := gr ys i) (now := j) (by rw [HLY.out]; exact hj); rw [HLY.out] at h; rw [h])
  have HA0 := Lib.hid (gi_colOf (xs := xs) (j := j) hi)
  clear hg
  go_enter Try.func86, Try.ntmps86
  have hw1 : w.heap.size < (w.alloc (.cells #[.slice (some ⟨p.ba, p.oa, none⟩) p.n p.c, .slice (some ⟨p.bb, p.ob, none⟩) p.n p.d] 54)).heap.size := by simp
  have HTM := Lib.hid (TM.start (w.alloc (.cells #[.slice (some ⟨p.ba, p.oa, none⟩) p.n p.c, .slice (some ⟨p.bb, p.ob, none⟩) p.n p.d] 54)))
  have HT1 := Lib.hid (HT.out.up (below_alloc _ (.cells #[] 30)))
  have k0 := HT1.out.c0
  have r0 := HT1.out.gv.tx.row i hi
  have c0 := HT1.out.gv.tx.cell i j hi hj
  rw [← HA0.out] at c0
  go_wp2
  clear k0 r0 c0
  have hwz : (w.alloc (.cells #[.slice (some ⟨p.ba, p.oa, none⟩) p.n p.c, .slice (some ⟨p.bb, p.ob, none⟩) p.n p.d] 54)).heap.size = w.heap.size + 1 := by simp
  simp only [hwz] at HTM
  generalize w.alloc (.cells #[.slice (some ⟨p.ba, p.oa, none⟩) p.n p.c, .slice (some ⟨p.bb, p.ob, none⟩) p.n p.d] 54) = w1 at *
  clear hwz hw1
  generalize hcol : colOf xs p.n j = col at *
  have HCOL := Lib.hid hcol
  clear hcol HT1
  generalize hv0 : (Value.slice (some (Addr.mk (w.heap.size + 1) 0 none)) 0 0) = v0 at *
  obtain ⟨w2, hw2⟩ : ∃ w2, w2 = w1.alloc (.cells #[] 30) := ⟨_, rfl⟩
  rw [← hw2] at HTM ⊢
  have HQ0 := Lib.hid (RQ9.mk (p := p) HTM.out HT.out)
  clear HTM HT hw2 hv0
  have hb0 := HBA.out i hi
  go_loopw [8, 9] (fun b s wr => ∃ (k : Nat), k ≤ p.n ∧ s = .int .i64 k ∧ b = .int .i64 (fm (gi col i) col k) ∧ wr = w2) (fun _ s _ => p.n - (intOf s).toNat)
  case atStart => exact ⟨0, Nat.zero_le _, rfl, rfl, rfl⟩
  case round =>
    obtain ⟨k, hk, rfl, rfl, rfl⟩ := hrel
    have k0 := HQ0.out.gr_.c0
    by_cases hkn : k < p.n
    · have r1 := HQ0.out.gr_.gv.tx.row k hkn
      have c1 := HQ0.out.gr_.gv.tx.cell k j hkn hj
      rw [← gi_colOf (n := p.n) hkn, HCOL.out] at c1
      have b1 := fm_bd hb0 k (fun q hq => HBA.out q (by omega))
      have b2 := HBA.out k hkn
      have HF : Hid (fm (gi col i) col (k + 1) = if fm (gi col i) col k < gi col k then gi col k else fm (gi col i) col k) := Lib.hid rfl
      generalize fm (gi col i) col k = f at *
      generalize gi col k = g at *
      go_wp2
      go_roundw
      case rel => exact ⟨k + 1, by omega, by go_num, congrArg (Value.int .i64) (by rw [HF.out]), by first | exact rfl | trivial⟩
      case measure => simp [intOf]; omega
    · obtain rfl : k = p.n := by omega
      rw [HMA.out]
      have bm : -9 ≤ mxl col ∧ mxl col ≤ 9 := by rw [← HMA.out]; exact fm_bd hb0 _ HBA.out
      go_wp2
      clear k0
      go_loopw [7, 10] (fun v s wr => ∃ (k : Nat) (vs : List Value), k ≤ p.n ∧ s = .int .i64 k ∧ Hid (RQ9 p w w1 v vs (mvA j (selL (brB col i) k)) xs ys wr)) (fun _ s _ => p.n - (intOf s).toNat)
      case atStart => exact ⟨0, [], Nat.zero_le _, rfl, HQ0⟩
      case round =>
        clear HQ0
        obtain ⟨k, vs, hk, rfl, HQ⟩ := hrel
        obtain ⟨Av, cv, rfl⟩ := HQ.out.tm.bo.form
        have k0 := HQ.out.gr_.c0
        have k1 := HQ.out.gr_.c1
        by_cases hkn : k < p.n
        · have r1 := HQ.out.gr_.gv.tx.row k hkn
          have r2 := HQ.out.gr_.gv.tx.row i hi
          have c1 := HQ.out.gr_.gv.tx.cell k j hkn hj
          have c2 := HQ.out.gr_.gv.tx.cell i j hi hj
          rw [← gi_colOf (n := p.n) hkn, HCOL.out] at c1
          rw [← HA0.out] at c2
          by_cases hm : gi col k = mxl col
          · have hm' : (gi col k == mxl col) = true := by simp [hm]
            by_cases hl : gi col i < mxl col
            · have HCS := Lib.hid (mvA_yes (j := j) (f := brB col i) (k := k) (by simp [brB, hm, hl]))
              have HLA := Lib.hid (show (mvA j (selL (brB col i) k)).length ≤ 3 by rw [mvA_len]; have := selL_len (brB col i) k; omega)
              have HRT := Lib.hid HQ.out.tm
              clear hm
              generalize mvA j (selL (brB col i) k) = acc at *
              generalize gi col k = g at *
              have hb3 := below_alloc wr (.cells #[.int .i64 k, .int .i64 j] 3)
              have hb4 := below_alloc (wr.alloc (.cells #[.int .i64 k, .int .i64 j] 3)) (.cells #[.slice (some ⟨wr.heap.size, 0, none⟩) 2 2] 30)
              have HB4 := Lib.hid ((HRT.out.bo.below hb3).below hb4).own
              have HN := Lib.hid (cell_one_new (wr.alloc (.cells #[.int .i64 k, .int .i64 j] 3)) (.slice (some ⟨wr.heap.size, 0, none⟩) 2 2) 30)
              have HPO := Lib.hid (pair_own (lo := wr.heap.size) (w := wr) k j (by omega) (by omega) (Nat.le_refl _))
              have hlh : w1.heap.size ≤ wr.heap.size := HRT.out.up.size
              clear hb3 hb4
              obtain ⟨i0, hi0, hz0, hz1, hz2⟩ := info_parts Try.info_row9
              go_wp2_with (at_builtin; refine wpList_append_own_at _ rfl _ _ 23 rfl w1.heap.size 30 i0 (.slice none 0 0) 1 24 Try.underlying23 hi0 hz0 hz1 hz2 rfl (by decide) _ (acc).length vs rfl HB4.out ⟨wr.heap.size + 1, 0, none⟩ 1 1 [.slice (some ⟨wr.heap.size, 0, none⟩) 2 2] rfl rfl ?c1 ?c2 ?c3 ?c4 ?c5 ?_)
              case c1 => have h := HN.out; rw [World.size_alloc] at h; exact h
              case c2 => intro u hu; simp at hu; subst hu; rfl
              case c3 => have := HLA.out; unfold maxLen; omega
              case c4 => have := HLA.out; omega
              case c5 => simp; omega
              intro v' w5 hown' hgrow _ hat
              have hgrow2 : ((wr.alloc (.cells #[.int .i64 k, .int .i64 j] 3)).alloc (.cells #[.slice (some ⟨wr.heap.size, 0, none⟩) 2 2] 30)).grownBy w5 (Value.slice Av (acc).length cv).ownBlock := hgrow
              have hat2 : v'.ownBlock = (Value.slice Av (acc).length cv).ownBlock ∨ v'.ownBlock = some ((wr.alloc (.cells #[.int .i64 k, .int .i64 j] 3)).heap.size + 1) := by simpa using hat
              have HQ5 := Lib.hid (RQ9.mk (p := p) (HQ.out.tm.push (r := [(k : Int), (j : Int)]) (below_alloc wr (.cells #[.int .i64 k, .int .i64 j] 3)) (HPO.out.mono (Nat.le_refl _) (by simp)) hown' hgrow2 hat2) HQ.out.gt)
              clear HB4 HN HPO hown' hgrow hat hgrow2 hat2 HLA
              clear HQ HRT c1 c2 r1 r2 k0 k1
              go_wp2
              go_roundw
              case rel => exact ⟨k + 1, _, by omega, by go_num, Lib.hid (by rw [HCS.out]; exact HQ5.out)⟩
              case measure => simp [intOf]; omega
            · have HCS := Lib.hid (show mvA j (selL (brB col i) (k + 1)) = mvA j (selL (brB col i) k) by rw [selL_no (by simp [brB, hl])])
              go_wp2
              go_roundw
              case rel => exact ⟨k + 1, vs, by omega, by go_num, Lib.hid (by rw [HCS.out]; exact HQ.out)⟩
              case measure => simp [intOf]; omega
          · have hm' : (gi col k == mxl col) = false := by simp [hm]
            have HCS := Lib.hid (show mvA j (selL (brB col i) (k + 1)) = mvA j (selL (brB col i) k) by rw [selL_no (by simp [brB, hm])])
            clear hm
            go_wp2
            go_roundw
            case rel => exact ⟨k + 1, vs, by omega, by go_num, Lib.hid (by rw [HCS.out]; exact HQ.out)⟩
            case measure => simp [intOf]; omega
        · obtain rfl : k = p.n := by omega
          have r2 := HQ.out.gr_.gv.ty.row i hi
          have c2 := HQ.out.gr_.gv.ty.cell i j hi hj
          have hb1 := HBB.out j hj
          have HLA1 := Lib.hid (show (mvA j (selL (brB col i) p.n)).length ≤ 3 by rw [mvA_len]; have := selL_len (brB col i) p.n; omega)
          generalize hac0 : mvA j (selL (brB col i) p.n) = ac0 at *
          have HAC0 := Lib.hid hac0
          clear hac0
          simp only [show g2 ys i j = gi (gr ys i) j from rfl] at c2
          generalize hrow : gr ys i = row at *
          have HROW := Lib.hid hrow
          clear hrow
          go_wp2
          clear k0 k1 r2 c2
          obtain ⟨w3, hw3⟩ : ∃ w3, w3 = wr := ⟨_, rfl⟩
          rw [← hw3] at HQ ⊢
          clear hw3
          go_loopw [8, 11] (fun b s wr => ∃ (k : Nat), k ≤ p.m ∧ s = .int .i64 k ∧ b = .int .i64 (fm (gi row j) row k) ∧ wr = w3) (fun _ s _ => p.m - (intOf s).toNat)
          case atStart => exact ⟨0, Nat.zero_le _, rfl, rfl, rfl⟩
          case round =>
            obtain ⟨k, hk, rfl, rfl, rfl⟩ := hrel
            have k1 := HQ.out.gr_.c1
            have r0 := HQ.out.gr_.gv.ty.row 0 hn1
            simp only [Nat.add_zero] at r0
            by_cases hkm : k < p.m
            · have r1 := HQ.out.gr_.gv.ty.row i hi
              have c1 := HQ.out.gr_.gv.ty.cell i k hi hkm
              rw [show g2 ys i k = gi row k by rw [← HROW.out]; rfl] at c1
              have b1 := fm_bd hb1 k (fun q hq => HBB.out q (by omega))
              have b2 := HBB.out k hkm
              have HF : Hid (fm (gi row j) row (k + 1) = if fm (gi row j) row k < gi row k then gi row k else fm (gi row j) row k) := Lib.hid rfl
              generalize fm (gi row j) row k = f at *
              generalize gi row k = g at *
              go_wp2
              go_roundw
              case rel => exact ⟨k + 1, by omega, by go_num, congrArg (Value.int .i64) (by rw [HF.out]), by first | exact rfl | trivial⟩
              case measure => simp [intOf]; omega
            · obtain rfl : k = p.m := by omega
              rw [HMB.out]
              have bm2 : -9 ≤ mxl row ∧ mxl row ≤ 9 := by rw [← HMB.out]; exact fm_bd hb1 _ HBB.out
              go_wp2
              clear k1 r0
              go_loopw [7, 12] (fun v s wr => ∃ (k : Nat) (vs : List Value), k ≤ p.m ∧ s = .int .i64 k ∧ Hid (RQ9 p w w1 v vs (ac0 ++ mvB i (selL (brB row j) k)) xs ys wr)) (fun _ s _ => p.m - (intOf s).toNat)
              case atStart => exact ⟨0, vs, Nat.zero_le _, rfl, Lib.hid (by simpa [mvB, selL] using HQ.out)⟩
              case round =>
                clear HQ vs
                obtain ⟨k, vs, hk, rfl, HQ⟩ := hrel
                obtain ⟨Av, cv, rfl⟩ := HQ.out.tm.bo.form
                have k1 := HQ.out.gr_.c1
                have r0 := HQ.out.gr_.gv.ty.row 0 hn1
                simp only [Nat.add_zero] at r0
                by_cases hkm : k < p.m
                · have r1 := HQ.out.gr_.gv.ty.row i hi
                  have c1 := HQ.out.gr_.gv.ty.cell i k hi hkm
                  have c2 := HQ.out.gr_.gv.ty.cell i j hi hj
                  rw [show g2 ys i k = gi row k by rw [← HROW.out]; rfl] at c1
                  rw [show g2 ys i j = gi row j by rw [← HROW.out]; rfl] at c2
                  by_cases hm : gi row k = mxl row
                  · have hm' : (gi row k == mxl row) = true := by simp [hm]
                    by_cases hl : gi row j < mxl row
                    · have HCS := Lib.hid (mvB_yes (j := i) (f := brB row j) (k := k) (by simp [brB, hm, hl]))
                      have HLA := Lib.hid (show (ac0 ++ mvB i (selL (brB row j) k)).length ≤ 6 by rw [List.length_append, mvB_len]; have := selL_len (brB row j) k; have := HLA1.out; omega)
                      have HRT := Lib.hid HQ.out.tm
                      clear hm
                      generalize hpart : mvB i (selL (brB row j) k) = part at *
                      clear hpart
                      generalize hacc : ac0 ++ part = acc at *
                      have HACC := Lib.hid hacc
                      clear hacc
                      generalize gi row k = g at *
                      have hb3 := below_alloc wr (.cells #[.int .i64 i, .int .i64 k] 3)
                      have hb4 := below_alloc (wr.alloc (.cells #[.int .i64 i, .int .i64 k] 3)) (.cells #[.slice (some ⟨wr.heap.size, 0, none⟩) 2 2] 30)
                      have HB4 := Lib.hid ((HRT.out.bo.below hb3).below hb4).own
                      have HN := Lib.hid (cell_one_new (wr.alloc (.cells #[.int .i64 i, .int .i64 k] 3)) (.slice (some ⟨wr.heap.size, 0, none⟩) 2 2) 30)
                      have HPO := Lib.hid (pair_own (lo := wr.heap.size) (w := wr) i k (by omega) (by omega) (Nat.le_refl _))
                      have hlh : w1.heap.size ≤ wr.heap.size := HRT.out.up.size
                      clear hb3 hb4
                      obtain ⟨i0, hi0, hz0, hz1, hz2⟩ := info_parts Try.info_row9
                      go_wp2_with (at_builtin; refine wpList_append_own_at _ rfl _ _ 23 rfl w1.heap.size 30 i0 (.slice none 0 0) 1 24 Try.underlying23 hi0 hz0 hz1 hz2 rfl (by decide) _ (acc).length vs rfl HB4.out ⟨wr.heap.size + 1, 0, none⟩ 1 1 [.slice (some ⟨wr.heap.size, 0, none⟩) 2 2] rfl rfl ?c1 ?c2 ?c3 ?c4 ?c5 ?_)
                      case c1 => have h := HN.out; rw [World.size_alloc] at h; exact h
                      case c2 => intro u hu; simp at hu; subst hu; rfl
                      case c3 => have := HLA.out; unfold maxLen; omega
                      case c4 => have := HLA.out; omega
                      case c5 => simp; omega
                      intro v' w5 hown' hgrow _ hat
                      have hgrow2 : ((wr.alloc (.cells #[.int .i64 i, .int .i64 k] 3)).alloc (.cells #[.slice (some ⟨wr.heap.size, 0, none⟩) 2 2] 30)).grownBy w5 (Value.slice Av (acc).length cv).ownBlock := hgrow
                      have hat2 : v'.ownBlock = (Value.slice Av (acc).length cv).ownBlock ∨ v'.ownBlock = some ((wr.alloc (.cells #[.int .i64 i, .int .i64 k] 3)).heap.size + 1) := by simpa using hat
                      have HQ5 := Lib.hid (RQ9.mk (p := p) (HQ.out.tm.push (r := [(i : Int), (k : Int)]) (below_alloc wr (.cells #[.int .i64 i, .int .i64 k] 3)) (HPO.out.mono (Nat.le_refl _) (by simp)) hown' hgrow2 hat2) HQ.out.gt)
                      clear HB4 HN HPO hown' hgrow hat hgrow2 hat2 HLA
                      clear HQ HRT c1 c2 r0 r1 k1
                      go_wp2
                      go_roundw
                      case rel => exact ⟨k + 1, _, by omega, by go_num, Lib.hid (by rw [HCS.out, ← List.append_assoc, HACC.out]; exact HQ5.out)⟩
                      case measure => simp [intOf]; omega
                    · have HCS := Lib.hid (show mvB i (selL (brB row j) (k + 1)) = mvB i (selL (brB row j) k) by rw [selL_no (by simp [brB, hl])])
                      go_wp2
                      go_roundw
                      case rel => exact ⟨k + 1, vs, by omega, by go_num, Lib.hid (by rw [HCS.out]; exact HQ.out)⟩
                      case measure => simp [intOf]; omega
                  · have hm' : (gi row k == mxl row) = false := by simp [hm]
                    have HCS := Lib.hid (show mvB i (selL (brB row j) (k + 1)) = mvB i (selL (brB row j) k) by rw [selL_no (by simp [brB, hm])])
                    clear hm
                    go_wp2
                    go_roundw
                    case rel => exact ⟨k + 1, vs, by omega, by go_num, Lib.hid (by rw [HCS.out]; exact HQ.out)⟩
                    case measure => simp [intOf]; omega
                · obtain rfl : k = p.m := by omega
                  have HE := Lib.hid (show ac0 ++ mvB i (selL (brB row j) p.m) = repL xs ys p.n i j by rw [repL, HCOL.out, HROW.out, ← HSA.out, ← HSB.out])
                  have HNT := Lib.hid (NewT.from HQ.out.gt.below (HQ.out.tm.new (by rw [List.length_append, mvB_len]; have := HLA1.out; have := selL_len (brB row j) p.m; omega)))
                  clear HQ
                  go_wp2
                  go_ret
                  exact NewT.is HE.out HNT.out

set_option maxRecDepth 100000 in
set_option maxHeartbeats 3200000 in
theorem ReplyMoves_spec (A B : Option Addr) (n c m d : Nat) (xs ys : List (List Int)) (i j : Int) (w : World) (hx : IntRows w A n c xs) (hy : IntRows w B m d ys) (hi : Fit i) (hj : Fit j) :
    Calls Try.prog 44 #[.agg #[.slice A n c, .slice B m d], .int .i64 i, .int .i64 j] w (NewT w (repF xs ys i j)) := by
  have hb0 := below_alloc w (.cells #[.slice A n c, .slice B m d] 54)
  have b0 := blk_new w 54 #[.slice A n c, .slice B m d]
  have HB := Lib.hid hb0
  have HK := Lib.hid b0
  have HX := Lib.hid (hx.keep (Keep.below hb0))
  have HY := Lib.hid (hy.keep (Keep.below hb0))
  have HX0 := Lib.hid hx
  have HY0 := Lib.hid hy
  have HFI := Lib.hid hi
  have HFJ := Lib.hid hj
  clear hx hy hb0 b0 hi hj
  go_enter Try.func44, Try.ntmps44
  go_wp2_with fail
  generalize w.alloc (.cells #[.slice A n c, .slice B m d] 54) = W1 at *
  have HC := Lib.hid (validGame_any _ _ _ _ _ _ _ _ _ HX.out HY.out)
  by_cases hv : VG xs ys
  · refine ((pb_true hv) ▸ HC.out).mono ?_
    rintro e w1 ⟨rfl, hb⟩
    have hb2 := below_up HB.out hb
    have hk2 := blk_below HK.out hb
    obtain ⟨p, rfl, rfl, rfl, rfl, rfl, rfl, hg⟩ := GV.of HX0.out HY0.out hv
    have HT := Lib.hid (show GT p w w1 w.heap.size xs ys from ⟨hb2, hk2, hg⟩)
    have hn3 := hg.tx.n3
    have hm3 := hg.tx.m3
    have hn1 := hg.tx.n1
    have hm1 := hg.tx.m1
    have HP := Lib.hid (show repF xs ys i j = if (pb (Blw p.n i) && pb (Blw p.m j)) = true then repL xs ys p.n i.toNat j.toNat else [] by rw [repF, pb_true hv, hg.lx, hg.mx, Bool.true_and])
    clear hb hv hb2 hk2 hg HX HY HX0 HY0 HB HK HC
    have k0 := HT.out.c0
    have k1 := HT.out.c1
    have r0 := HT.out.gv.tx.row 0 hn1
    simp only [Nat.add_zero] at r0
    by_cases hi : InR i 0 ((p.n : Int) - 1)
    · by_cases hj : InR j 0 ((p.m : Int) - 1)
      · have QI := Lib.hid (fun W => pb_true hi ▸ inRange_any i 0 ((p.n : Int) - 1) W)
        have QJ := Lib.hid (fun W => pb_true hj ▸ inRange_any j 0 ((p.m : Int) - 1) W)
        unfold InR at hi hj
        rw [pb_true (p := Blw p.n i) ⟨hi.1, by omega⟩, pb_true (p := Blw p.m j) ⟨hj.1, by omega⟩, Bool.and_self, if_pos rfl] at HP
        obtain ⟨x, rfl⟩ : ∃ x : Nat, i = x := ⟨i.toNat, by omega⟩
        obtain ⟨y, rfl⟩ : ∃ y : Nat, j = y := ⟨j.toNat, by omega⟩
        have hxn : x < p.n := by omega
        have hym : y < p.m := by omega
        simp only [Int.toNat_natCast] at HP
        clear hi hj HFI HFJ
        go_wp2_with fail
        refine (QI.out _).mono ?_
        rintro e w2 ⟨rfl, rfl⟩
        go_wp2_with fail
        refine (QJ.out _).mono ?_
        rintro e w2 ⟨rfl, rfl⟩
        clear QI QJ
        go_wp2_with fail
        refine (HP.out ▸ replies_any p x y xs ys _ HT.out.gv hxn hym).mono ?_
        rintro e w2 hN
        have HN := Lib.hid (NewT.from HT.out.below hN)
        obtain ⟨Av, k, cv, gg, rfl, -⟩ := hN
        clear HT k0 k1 r0
        go_wp2
        go_ret
        exact HN.out
      · have QI := Lib.hid (fun W => pb_true hi ▸ inRange_any i 0 ((p.n : Int) - 1) W)
        have QJ := Lib.hid (fun W => pb_false hj ▸ inRange_any j 0 ((p.m : Int) - 1) W)
        have HE := Lib.hid (show repF xs ys i j = [] by rw [HP.out, pb_false (p := Blw p.m j) (fun h => hj ⟨h.1, by have := h.2; omega⟩), Bool.and_false]; rfl)
        clear hi hj HP
        go_wp2_with fail
        refine (QI.out _).mono ?_
        rintro e w2 ⟨rfl, rfl⟩
        go_wp2_with fail
        refine (QJ.out _).mono ?_
        rintro e w2 ⟨rfl, rfl⟩
        go_wp2
        go_ret
        exact NewT.none HT.out.below HE.out
    · have QI := Lib.hid (fun W => pb_false hi ▸ inRange_any i 0 ((p.n : Int) - 1) W)
      have HE := Lib.hid (show repF xs ys i j = [] by rw [HP.out, pb_false (p := Blw p.n i) (fun h => hi ⟨h.1, by have := h.2; omega⟩), Bool.false_and]; rfl)
      clear hi HP
      go_wp2_with fail
      refine (QI.out _).mono ?_
      rintro e w2 ⟨rfl, rfl⟩
      go_wp2
      go_ret
      exact NewT.none HT.out.below HE.out
  · have HZ := Lib.hid (show repF xs ys i j = [] by rw [repF, pb_false hv]; rfl)
    refine ((pb_false hv) ▸ HC.out).mono ?_
    rintro e w1 ⟨rfl, hb⟩
    have HB2 := Lib.hid (below_up HB.out hb)
    clear hb hv HC
    go_wp2
    go_ret
    exact NewT.none HB2.out HZ.out
end Go.Proofs.Ytjkmgpiiamffgaa

/- Even tables, by both programs. -/
namespace Go.Proofs.Ytjkmgpiiamffgaa
open Go.RowKit

theorem VQ.len2 {a : List (List Int)} {n : Nat} (v : VQ a) (hl : a.length = n) : (gr a 0).length = n := by have := v.2; omega
/-- A square that is the same with rows as columns. -/
structure EvP (a : List (List Int)) : Prop where
  q : VQ a
  e : ∀ i j, i < a.length → j < a.length → g2 a i j = g2 a j i


theorem g2_flipT {a : List (List Int)} {n m i j : Nat} (hi : i < m) (hj : j < n) : g2 (flip a n m) i j = g2 a j i := by
  unfold g2
  rw [gr_flip hi, gi_col hj]
  rfl

/-- The table is even just if the arrays of it and it turned are the same. -/
theorem even_cells {a : List (List Int)} (v : VQ a) : EvP a ↔ cs9 (full9 a a.length a.length) = cs9 (full9 (flip a a.length a.length) a.length a.length) := by
  constructor
  · intro h
    refine cs9_congr fun r c _ _ => ?_
    unfold full9
    by_cases e : r < a.length ∧ c < a.length
    · rw [if_pos e, if_pos e, g2_flipT e.1 e.2]; exact h.e r c e.1 e.2
    · rw [if_neg e, if_neg e]
  · intro h
    refine ⟨v, fun i j hi hj => ?_⟩
    have h3 := v.1.n3
    have e1 := cs9_get (full9 a a.length a.length) (i := i) (j := j) (by omega) (by omega)
    have e2 := cs9_get (full9 (flip a a.length a.length) a.length a.length) (i := i) (j := j) (by omega) (by omega)
    rw [h, e2] at e1
    injection e1 with e1
    injection e1 with _ e1
    unfold full9 at e1
    rw [if_pos ⟨hi, hj⟩, if_pos ⟨hi, hj⟩, g2_flipT hi hj] at e1
    exact e1.symm

end Go.Proofs.Ytjkmgpiiamffgaa

/- Rows compared, by the laws; squares turned. -/
namespace Go.Proofs.Ytjkmgpiiamffgaa
open Go.RowKit

set_option maxHeartbeats 400000 in
theorem equalRows_any (A B : Option Addr) (n c m d : Nat) (xs ys : List (List Int)) (w : World) (hx : IntRows w A n c xs) (hy : IntRows w B m d ys) :
    Calls Try.prog 43 #[.slice A n c, .slice B m d] w fun e w' => e = .returned (.bool (eqRR xs ys)) ∧ Quiet w w' := by
  obtain ⟨lx, cx, mx, hx⟩ := hx
  obtain ⟨ly, cy, my, hy⟩ := hy
  have Lx := Lib.hid lx
  have Ly := Lib.hid ly
  clear lx ly
  by_cases hnm : n = m
  · subst hnm
    go_enter Try.func43, Try.ntmps43
    go_wp2
    go_loopw [5] (fun i wr => ∃ k : Nat, k ≤ n ∧ i = .int .i64 k ∧ Hid (∀ j, j < k → eqI (gr xs j) (gr ys j) = true) ∧ Quiet w wr) (fun i _ => n - (intOf i).toNat)
    case atStart => exact ⟨0, Nat.zero_le _, rfl, Lib.hid (fun _ h => absurd h (by omega)), Quiet.refl _⟩
    case round =>
      obtain ⟨k, hk, rfl, HALL, q, rfl⟩ := hrel
      by_cases hlt : k < n
      · obtain ⟨b, o, rfl, hcx⟩ := hx (by omega)
        obtain ⟨b2, o2, rfl, hcy⟩ := hy (by omega)
        obtain ⟨R, cc, c1, hR⟩ := hcx k hlt
        obtain ⟨R2, cc2, c2, hR2⟩ := hcy k hlt
        clear hx hy hcx hcy
        cases he : eqI (gr xs k) (gr ys k) with
        | true =>
          have HE := Lib.hid he
          have hq := fun W (hW : Quiet w W) => (he ▸ equalInts_any _ _ _ _ _ _ _ _ W (hR.keep (Keep.quiet hW)) (hR2.keep (Keep.quiet hW)))
          clear he
          go_wp2
          go_quiet ((go_at_call 30; exact quiet_fit (hq _ (by first | exact ⟨_, rfl⟩ | exact Quiet.two _ _ _)) (fun m => by first | exact drewN_to1 _ _ _ | exact drewN_to2 _ _ _ _)))
          go_wp2
          go_roundw
          case rel => exact ⟨k + 1, by omega, by go_num, Lib.hid (fun j hj => by
            by_cases hjk : j < k
            · exact HALL.out j hjk
            · obtain rfl : j = k := by omega
              exact HE.out), ⟨_, rfl⟩⟩
          case measure => simp [intOf]; omega
        | false =>
          have HE := Lib.hid he
          have hq := fun W (hW : Quiet w W) => (he ▸ equalInts_any _ _ _ _ _ _ _ _ W (hR.keep (Keep.quiet hW)) (hR2.keep (Keep.quiet hW)))
          clear he
          go_wp2
          go_quiet ((go_at_call 30; exact quiet_fit (hq _ (by first | exact ⟨_, rfl⟩ | exact Quiet.two _ _ _)) (fun m => by first | exact drewN_to1 _ _ _ | exact drewN_to2 _ _ _ _)))
          go_wp2
          go_ret
          exact ⟨ret_bool (eqRR_no HE.out).symm, Quiet.two _ _ _⟩
      · obtain rfl : k = n := by omega
        go_wp2
        go_ret
        exact ⟨ret_bool (eqRR_yes (by rw [Lx.out, Ly.out]) fun j hj => HALL.out j (by rw [Lx.out] at hj; exact hj)).symm, ⟨_, rfl⟩⟩
  · go_enter Try.func43, Try.ntmps43
    go_wp2
    go_ret
    exact ⟨ret_bool (eqRR_len (by rw [Lx.out, Ly.out]; exact hnm)).symm, Quiet.refl _⟩
theorem VQ.m {a : List (List Int)} {k : Nat} (v : VQ a) (h : a.length = k) : (gr a 0).length = k := by have := v.2; omega
theorem VQ.flip {a : List (List Int)} {k : Nat} (v : VQ a) (h : a.length = k) : VQ (flip a k k) := by
  have h1 := v.1.flip
  rw [h, v.m h] at h1
  refine ⟨h1, ?_⟩
  have := v.1.n1
  rw [flip_len, gr_flip (by omega)]
  simp
theorem VQ.even {a : List (List Int)} {k : Nat} (v : VQ a) (h : a.length = k) : Even a k := by have h1 := v.1.even; rw [v.m h] at h1; exact h1
theorem VQ.evenP {a : List (List Int)} {k : Nat} (v : VQ a) (h : a.length = k) : EvP a ↔ Go.Proofs.Ytjkmgpiiamffgaa.flip a k k = a := by
  constructor
  · intro e
    refine gr_ext (by rw [flip_len, h]) fun i hi => ?_
    rw [flip_len] at hi
    refine gi_ext (by rw [gr_flip hi, (v.1.rows i (by omega)).1, v.m h]; simp) fun j hj => ?_
    rw [gr_flip hi] at hj
    have hj' : j < k := by simpa using hj
    have := g2_flipT (a := a) (n := k) (m := k) hi hj'
    unfold g2 at this
    rw [this]
    exact e.e j i (by omega) (by omega)
  · intro e
    refine ⟨v, fun i j hi hj => ?_⟩
    have := g2_flipT (a := a) (n := k) (m := k) (i := i) (j := j) (by omega) (by omega)
    rw [e] at this
    exact this

end Go.Proofs.Ytjkmgpiiamffgaa

/- Ascending lists, by the laws. -/
namespace Go.Proofs.Ytjkmgpiiamffgaa
open Go.RowKit

end Go.Proofs.Ytjkmgpiiamffgaa

/- Rows among rows, ascending lists, by the laws. -/
namespace Go.Proofs.Ytjkmgpiiamffgaa
open Go.RowKit

set_option maxHeartbeats 800000 in
theorem inRows_any (A B : Option Addr) (n c m d : Nat) (xs : List (List Int)) (ys : List Int) (w : World) (hx : IntRows w A n c xs) (hy : Ints w B m d ys) :
    Calls Try.prog 45 #[.slice A n c, .slice B m d] w fun e w' => e = .returned (.bool (pb (ys ∈ xs))) ∧ Quiet w w' := by
  have HL := Lib.hid hx.len
  have HX := Lib.hid hx
  have HY := Lib.hid hy
  have hmx := hx.max
  clear hx hy
  go_enter Try.func45, Try.ntmps45
  go_wp2
  go_loopw [5] (fun i wr => ∃ k : Nat, k ≤ n ∧ i = .int .i64 k ∧ Hid (∀ j, j < k → gr xs j ≠ ys) ∧ Quiet w wr) (fun i _ => n - (intOf i).toNat)
  case atStart => exact ⟨0, Nat.zero_le _, rfl, Lib.hid (fun _ h => absurd h (by omega)), Quiet.refl _⟩
  case round =>
    obtain ⟨k, hk, rfl, HALL, hq⟩ := hrel
    by_cases hlt : k < n
    · obtain ⟨b, o, rfl, hc⟩ := (HX.out.keep (Keep.quiet hq)).at_ (by omega)
      obtain ⟨R, cR, c1, hR⟩ := hc k hlt
      have HQ := Lib.hid hq
      have HC := Lib.hid (equalInts_any _ _ _ _ _ _ (gr xs k) ys wr hR (HY.out.keep (Keep.quiet hq)))
      clear hc hR hq
      by_cases he : gr xs k = ys
      · have HR := Lib.hid (pb_true (p := ys ∈ xs) (by rw [← he]; exact gr_mem (by rw [HL.out]; exact hlt)))
        rw [show eqI (gr xs k) ys = true by unfold eqI; exact decide_eq_true he] at HC
        clear he
        go_wp2_with fail
        refine HC.out.mono ?_
        rintro e w2 ⟨rfl, hq⟩
        have HQ2 := Lib.hid (HQ.out.trans hq)
        clear hq HC HQ c1
        go_wp2
        go_ret
        exact ⟨ret_bool HR.out.symm, HQ2.out⟩
      · rw [show eqI (gr xs k) ys = false by unfold eqI; exact decide_eq_false he] at HC
        have HN := Lib.hid (show ∀ j, j < k + 1 → gr xs j ≠ ys from fun j hj => by
          by_cases e : j = k
          · subst e; exact he
          · exact HALL.out j (by omega))
        clear he
        go_wp2_with fail
        refine HC.out.mono ?_
        rintro e w2 ⟨rfl, hq⟩
        have HQ2 := Lib.hid (HQ.out.trans hq)
        clear hq HC HQ c1
        go_wp2
        go_roundw
        case rel => exact ⟨k + 1, by omega, by go_num, HN, HQ2.out⟩
        case measure => simp [intOf]; omega
    · obtain rfl : k = n := by omega
      have HR := Lib.hid (pb_false (p := ys ∈ xs) (fun h => by
        obtain ⟨j, hj, e⟩ := List.mem_iff_getElem.1 h
        exact HALL.out j (by rw [← HL.out]; exact hj) (by rw [gr_get hj]; exact e)))
      have HQ2 := Lib.hid hq
      clear hq
      go_wp2
      go_ret
      exact ⟨ret_bool HR.out.symm, HQ2.out⟩

end Go.Proofs.Ytjkmgpiiamffgaa

