/- Texts merged: U5 U6 U7 Math32. -/
import Derived.Test.YtjkmgpiiamffgaaQ7
import Derived.Defers
/- The numbers of steps, by the program: deferred calls, laid in a loop. -/
namespace Go.Proofs.Ytjkmgpiiamffgaa
open Go.RowKit

/-- The numbers, those behind k times all that is behind them. -/
def midL (f g : Nat → Int) (m n k : Nat) : List Int := (List.range n).map fun j => if j < k then upP g j else numP f g m j
/-- The numbers as the loop leaves them. -/
def ahL (g : Nat → Int) (n k : Nat) : List Int := (List.range n).map fun j => if j < k then upP g j else 0
theorem midL_len (f g : Nat → Int) (m n k : Nat) : (midL f g m n k).length = n := by simp [midL]
theorem ahL_len (g : Nat → Int) (n k : Nat) : (ahL g n k).length = n := by simp [ahL]
theorem gi_midL {f g : Nat → Int} {m n k j : Nat} (h : j < n) : gi (midL f g m n k) j = if j < k then upP g j else numP f g m j := by rw [gi_get (by rw [midL_len]; exact h)]; simp [midL]
theorem gi_ahL {g : Nat → Int} {n k j : Nat} (h : j < n) : gi (ahL g n k) j = if j < k then upP g j else 0 := by rw [gi_get (by rw [ahL_len]; exact h)]; simp [ahL]
theorem gi_set1 {xs : List Int} {k j : Nat} {v : Int} (h : j < xs.length) : gi (xs.set k v) j = if k = j then v else gi xs j := by
  rw [gi_get (by rw [List.length_set]; exact h), List.getElem_set, gi_get h]
theorem ahL_zero (g : Nat → Int) (n : Nat) : List.replicate n 0 = ahL g n 0 := gi_ext (by rw [ahL_len]; simp) fun p hp => by
  simp only [List.length_replicate] at hp
  rw [gi_repl hp, gi_ahL hp, if_neg (by omega)]
theorem ahL_set (g : Nat → Int) (n k : Nat) : (ahL g n k).set k (upP g k) = ahL g n (k + 1) := gi_ext (by rw [List.length_set, ahL_len, ahL_len]) fun p hp => by
  rw [List.length_set, ahL_len] at hp
  rw [gi_set1 (by rw [ahL_len]; exact hp), gi_ahL hp, gi_ahL hp]
  by_cases e : k = p
  · subst e; rw [if_pos rfl, if_pos (by omega)]
  · rw [if_neg e]; split <;> split <;> first | rfl | omega
theorem ahL_end (f g : Nat → Int) (m : Nat) : (ahL g (m + 1) m).set m (upP g m) = midL f g m (m + 1) m := gi_ext (by rw [List.length_set, ahL_len, midL_len]) fun p hp => by
  rw [List.length_set, ahL_len] at hp
  rw [gi_set1 (by rw [ahL_len]; exact hp), gi_ahL hp, gi_midL hp]
  by_cases e : m = p
  · subst e; rw [if_pos rfl, if_neg (by omega), numP, Nat.sub_self, dnP]; simp
  · rw [if_neg e, if_pos (by omega), if_pos (by omega)]
theorem midL_set (f g : Nat → Int) (m n k : Nat) : (midL f g m n (k + 1)).set k (numP f g m k) = midL f g m n k := gi_ext (by rw [List.length_set, midL_len, midL_len]) fun p hp => by
  rw [List.length_set, midL_len] at hp
  rw [gi_set1 (by rw [midL_len]; exact hp), gi_midL hp, gi_midL hp]
  by_cases e : k = p
  · subst e; rw [if_pos rfl, if_neg (by omega)]
  · rw [if_neg e]; split <;> split <;> first | rfl | omega
theorem midL_zero (f g : Nat → Int) (m : Nat) : midL f g m (m + 1) 0 = numL f g m := gi_ext (by rw [midL_len, numL_len]) fun p hp => by
  rw [midL_len] at hp
  rw [gi_midL hp, if_neg (by omega), gi_numL (by omega)]

/-- What lies behind block B stays. -/
def KeepA (B : Nat) (W W' : World) : Prop := ∀ p u, B < p.block → W.cell? p = some u → W'.cell? p = some u
/-- Memory while the deferred calls run: k are still to come. -/
structure LT (f g : Nat → Int) (m : Nat) (w : World) (n k : Nat) (W : World) : Prop where
  su : SU w n (midL f g m n k) W
  nb : W.cell? ⟨w.heap.size + 1, 0, none⟩ = some (.slice (some ⟨w.heap.size, 0, none⟩) n n)
  bb : Blk W (w.heap.size + 2) 3 #[.int .i64 (dnP f m (m - k))]
/-- One deferred call. -/
def dfr (w : World) (F K : Nat) : Deferred := { target := .fn (.func 92) #[.pointer (some ⟨w.heap.size + 1 + 1, 0, none⟩), .pointer (some ⟨F, 0, none⟩), .pointer (some ⟨w.heap.size + 1, 0, none⟩), .pointer (some ⟨K, 0, none⟩)], args := #[] }
def dfa (w : World) (F K : Nat) : Array Value := #[.pointer (some ⟨w.heap.size + 1 + 1, 0, none⟩), .pointer (some ⟨F, 0, none⟩), .pointer (some ⟨w.heap.size + 1, 0, none⟩), .pointer (some ⟨K, 0, none⟩)]
/-- The deferred calls of the first k steps, and their variables. -/
def DL (f : Nat → Int) (w : World) : Nat → List Deferred → World → Prop
  | 0, ds, _ => ds = []
  | k + 1, ds, W => ∃ F K ds', ds = dfr w F K :: ds' ∧ w.heap.size + 2 < F ∧ w.heap.size + 2 < K ∧ W.cell? ⟨F, 0, none⟩ = some (.int .i64 (f (k + 1))) ∧ W.cell? ⟨K, 0, none⟩ = some (.int .i64 (k : Int)) ∧ DL f w k ds' W
theorem DL.keep {f : Nat → Int} {w W W' : World} (h : KeepA (w.heap.size + 2) W W') : ∀ {k ds}, DL f w k ds W → DL f w k ds W'
  | 0, _, d => d
  | _ + 1, _, ⟨F, K, ds', e, h1, h2, c1, c2, d⟩ => ⟨F, K, ds', e, h1, h2, h _ _ h1 c1, h _ _ h2 c2, DL.keep h d⟩
theorem KeepA.of {B : Nat} {W W' : World} (h : Keep W W') : KeepA B W W' := fun p u _ e => h p u e
theorem KeepA.trans {B : Nat} {W W' W'' : World} (h : KeepA B W W') (k : KeepA B W' W'') : KeepA B W W'' := fun p u b e => k p u b (h p u b e)
theorem KeepA.set {B : Nat} (W : World) {q : Addr} (v : Value) (h : q.block ≤ B) : KeepA B W (W.setCell q v) := fun p u b e => by
  rw [World.cell?_setCell_other _ _ _ _ (by intro e; have := congrArg Addr.block e; omega)]; exact e

set_option maxRecDepth 100000 in
set_option maxHeartbeats 1600000 in
theorem defer_raw (H N M F K n j : Nat) (B f x : Int) (u : FrameMode) (W : World) (hHN : H ≠ N) (hHM : H ≠ M) (hHK : H ≠ K) (hj : j < n)
    (cH : W.cell? ⟨H, 0, none⟩ = some (.int .i64 B)) (zH : W.frozen? ⟨H, 0, none⟩ = false) (cF : W.cell? ⟨F, 0, none⟩ = some (.int .i64 f)) (cM : W.cell? ⟨M, 0, none⟩ = some (.slice (some ⟨N, 0, none⟩) n n))
    (cK : W.cell? ⟨K, 0, none⟩ = some (.int .i64 (j : Int))) (cN : W.cell? ⟨N, j, none⟩ = some (.int .i64 x)) (zN : W.frozen? ⟨N, j, none⟩ = false)
    (b1 : -1000000000 ≤ B * f ∧ B * f ≤ 1000000000) (b2 : -1000000000000 ≤ x * (B * f) ∧ x * (B * f) ≤ 1000000000000) :
    CallsD Try.prog 92 #[.pointer (some ⟨H, 0, none⟩), .pointer (some ⟨F, 0, none⟩), .pointer (some ⟨M, 0, none⟩), .pointer (some ⟨K, 0, none⟩)] u W
      fun e u' W' => u' = u ∧ (e = .returned (.tuple #[]) ∧ Quiet ((W.setCell ⟨H, 0, none⟩ (.int .i64 (B * f))).setCell ⟨N, j, none⟩ (.int .i64 (x * (B * f)))) W') := by
  have d1 : (W.setCell ⟨H, 0, none⟩ (.int .i64 (B * f))).cell? ⟨H, 0, none⟩ = some (.int .i64 (B * f)) := World.cell?_setCell_same _ _ _ (by first | (rw [cH]; done) | (rw [cH]; simp) | simp [cH])
  have d2 : (W.setCell ⟨H, 0, none⟩ (.int .i64 (B * f))).cell? ⟨M, 0, none⟩ = some (.slice (some ⟨N, 0, none⟩) n n) := by
    rw [World.cell?_setCell_other _ _ _ _ (by intro e; have := congrArg Addr.block e; first | exact hHM this | exact hHM this.symm)]; exact cM
  have d3 : (W.setCell ⟨H, 0, none⟩ (.int .i64 (B * f))).cell? ⟨K, 0, none⟩ = some (.int .i64 (j : Int)) := by
    rw [World.cell?_setCell_other _ _ _ _ (by intro e; have := congrArg Addr.block e; first | exact hHK this | exact hHK this.symm)]; exact cK
  have d4 : (W.setCell ⟨H, 0, none⟩ (.int .i64 (B * f))).cell? ⟨N, j, none⟩ = some (.int .i64 x) := by
    rw [World.cell?_setCell_other _ _ _ _ (by intro e; have := congrArg Addr.block e; first | exact hHN this | exact hHN this.symm)]; exact cN
  have d5 : (W.setCell ⟨H, 0, none⟩ (.int .i64 (B * f))).frozen? ⟨N, j, none⟩ = false := by simpa using zN
  have HD := Lib.hid (And.intro d1 (And.intro d2 (And.intro d3 (And.intro d4 d5))))
  obtain ⟨b11, b12⟩ := b1
  obtain ⟨b21, b22⟩ := b2
  have hw1 : IntKind.i64.wrap (B * f) = B * f := wrap_in64 (by omega)
  have hw2 : IntKind.i64.wrap (x * (B * f)) = x * (B * f) := wrap_in64 (by omega)
  clear d1 d2 d3 d4 d5 cM cK cN zN
  go_enter_d Try.func92, Try.ntmps92
  go_wp2
  obtain ⟨d1, d2, d3, d4, d5⟩ := HD.out
  generalize hV : W.setCell ⟨H, 0, none⟩ (.int .i64 (B * f)) = V at *
  have HV := Lib.hid hV
  clear hV
  generalize hC : B * f = C at *
  have HC := Lib.hid hC
  clear hC
  go_region
  all_goals go_wp2
  all_goals go_end0
  all_goals exact ⟨rfl, by rw [HC.out, HV.out]; first | exact Quiet.refl _ | exact ⟨1, rfl⟩⟩
theorem LT.quiet {f g : Nat → Int} {m : Nat} {w W W' : World} {n k : Nat} (h : LT f g m w n k W) (q : Quiet W W') : LT f g m w n k W' :=
  ⟨h.su.qu q, Keep.quiet q _ _ h.nb, blk_quiet h.bb q⟩
theorem LT.back {f g : Nat → Int} {m : Nat} {w W : World} {n j : Nat} (h : LT f g m w n (j + 1) W) (hfg : FG f g m) (hn : n = m + 1) (hj : j < m) :
    LT f g m w n j ((W.setCell ⟨w.heap.size + 1 + 1, 0, none⟩ (.int .i64 (dnP f m (m - j)))).setCell ⟨w.heap.size, j, none⟩ (.int .i64 (numP f g m j))) := by
  have hjn : j < n := by omega
  have b3 := numP_bd hfg (k := j) (by omega)
  have hsu : SU w n (midL f g m n (j + 1)) (W.setCell ⟨w.heap.size + 1 + 1, 0, none⟩ (.int .i64 (dnP f m (m - j)))) :=
    ⟨h.su.own.of_block fun _ => Below.heap_setCell _ _ _ _ (by show w.heap.size ≠ w.heap.size + 1 + 1; omega), h.su.up.setCell (p := ⟨w.heap.size + 1 + 1, 0, none⟩) (by show w.heap.size ≤ w.heap.size + 1 + 1; omega) _, by simpa [World.setCell] using h.su.sz⟩
  have hs2 := hsu.set hjn (v := numP f g m j) (by omega)
  rw [midL_set] at hs2
  refine ⟨hs2, ?_, ?_⟩
  · rw [World.cell?_setCell_other _ _ _ _ (by intro e; have := congrArg Addr.block e; simp at this), World.cell?_setCell_other _ _ _ _ (by intro e; have := congrArg Addr.block e; simp at this)]; exact h.nb
  · refine blk_other (p := ⟨w.heap.size, j, none⟩) ?_ (by show w.heap.size + 2 ≠ w.heap.size; omega) _
    exact blk_set h.bb 0 (.int .i64 (dnP f m (m - j)))
theorem defer_any (f g : Nat → Int) (m n j F K : Nat) (u : FrameMode) (w W : World) (h : LT f g m w n (j + 1) W) (hfg : FG f g m) (hn : n = m + 1) (hj : j < m) (hK : w.heap.size + 2 < K)
    (cF : W.cell? ⟨F, 0, none⟩ = some (.int .i64 (f (j + 1)))) (cK : W.cell? ⟨K, 0, none⟩ = some (.int .i64 (j : Int))) :
    CallsD Try.prog 92 (dfa w F K) u W
      fun e u' W' => u' = u ∧ (e = .returned (.tuple #[]) ∧ LT f g m w n j W' ∧ KeepA (w.heap.size + 2) W W') := by
  have hjn : j < n := by omega
  have hm5 := hfg.m5
  have e1 : dnP f m (m - (j + 1)) * f (j + 1) = dnP f m (m - j) := by
    have h1 : m - j = (m - (j + 1)) + 1 := by omega
    have h2 : m - (m - (j + 1)) = j + 1 := by omega
    rw [h1, dnP, h2]
  have e2 : upP g j * dnP f m (m - j) = numP f g m j := rfl
  have b1 := dnP_bd (f := f) (m := m) (t := m - j) (by omega) hfg.f
  have b2 := p45_5 (k := m - j) (by omega)
  have b3 := numP_bd hfg (k := j) (by omega)
  have c3 := h.su.cell hjn
  rw [gi_midL hjn, if_pos (by omega)] at c3
  have hr := defer_raw (w.heap.size + 1 + 1) w.heap.size (w.heap.size + 1) F K n j (dnP f m (m - (j + 1))) (f (j + 1)) (upP g j) u W (by omega) (by omega) (by omega) hjn
    (blk_cell h.bb (i := 0) rfl) (blk_frozen h.bb 0) cF h.nb cK c3 (h.su.frozen hjn) (by rw [e1]; omega) (by rw [e1, e2]; omega)
  refine hr.mono ?_
  rintro e u' W' ⟨h1, h2, hq⟩
  rw [e1, e2] at hq
  refine ⟨h1, h2, (h.back hfg hn hj).quiet hq, ?_⟩
  exact ((KeepA.set _ _ (by show w.heap.size + 1 + 1 ≤ _; omega)).trans (KeepA.set _ _ (by show w.heap.size ≤ _; omega))).trans (KeepA.of (Keep.quiet hq))
/-- All deferred calls, the last one laid first. -/
theorem leaves_any (f g : Nat → Int) (m n : Nat) (w : World) (fn : Func) (tmps : Array Value) (R : Ending → World → Prop) (hfg : FG f g m) (hn : n = m + 1)
    (hR : ∀ W, LT f g m w n 0 W → ∃ v, (results fn tmps).run Try.prog W = .ok v W ∧ R (.returned v) W) :
    ∀ (k : Nat) (ds : List Deferred) (W : World), k ≤ m → DL f w k ds W → LT f g m w n k W → Leaves Try.prog fn tmps R ds .returning W
  | 0, ds, W, _, hd, hl => by
    obtain rfl : ds = [] := hd
    exact hR W hl
  | k + 1, ds, W, hk, hd, hl => by
    obtain ⟨F, K, ds', rfl, hF, hK, cF, cK, hd'⟩ := hd
    refine leaves_cons (f := 92) (args := (dfa w F K)) (by simp) (by simp [dfa, go_sem]) ?_
    refine (defer_any f g m n k F K .returning w W hl hfg hn (by omega) hK cF cK).mono ?_
    rintro e u' W' ⟨rfl, rfl, hl', hka⟩
    exact leaves_any f g m n w fn tmps R hfg hn hR k ds' W' (by omega) (hd'.keep hka) hl'

end Go.Proofs.Ytjkmgpiiamffgaa

/- The numbers of steps, by the program. -/
namespace Go.Proofs.Ytjkmgpiiamffgaa
open Go.RowKit

/-- Memory while the calls are laid: k are laid. -/
structure ST (f g : Nat → Int) (w : World) (n k : Nat) (ds : List Deferred) (W : World) : Prop where
  su : SU w n (ahL g n k) W
  nb : W.cell? ⟨w.heap.size + 1, 0, none⟩ = some (.slice (some ⟨w.heap.size, 0, none⟩) n n)
  bb : Blk W (w.heap.size + 1 + 1) 3 #[.int .i64 1]
  dd : DL f w k ds W
theorem ST.up {f g : Nat → Int} {w W W' : World} {n k : Nat} {ds : List Deferred} (h : ST f g w n k ds W) (b : Below W.heap.size W W') : ST f g w n k ds W' :=
  ⟨⟨h.su.own.below b, below_up h.su.up b, Nat.le_trans h.su.sz b.size⟩, Keep.below b _ _ h.nb, blk_below h.bb b, h.dd.keep (KeepA.of (Keep.below b))⟩
theorem ST.start (f g : Nat → Int) (w : World) (n : Nat) (hn : n ≤ 100) : ST f g w n 0 [] (((w.alloc (.cells (madeCells #[.int .i64 0] n) 3)).alloc (.cells #[.slice (some ⟨w.heap.size, 0, none⟩) n n] 30)).alloc (.cells #[.int .i64 1] 3)) := by
  have h1 := SU.start w n hn
  have b2 := below_alloc (w.alloc (.cells (madeCells #[.int .i64 0] n) 3)) (.cells #[.slice (some ⟨w.heap.size, 0, none⟩) n n] 30)
  have b3 := below_alloc ((w.alloc (.cells (madeCells #[.int .i64 0] n) 3)).alloc (.cells #[.slice (some ⟨w.heap.size, 0, none⟩) n n] 30)) (.cells #[.int .i64 1] 3)
  have k2 := blk_new (w.alloc (.cells (madeCells #[.int .i64 0] n) 3)) 30 #[.slice (some ⟨w.heap.size, 0, none⟩) n n]
  have k3 := blk_new ((w.alloc (.cells (madeCells #[.int .i64 0] n) 3)).alloc (.cells #[.slice (some ⟨w.heap.size, 0, none⟩) n n] 30)) 3 #[.int .i64 1]
  rw [ahL_zero g n] at h1
  have hb := below_up b2 b3
  simp only [World.size_alloc] at k2 k3
  refine ⟨⟨h1.own.below hb, below_up h1.up hb, Nat.le_trans h1.sz hb.size⟩, ?_, k3, rfl⟩
  exact blk_cell (blk_old k2 _) (i := 0) rfl
theorem ST.step {f g : Nat → Int} {w W : World} {n k K : Nat} {ds : List Deferred} (h0 : ST f g w n k ds W) (hk : k < n) (hK : w.heap.size + 2 < K) (cK : W.cell? ⟨K, 0, none⟩ = some (.int .i64 (k : Int))) (hg : 1 ≤ upP g k ∧ upP g k ≤ 184528125) :
    ST f g w n (k + 1) (dfr w W.heap.size K :: ds) ((W.alloc (.cells #[.int .i64 (f (k + 1))] 3)).setCell ⟨w.heap.size, k, none⟩ (.int .i64 (upP g k))) := by
  have hb := below_alloc W (.cells #[.int .i64 (f (k + 1))] 3)
  have k1 := blk_cell (blk_new W 3 #[.int .i64 (f (k + 1))]) (i := 0) rfl
  have h := h0.up hb
  have cK1 := Keep.below hb _ _ cK
  have hz := blk_lt h0.bb
  generalize W.alloc (.cells #[.int .i64 (f (k + 1))] 3) = V at *
  have hs := h.su.set hk (v := upP g k) (by omega)
  rw [ahL_set] at hs
  have hKA : KeepA (w.heap.size + 2) V (V.setCell ⟨w.heap.size, k, none⟩ (.int .i64 (upP g k))) := KeepA.set _ _ (by show w.heap.size ≤ _; omega)
  refine ⟨hs, ?_, ?_, ?_⟩
  · rw [World.cell?_setCell_other _ _ _ _ (by intro e; have := congrArg Addr.block e; simp at this)]; exact h.nb
  · exact blk_other h.bb (p := ⟨w.heap.size, k, none⟩) (by show w.heap.size + 1 + 1 ≠ w.heap.size; omega) _
  · exact ⟨W.heap.size, K, ds, rfl, by omega, hK, hKA _ _ (by show w.heap.size + 2 < W.heap.size; omega) k1, hKA _ _ hK cK1, h.dd.keep hKA⟩
theorem ST.last {f g : Nat → Int} {w W : World} {m : Nat} {ds : List Deferred} (h : ST f g w (m + 1) m ds W) (hg : 1 ≤ upP g m ∧ upP g m ≤ 184528125) :
    LT f g m w (m + 1) m (W.setCell ⟨w.heap.size, m, none⟩ (.int .i64 (upP g m))) ∧ DL f w m ds (W.setCell ⟨w.heap.size, m, none⟩ (.int .i64 (upP g m))) := by
  have hs := h.su.set (k := m) (by omega) (v := upP g m) (by omega)
  rw [ahL_end f g m] at hs
  refine ⟨⟨hs, ?_, ?_⟩, h.dd.keep (KeepA.set _ _ (by show w.heap.size ≤ _; omega))⟩
  · rw [World.cell?_setCell_other _ _ _ _ (by intro e; have := congrArg Addr.block e; simp at this)]; exact h.nb
  · rw [Nat.sub_self]
    exact blk_other h.bb (p := ⟨w.heap.size, m, none⟩) (by show w.heap.size + 1 + 1 ≠ w.heap.size; omega) _

set_option maxRecDepth 100000 in
set_option maxHeartbeats 3200000 in
theorem stepNumbers_any (a : List (List Int)) (n b o c : Nat) (rb ro cc : Nat → Nat) (w : World) (h : CR a n) (ht : Tab w b o rb ro cc 2 2 a) :
    Calls Try.prog 59 #[.slice (some ⟨b, o, none⟩) 2 c, .int .i64 n] w (NewI w (numL (pfA a n) (pgA a n) (n - 1))) := by
  have hn6 := h.n6
  have hn2 := h.n2
  have HCR := Lib.hid h
  have HFG := Lib.hid h.fg
  have HT := Lib.hid ht
  have hmf : ∀ (fn : Fn) (first cap : Array Value) (w : World), (Instr.makeFunc fn first cap).run Try.prog w = .ok (.func fn first cap) w := fun _ _ _ _ => rfl
  have hmk := run_make_row' (P := Try.prog) 30 3 (.int .i64 0) 8 Try.underlying30 Try.info3 rfl .i64 .i64 n (by omega) (by omega)
  have HS0 := Lib.hid (ST.start (pfA a n) (pgA a n) w n (by omega))
  clear h ht
  go_enter_defers Try.func59, Try.ntmps59
  go_wp2
  clear hmk
  generalize ((w.alloc (.cells (madeCells #[.int .i64 0] n) 3)).alloc (.cells #[.slice (some ⟨w.heap.size, 0, none⟩) n n] 30)).alloc (.cells #[.int .i64 1] 3) = W0 at *
  refine wp_loop (fun a' W => ∃ (u6 u8 u9 u10 u15 u16 u17 u18 u19 u20 u21 u22 u23 u24 u25 u26 u27 u28 u29 u30 u31 u32 u33 u34 : Value) (ds : List Deferred), (∃ k : Nat, k ≤ n - 1 ∧ u15 = .int .i64 k ∧ u6 = .int .i64 (upP (pgA a n) k) ∧ Hid (ST (pfA a n) (pgA a n) w n k ds W)) ∧ a' = ⟨#[.slice (some ⟨b, o, none⟩) 2 c, .int .i64 n, undef, undef, .slice none 0 0, .pointer (some ⟨w.heap.size + 1, 0, none⟩), u6, .pointer (some ⟨w.heap.size + 1 + 1, 0, none⟩), u8, u9, u10, .int .i64 n, .slice (some ⟨w.heap.size, 0, none⟩) n n, .int .i64 n, .int .i64 ((n : Int) - 1), u15, u16, u17, u18, u19, u20, u21, u22, u23, u24, u25, u26, u27, u28, u29, u30, u31, u32, u33, u34, undef, undef, undef, undef, undef, undef], ds⟩)
    (fun a' _ => n - (intOf (a'.tmps.getD 15 undef)).toNat) ?_ ?_
  · (repeat apply Exists.intro)
    refine ⟨?_, rfl⟩
    exact ⟨0, by omega, rfl, rfl, HS0⟩
  · clear HS0
    intro _ wr hinv
    obtain ⟨u6, u8, u9, u10, u15, u16, u17, u18, u19, u20, u21, u22, u23, u24, u25, u26, u27, u28, u29, u30, u31, u32, u33, u34, ds, hrel, ha⟩ := hinv
    subst ha
    try dsimp only
    obtain ⟨k, hk, rfl, rfl, HS⟩ := hrel
    by_cases hlt : k < n - 1
    · have hlt' : (k : Int) < (n : Int) - 1 := by omega
      have hkn : k < n := by omega
      have hk1 : ((k + 1 : Nat) : Int) = (k : Int) + 1 := by omega
      have HUB := Lib.hid (up_bd HFG.out.g HFG.out.m5 (k := k) (by omega))
      have HUB1 := Lib.hid (show 1 ≤ upP (pgA a n) k * pgA a n (k + 1) ∧ upP (pgA a n) k * pgA a n (k + 1) ≤ 184528125 from up_bd HFG.out.g HFG.out.m5 (k := k + 1) (by omega))
      have HA := Lib.hid (HS.out.up (below_alloc wr (.cells #[.int .i64 (k : Int)] 3)))
      have HK := Lib.hid (blk_new wr 3 #[.int .i64 (k : Int)])
      have HKL := Lib.hid (show w.heap.size + 2 < wr.heap.size from blk_lt HS.out.bb)
      have HC := Lib.hid (hk1 ▸ paysAt_any a n (k + 1) b o c rb ro cc _ HCR.out (HT.out.keep (Keep.below HA.out.su.up)) (by omega) (by omega))
      clear HS
      go_wp2_with fail
      refine HC.out.mono ?_
      rintro e w2 ⟨rfl, hb⟩
      have HA2 := Lib.hid (HA.out.up hb)
      have HK2 := Lib.hid (blk_below HK.out hb)
      clear hb HC HA HK
      have HN := Lib.hid (HA2.out.step (f := pfA a n) hkn HKL.out (blk_cell HK2.out (i := 0) rfl) HUB.out)
      have hb := below_alloc w2 (.cells #[.int .i64 (pfA a n (k + 1))] 3)
      have c1 := Keep.below hb _ _ HA2.out.nb
      have c2 := blk_cell (blk_below HK2.out hb) (i := 0) rfl
      have c3 := (HA2.out.up hb).su.cell hkn
      have c4 := (HA2.out.up hb).su.frozen hkn
      clear hb HA2 HK2
      obtain ⟨p1, p2⟩ := HUB.out
      obtain ⟨p3, p4⟩ := HUB1.out
      go_wp2
      clear c1 c2 c3 c4
      refine ⟨⟨_, _, _, _, _, _, _, _, _, _, _, _, _, _, _, _, _, _, _, _, _, _, _, _, _, ⟨k + 1, ?c1, ?c2, ?c3, ?c4⟩, rfl⟩, ?c5⟩
      case c1 => omega
      case c2 => go_num
      case c3 => rfl
      case c4 => exact HN
      case c5 => simp [intOf]; omega
    · obtain rfl : k = n - 1 := by omega
      have hlt' : ¬ ((n - 1 : Nat) : Int) < (n : Int) - 1 := by omega
      have hkn : n - 1 < n := by omega
      have hn1 : (n : Int) - 1 = ((n - 1 : Nat) : Int) := by omega
      have HUB := Lib.hid (up_bd HFG.out.g HFG.out.m5 (k := n - 1) (Nat.le_refl _))
      have hnm : n = n - 1 + 1 := by omega
      have HLT := Lib.hid (show LT (pfA a n) (pgA a n) (n - 1) w n (n - 1) (wr.setCell ⟨w.heap.size, n - 1, none⟩ (.int .i64 (upP (pgA a n) (n - 1)))) ∧ DL (pfA a n) w (n - 1) ds (wr.setCell ⟨w.heap.size, n - 1, none⟩ (.int .i64 (upP (pgA a n) (n - 1)))) from by
        have h := HS.out
        generalize hm : n - 1 = m at *
        generalize pfA a n = f at *
        generalize pgA a n = g at *
        subst hnm
        exact ST.last h HUB.out)
      have c1 := HS.out.nb
      have c3 := HS.out.su.cell hkn
      have c4 := HS.out.su.frozen hkn
      have c5 := HLT.out.1.nb
      obtain ⟨p1, p2⟩ := HUB.out
      clear hnm
      go_wp2
      show Leaves Try.prog _ _ _ ds .returning _
      refine leaves_any (pfA a n) (pgA a n) (n - 1) n w _ _ _ HFG.out (by omega) ?_ (n - 1) ds _ (Nat.le_refl _) HLT.out.2 HLT.out.1
      intro W hl
      have hs := hl.su
      have hz : midL (pfA a n) (pgA a n) (n - 1) n 0 = numL (pfA a n) (pgA a n) (n - 1) := by
        have h := midL_zero (pfA a n) (pgA a n) (n - 1)
        rw [show n - 1 + 1 = n by omega] at h
        exact h
      rw [hz] at hs
      refine ⟨_, results_tmp rfl _ _ _, ?_⟩
      exact hs.new (by rw [numL_len]; omega)
end Go.Proofs.Ytjkmgpiiamffgaa

/- FixedFrom, FixedOnes, FavourOf, OddsOf by the program. -/
namespace Go.Proofs.Ytjkmgpiiamffgaa
open Go.RowKit

theorem gi_take {xs : List Int} {k j : Nat} (h : j < k) (hk : k ≤ xs.length) : gi (xs.take k) j = gi xs j := by
  rw [gi_get (by rw [List.length_take]; omega), gi_get (by omega), List.getElem_take]
theorem sm_take {xs : List Int} {k : Nat} (hk : k ≤ xs.length) : ∀ {j}, j ≤ k → sm (xs.take k) j = sm xs j
  | 0, _ => rfl
  | j + 1, h => by rw [sm, sm, sm_take hk (by omega), gi_take (by omega) hk]
theorem tot_take {xs : List Int} {k : Nat} (hk : k ≤ xs.length) : tot (xs.take k) = sm xs k := by
  unfold tot
  rw [List.length_take, Nat.min_eq_left hk, sm_take hk (Nat.le_refl _)]
theorem Ints.take {w : World} {A : Option Addr} {n c k : Nat} {xs : List Int} (h : Ints w A n c xs) (hk : k ≤ n) : Ints w A k c (xs.take k) := by
  have hl := h.len
  refine ⟨by rw [List.length_take]; omega, by have := h.cap; omega, by have := h.max; omega, fun y hy => h.wf y (List.mem_of_mem_take hy), fun h0 => ?_⟩
  obtain ⟨b, o, e, hc⟩ := h.at_ (by omega)
  exact ⟨b, o, e, fun j hj => by rw [gi_take hj (by omega)]; exact hc j (by omega)⟩
theorem CR.sumOk {a n} (h : CR a n) : SumOk (numL (pfA a n) (pgA a n) (n - 1)) :=
  ⟨by rw [numL_len]; have := h.n6; omega, fun j hj => by rw [numL_len] at hj; rw [gi_numL (by omega)]; have := numP_bd h.fg (k := j) (by omega); omega⟩
theorem SumOk.take {xs : List Int} (h : SumOk xs) {k : Nat} (hk : k ≤ xs.length) : SumOk (xs.take k) :=
  ⟨by have := h.n; rw [List.length_take]; omega, fun j hj => by rw [List.length_take] at hj; rw [gi_take (by omega) hk]; exact h.bd j (by omega)⟩
theorem CR.numLen {a n} (h : CR a n) : (numL (pfA a n) (pgA a n) (n - 1)).length = n := by rw [numL_len]; have := h.n2; omega

set_option maxRecDepth 100000 in
set_option maxHeartbeats 1600000 in
theorem fixedFrom_any (a : List (List Int)) (n i b o c : Nat) (rb ro cc : Nat → Nat) (w : World) (h : CR a n) (ht : Tab w b o rb ro cc 2 2 a) (hi : i ≤ n) :
    Calls Try.prog 68 #[.slice (some ⟨b, o, none⟩) 2 c, .int .i64 n, .int .i64 i] w (Ret (frV (fxU a n i) (fxT a n)) w) := by
  have hn6 := h.n6
  have hn2 := h.n2
  have HT := Lib.hid ht
  have HPF := Lib.hid (PF.start w)
  have HC := Lib.hid (stepNumbers_any a n b o c rb ro cc _ h (ht.keep HPF.out.keep))
  have HSO := Lib.hid h.sumOk
  have HLN := Lib.hid h.numLen
  have bx := h.fx hi
  have HM := Lib.hid (show (Mid (fxU a n i) ∧ Mid (fxT a n)) ∧ 1 ≤ fxT a n from ⟨⟨by unfold Mid; omega, by unfold Mid; omega⟩, bx.2.1⟩)
  have HT1 := Lib.hid (show tot ((numL (pfA a n) (pgA a n) (n - 1)).take i) = fxU a n i from tot_take (by rw [h.numLen]; exact hi))
  have HT2 : Hid (tot (numL (pfA a n) (pgA a n) (n - 1)) = fxT a n) := Lib.hid rfl
  have HFV : Hid (frV (fxU a n i) (fxT a n) = .agg #[.int .i64 (frU (fxU a n i) (fxT a n)), .int .i64 (frD (fxU a n i) (fxT a n))]) := Lib.hid rfl
  have HFR := Lib.hid (fun W => HFV.out ▸ fracOf_any (fxU a n i) (fxT a n) W HM.out.1.1 HM.out.1.2 HM.out.2)
  rw [HFV.out]
  clear h ht bx HM
  generalize frU (fxU a n i) (fxT a n) = U at *
  generalize frD (fxU a n i) (fxT a n) = D at *
  generalize fxU a n i = X at *
  generalize fxT a n = T at *
  generalize numL (pfA a n) (pgA a n) (n - 1) = xs at *
  go_enter Try.func68, Try.ntmps68
  go_wp2_with fail
  refine HC.out.mono ?_
  rintro e w1 ⟨Av, n', c', gg, rfl, hn', ho, hb⟩
  have HPF1 := Lib.hid (HPF.out.up hb)
  have hnn : n' = n := by rw [hn', HLN.out]
  subst hnn
  have HI := Lib.hid ho.ints
  have hcap := ho.ints.cap
  have HC1 := Lib.hid (HT1.out ▸ sumOf_any _ _ _ _ _ (HI.out.take hi) (HSO.out.take (by rw [HLN.out]; exact hi)))
  clear hb HC HPF ho hn'
  have hic : ¬ (c' : Int) < (i : Int) := by omega
  go_wp2_with fail
  refine HC1.out.mono ?_
  rintro e w2 ⟨rfl, hq⟩
  have HPF2 := Lib.hid (HPF1.out.up hq.below)
  have HI2 := Lib.hid (HI.out.keep (Keep.quiet hq))
  have HC2 := Lib.hid (HT2.out ▸ sumOf_any _ _ _ _ _ HI2.out HSO.out)
  clear hq HC1 HPF1 HI
  go_wp2_with fail
  refine HC2.out.mono ?_
  rintro e w3 ⟨rfl, hq⟩
  have HPF3 := Lib.hid (HPF2.out.up hq.below)
  clear hq HC2 HPF2 HI2
  go_wp2_with fail
  refine (HFR.out _).mono ?_
  rintro e w4 ⟨rfl, hb⟩
  have HPF := Lib.hid (HPF3.out.up hb)
  clear hb HFR HPF3
  have c0 := blk_cell HPF.out.box (i := 0) rfl
  have c1 := blk_cell HPF.out.box (i := 1) rfl
  have f0 := blk_frozen HPF.out.box 0
  have f1 := blk_frozen HPF.out.box 1
  go_wp2
  clear c0 c1 f0 f1
  have B1 := blk_set (blk_set HPF.out.box 0 (.int .i64 U)) 1 (.int .i64 D)
  have r0 := blk_cell B1 (i := 0) (v := .int .i64 U) rfl
  have r1 := blk_cell B1 (i := 1) (v := .int .i64 D) rfl
  have HBX := Lib.hid ((HPF.out.below.setCell (p := ⟨w.heap.size, 0, none⟩) (Nat.le_refl _) (.int .i64 U)).setCell (p := ⟨w.heap.size, 1, none⟩) (Nat.le_refl _) (.int .i64 D))
  clear B1 HPF
  generalize (w4.setCell ⟨w.heap.size, 0, none⟩ (.int .i64 U)).setCell ⟨w.heap.size, 1, none⟩ (.int .i64 D) = WE at *
  refine bodyPost_ret (v := .agg #[.int .i64 U, .int .i64 D]) (by simp [results, Try.results68, go_sem, r0, r1]) rfl ?_
  exact ⟨by first | rfl | rw [HFV.out], HBX.out⟩
set_option maxRecDepth 100000 in
set_option maxHeartbeats 1600000 in
theorem FixedFrom_impl (A : Option Addr) (l c : Nat) (a : List (List Int)) (n i : Int) (w : World) (hx : IntRows w A l c a) (hn : Fit n) (hi : Fit i) :
    Calls Try.prog 19 #[.slice A l c, .int .i64 n, .int .i64 i] w (Ret (.tuple #[ffV a n i, .bool (pb (FQ a n i))]) w) := by
  have HX := Lib.hid hx
  have HPF := Lib.hid (PF.start w)
  have HV := Lib.hid (isCrowd_any A l c a n _ (hx.keep HPF.out.keep) hn)
  obtain ⟨n1, n2⟩ := hn
  obtain ⟨i1, i2⟩ := hi
  clear hx
  by_cases hv : CQ a n
  · rw [pb_true hv] at HV
    by_cases h1 : i < 0
    · have HNO := Lib.hid (show ffV a n i = .agg #[.int .i64 0, .int .i64 0] ∧ pb (FQ a n i) = false from (fun h : ¬ FQ a n i => ⟨ff_no h, pb_false h⟩) (fun h => by have := h.2; unfold InR at this; omega))
      have g1 : decide (i < 0) = true := decide_eq_true h1
      clear hv
      go_enter Try.func19, Try.ntmps19
      go_wp2_with fail
      refine HV.out.mono ?_
      rintro e w1 ⟨rfl, hb⟩
      have HPF1 := Lib.hid (HPF.out.up hb)
      clear hb HV HPF
      have HPF := HPF1
      clear HPF1
      have c0 := blk_cell HPF.out.box (i := 0) rfl
      have c1 := blk_cell HPF.out.box (i := 1) rfl
      have f0 := blk_frozen HPF.out.box 0
      have f1 := blk_frozen HPF.out.box 1
      go_wp2
      clear c0 c1 f0 f1
      have B1 := blk_set (blk_set HPF.out.box 0 (.int .i64 0)) 1 (.int .i64 0)
      have r0 := blk_cell B1 (i := 0) (v := .int .i64 0) rfl
      have r1 := blk_cell B1 (i := 1) (v := .int .i64 0) rfl
      have HBX := Lib.hid ((HPF.out.below.setCell (p := ⟨w.heap.size, 0, none⟩) (Nat.le_refl _) (.int .i64 0)).setCell (p := ⟨w.heap.size, 1, none⟩) (Nat.le_refl _) (.int .i64 0))
      clear B1 HPF
      generalize (w1.setCell ⟨w.heap.size, 0, none⟩ (.int .i64 0)).setCell ⟨w.heap.size, 1, none⟩ (.int .i64 0) = WE at *
      refine bodyPost_ret (v := .tuple #[.agg #[.int .i64 0, .int .i64 0], .bool false]) (by simp [results, Try.results19, go_sem, r0, r1]) rfl ?_
      exact ⟨by rw [HNO.out.1, HNO.out.2], HBX.out⟩
    · have g1 : decide (i < 0) = false := decide_eq_false h1
      by_cases h2 : n < i
      · have HNO := Lib.hid (show ffV a n i = .agg #[.int .i64 0, .int .i64 0] ∧ pb (FQ a n i) = false from (fun h : ¬ FQ a n i => ⟨ff_no h, pb_false h⟩) (fun h => by have := h.2; unfold InR at this; omega))
        have g2 : decide (n < i) = true := decide_eq_true h2
        clear hv
        go_enter Try.func19, Try.ntmps19
        go_wp2_with fail
        refine HV.out.mono ?_
        rintro e w1 ⟨rfl, hb⟩
        have HPF1 := Lib.hid (HPF.out.up hb)
        clear hb HV HPF
        have HPF := HPF1
        clear HPF1
        have c0 := blk_cell HPF.out.box (i := 0) rfl
        have c1 := blk_cell HPF.out.box (i := 1) rfl
        have f0 := blk_frozen HPF.out.box 0
        have f1 := blk_frozen HPF.out.box 1
        go_wp2
        clear c0 c1 f0 f1
        have B1 := blk_set (blk_set HPF.out.box 0 (.int .i64 0)) 1 (.int .i64 0)
        have r0 := blk_cell B1 (i := 0) (v := .int .i64 0) rfl
        have r1 := blk_cell B1 (i := 1) (v := .int .i64 0) rfl
        have HBX := Lib.hid ((HPF.out.below.setCell (p := ⟨w.heap.size, 0, none⟩) (Nat.le_refl _) (.int .i64 0)).setCell (p := ⟨w.heap.size, 1, none⟩) (Nat.le_refl _) (.int .i64 0))
        clear B1 HPF
        generalize (w1.setCell ⟨w.heap.size, 0, none⟩ (.int .i64 0)).setCell ⟨w.heap.size, 1, none⟩ (.int .i64 0) = WE at *
        refine bodyPost_ret (v := .tuple #[.agg #[.int .i64 0, .int .i64 0], .bool false]) (by simp [results, Try.results19, go_sem, r0, r1]) rfl ?_
        exact ⟨by rw [HNO.out.1, HNO.out.2], HBX.out⟩
      · have g2 : decide (n < i) = false := decide_eq_false h2
        obtain ⟨n, rfl, hcr⟩ := hv.nat
        obtain ⟨i, rfl⟩ : ∃ k : Nat, i = k := ⟨i.toNat, by omega⟩
        have hin : i ≤ n := by omega
        rw [(ff_yes hcr hin).1, (ff_yes hcr hin).2]
        obtain ⟨b, o, rb, ro, cc, rfl, rfl, tab⟩ := hcr.tab HX.out
        have HT := Lib.hid tab
        have HCR := Lib.hid hcr
        have HFV : Hid (frV (fxU a n i) (fxT a n) = .agg #[.int .i64 (frU (fxU a n i) (fxT a n)), .int .i64 (frD (fxU a n i) (fxT a n))]) := Lib.hid rfl
        have HFX := Lib.hid (fun W K => HFV.out ▸ fixedFrom_any a n i b o c rb ro cc W HCR.out (HT.out.keep K) hin)
        rw [HFV.out]
        clear tab hcr hv HCR
        generalize frU (fxU a n i) (fxT a n) = U at *
        generalize frD (fxU a n i) (fxT a n) = D at *
        go_enter Try.func19, Try.ntmps19
        go_wp2_with fail
        refine HV.out.mono ?_
        rintro e w1 ⟨rfl, hb⟩
        have HPF1 := Lib.hid (HPF.out.up hb)
        clear hb HV HPF
        have HC := Lib.hid (HFX.out w1 HPF1.out.keep)
        go_wp2_with fail
        refine HC.out.mono ?_
        rintro e w4 ⟨rfl, hb⟩
        have HPF := Lib.hid (HPF1.out.up hb)
        clear hb HC HPF1
        have c0 := blk_cell HPF.out.box (i := 0) rfl
        have c1 := blk_cell HPF.out.box (i := 1) rfl
        have f0 := blk_frozen HPF.out.box 0
        have f1 := blk_frozen HPF.out.box 1
        go_wp2
        clear c0 c1 f0 f1
        have B1 := blk_set (blk_set HPF.out.box 0 (.int .i64 U)) 1 (.int .i64 D)
        have r0 := blk_cell B1 (i := 0) (v := .int .i64 U) rfl
        have r1 := blk_cell B1 (i := 1) (v := .int .i64 D) rfl
        have HBX := Lib.hid ((HPF.out.below.setCell (p := ⟨w.heap.size, 0, none⟩) (Nat.le_refl _) (.int .i64 U)).setCell (p := ⟨w.heap.size, 1, none⟩) (Nat.le_refl _) (.int .i64 D))
        clear B1 HPF
        generalize (w4.setCell ⟨w.heap.size, 0, none⟩ (.int .i64 U)).setCell ⟨w.heap.size, 1, none⟩ (.int .i64 D) = WE at *
        refine bodyPost_ret (v := .tuple #[.agg #[.int .i64 U, .int .i64 D], .bool true]) (by simp [results, Try.results19, go_sem, r0, r1]) rfl ?_
        exact ⟨by first | rfl | rw [HFV.out], HBX.out⟩
  · rw [pb_false hv] at HV
    have HNO := Lib.hid (show ffV a n i = .agg #[.int .i64 0, .int .i64 0] ∧ pb (FQ a n i) = false from (fun h : ¬ FQ a n i => ⟨ff_no h, pb_false h⟩) (fun h => hv h.1))
    clear hv
    go_enter Try.func19, Try.ntmps19
    go_wp2_with fail
    refine HV.out.mono ?_
    rintro e w1 ⟨rfl, hb⟩
    have HPF1 := Lib.hid (HPF.out.up hb)
    clear hb HV HPF
    have HPF := HPF1
    clear HPF1
    have c0 := blk_cell HPF.out.box (i := 0) rfl
    have c1 := blk_cell HPF.out.box (i := 1) rfl
    have f0 := blk_frozen HPF.out.box 0
    have f1 := blk_frozen HPF.out.box 1
    go_wp2
    clear c0 c1 f0 f1
    have B1 := blk_set (blk_set HPF.out.box 0 (.int .i64 0)) 1 (.int .i64 0)
    have r0 := blk_cell B1 (i := 0) (v := .int .i64 0) rfl
    have r1 := blk_cell B1 (i := 1) (v := .int .i64 0) rfl
    have HBX := Lib.hid ((HPF.out.below.setCell (p := ⟨w.heap.size, 0, none⟩) (Nat.le_refl _) (.int .i64 0)).setCell (p := ⟨w.heap.size, 1, none⟩) (Nat.le_refl _) (.int .i64 0))
    clear B1 HPF
    generalize (w1.setCell ⟨w.heap.size, 0, none⟩ (.int .i64 0)).setCell ⟨w.heap.size, 1, none⟩ (.int .i64 0) = WE at *
    refine bodyPost_ret (v := .tuple #[.agg #[.int .i64 0, .int .i64 0], .bool false]) (by simp [results, Try.results19, go_sem, r0, r1]) rfl ?_
    exact ⟨by rw [HNO.out.1, HNO.out.2], HBX.out⟩
theorem fr_rest2 {U T : Int} (hT : 0 < T) : frU (frD U T - frU U T) (frD U T) = frU (T - U) T ∧ frD (frD U T - frU U T) (frD U T) = frD (T - U) T := by
  have h := fr_rest (U := U) (T := T) hT
  simp only [Int.one_mul, Int.mul_one] at h
  exact h
/-- The boxes of two results and of what is used for the second one. -/
structure PH (w : World) (q : Nat) (U D : Int) (W : World) : Prop where
  g : PG w W
  bq : Blk W q 27 #[.int .i64 U, .int .i64 D]
theorem PH.next {w W W' : World} {q : Nat} {U D : Int} (h : PH w q U D W) (k : Below W.heap.size W W') : PH w q U D W' := ⟨h.g.out_up k, blk_below h.bq k⟩
theorem PH.drew {w W : World} {q : Nat} {U D : Int} (h : PH w q U D W) : PH w q U D W.drew := h.next (Quiet.below ⟨1, rfl⟩)
/-- Both results are stored. -/
structure PZ (w : World) (U D V E : Int) (W : World) : Prop where
  r0 : W.cell? ⟨w.heap.size, 0, none⟩ = some (.int .i64 U)
  r1 : W.cell? ⟨w.heap.size, 1, none⟩ = some (.int .i64 D)
  r2 : W.cell? ⟨w.heap.size + 1, 0, none⟩ = some (.int .i64 V)
  r3 : W.cell? ⟨w.heap.size + 1, 1, none⟩ = some (.int .i64 E)
  up : Below w.heap.size w W
theorem PG.store {w W : World} (h : PG w W) (U D V E : Int) : PZ w U D V E ((((W.setCell ⟨w.heap.size, 0, none⟩ (.int .i64 U)).setCell ⟨w.heap.size, 1, none⟩ (.int .i64 D)).setCell ⟨w.heap.size + 1, 0, none⟩ (.int .i64 V)).setCell ⟨w.heap.size + 1, 1, none⟩ (.int .i64 E)) := by
  have hle : w.heap.size ≤ w.heap.size + 1 := by omega
  have B1 := blk_other (blk_other (blk_set (blk_set h.b0 0 (.int .i64 U)) 1 (.int .i64 D)) (p := ⟨w.heap.size + 1, 0, none⟩) (by show w.heap.size ≠ w.heap.size + 1; omega) (.int .i64 V)) (p := ⟨w.heap.size + 1, 1, none⟩) (by show w.heap.size ≠ w.heap.size + 1; omega) (.int .i64 E)
  have B2 := blk_set (blk_set (blk_other (blk_other h.b1 (p := ⟨w.heap.size, 0, none⟩) (by show w.heap.size + 1 ≠ w.heap.size; omega) (.int .i64 U)) (p := ⟨w.heap.size, 1, none⟩) (by show w.heap.size + 1 ≠ w.heap.size; omega) (.int .i64 D)) 0 (.int .i64 V)) 1 (.int .i64 E)
  exact ⟨blk_cell B1 (i := 0) rfl, blk_cell B1 (i := 1) rfl, blk_cell B2 (i := 0) rfl, blk_cell B2 (i := 1) rfl, (((h.up.setCell (p := ⟨w.heap.size, 0, none⟩) (Nat.le_refl _) (.int .i64 U)).setCell (p := ⟨w.heap.size, 1, none⟩) (Nat.le_refl _) (.int .i64 D)).setCell (p := ⟨w.heap.size + 1, 0, none⟩) hle (.int .i64 V)).setCell (p := ⟨w.heap.size + 1, 1, none⟩) hle (.int .i64 E)⟩
set_option maxRecDepth 100000 in
set_option maxHeartbeats 3200000 in
theorem FixedOnes_impl (A : Option Addr) (l c : Nat) (a : List (List Int)) (n : Int) (w : World) (hx : IntRows w A l c a) (hn : Fit n) :
    Calls Try.prog 26 #[.slice A l c, .int .i64 n] w (Ret (.tuple #[foP a n, foQ a n, .bool (pb (CQ a n))]) w) := by
  have HX := Lib.hid hx
  have HPF := Lib.hid (PG.start w)
  have HV := Lib.hid (isCrowd_any A l c a n _ (hx.keep HPF.out.keep) hn)
  clear hx hn
  by_cases hv : CQ a n
  · rw [pb_true hv] at HV
    obtain ⟨n, rfl, hcr⟩ := hv.nat
    have hn6 := hcr.n6
    have hn2 := hcr.n2
    rw [(fo_yes hcr).1, (fo_yes hcr).2.1, (fo_yes hcr).2.2]
    obtain ⟨b, o, rb, ro, cc, rfl, rfl, tab⟩ := hcr.tab HX.out
    have HT := Lib.hid tab
    have HCR := Lib.hid hcr
    have HF1V : Hid (frV (fxU a n 1) (fxT a n) = .agg #[.int .i64 (frU (fxU a n 1) (fxT a n)), .int .i64 (frD (fxU a n 1) (fxT a n))]) := Lib.hid rfl
    have HF2V : Hid (frV (fxU a n (n - 1)) (fxT a n) = .agg #[.int .i64 (frU (fxU a n (n - 1)) (fxT a n)), .int .i64 (frD (fxU a n (n - 1)) (fxT a n))]) := Lib.hid rfl
    have HQV : Hid (frV (fxT a n - fxU a n (n - 1)) (fxT a n) = .agg #[.int .i64 (frU (fxT a n - fxU a n (n - 1)) (fxT a n)), .int .i64 (frD (fxT a n - fxU a n (n - 1)) (fxT a n))]) := Lib.hid rfl
    have b1 := hcr.fr (i := n - 1) (by omega)
    have bx := hcr.fx (i := n - 1) (by omega)
    have HRS := Lib.hid (show frV (frD (fxU a n (n - 1)) (fxT a n) - frU (fxU a n (n - 1)) (fxT a n)) (frD (fxU a n (n - 1)) (fxT a n)) = frV (fxT a n - fxU a n (n - 1)) (fxT a n) from by unfold frV; rw [(fr_rest2 (U := fxU a n (n - 1)) (T := fxT a n) (by omega)).1, (fr_rest2 (U := fxU a n (n - 1)) (T := fxT a n) (by omega)).2])
    have HMI := Lib.hid (fun W => fracOf_any (frD (fxU a n (n - 1)) (fxT a n) - frU (fxU a n (n - 1)) (fxT a n)) (frD (fxU a n (n - 1)) (fxT a n)) W (by unfold Mid; omega) (by unfold Mid; omega) b1.2.1)
    rw [HRS.out, HQV.out] at HMI
    have hn1 : ((n : Int) - 1) = ((n - 1 : Nat) : Int) := by omega
    have HC1 := Lib.hid (fun W K => HF1V.out ▸ fixedFrom_any a n 1 b o c rb ro cc W HCR.out (HT.out.keep K) (by omega))
    have HC2 := Lib.hid (fun W K => HF2V.out ▸ hn1 ▸ fixedFrom_any a n (n - 1) b o c rb ro cc W HCR.out (HT.out.keep K) (by omega))
    rw [HF1V.out, HQV.out]
    generalize frU (fxU a n (n - 1)) (fxT a n) = U2 at *
    generalize frD (fxU a n (n - 1)) (fxT a n) = D2 at *
    generalize frU (fxU a n 1) (fxT a n) = U at *
    generalize frD (fxU a n 1) (fxT a n) = D at *
    generalize frU (fxT a n - fxU a n (n - 1)) (fxT a n) = V at *
    generalize frD (fxT a n - fxU a n (n - 1)) (fxT a n) = E at *
    have HGE := Lib.hid (And.intro HF1V.out HQV.out)
    obtain ⟨⟨p1, p2⟩, p3, p4⟩ := b1
    have hws : IntKind.i64.wrap (D2 - U2) = D2 - U2 := wrap_in64 (by omega)
    clear tab hcr hv HF1V HF2V HQV HCR hn1 bx HRS
    go_enter Try.func26, Try.ntmps26
    go_wp2_with fail
    refine HV.out.mono ?_
    rintro e w1 ⟨rfl, hb⟩
    have HPF1 := Lib.hid (HPF.out.out_up hb)
    clear hb HV HPF
    have HC := Lib.hid (HC2.out w1 HPF1.out.keep)
    go_wp2_with fail
    refine HC.out.mono ?_
    rintro e w2 ⟨rfl, hb⟩
    have HPF2 := Lib.hid (HPF1.out.out_up hb)
    clear hb HC HPF1
    have hb := below_alloc w2 (.cells #[.int .i64 U2, .int .i64 D2] 27)
    have HH := Lib.hid (show PH w w2.heap.size U2 D2 (w2.alloc (.cells #[.int .i64 U2, .int .i64 D2] 27)) from ⟨HPF2.out.out_up hb, blk_new w2 _ _⟩)
    clear hb HPF2
    have q0 := blk_cell HH.out.bq (i := 0) rfl
    have q1 := blk_cell HH.out.bq (i := 1) rfl
    go_wp2
    generalize w2.alloc (.cells #[.int .i64 U2, .int .i64 D2] 27) = w3 at *
    generalize w2.heap.size = q at *
    apply region_once (F := fun v => Hid (PZ w U D V E v))
    · go_region_law ((first
        | (go_simp; go_at_call 68; refine (HC1.out _ HH.out.drew.g.keep).mono ?_; rintro e v1 ⟨rfl, hb⟩; have D1 := Lib.hid (HH.out.drew.next hb); have y0 := blk_cell D1.out.bq (i := 0) rfl; have y1 := blk_cell D1.out.bq (i := 1) rfl; clear hb)
        | (go_simp; go_at_call 60; refine (HMI.out _).mono ?_; rintro e v2 ⟨rfl, hb⟩; have D9 := Lib.hid (D1.out.next hb); have z0 := blk_cell D9.out.g.b0 (i := 0) rfl; have z1 := blk_cell D9.out.g.b0 (i := 1) rfl; have z2 := blk_cell D9.out.g.b1 (i := 0) rfl; have z3 := blk_cell D9.out.g.b1 (i := 1) rfl; have f0 := blk_frozen D9.out.g.b0 0; have f1 := blk_frozen D9.out.g.b0 1; have f2 := blk_frozen D9.out.g.b1 0; have f3 := blk_frozen D9.out.g.b1 1; clear hb)))
      all_goals exact OnceQ.mk rfl (Lib.hid (D9.out.g.store U D V E))
    · rintro WE HZ
      clear q0 q1
      have r0 := HZ.out.r0
      have r1 := HZ.out.r1
      have r2 := HZ.out.r2
      have r3 := HZ.out.r3
      go_wp2
      refine bodyPost_ret (v := .tuple #[.agg #[.int .i64 U, .int .i64 D], .agg #[.int .i64 V, .int .i64 E], .bool true]) (by simp [results, Try.results26, go_sem, r0, r1, r2, r3]) rfl ?_
      exact ⟨by first | rfl | rw [HGE.out.1, HGE.out.2], HZ.out.up⟩
  · have HNO := Lib.hid (fo_no hv)
    rw [pb_false hv] at HV
    clear hv
    go_enter Try.func26, Try.ntmps26
    go_wp2_with fail
    refine HV.out.mono ?_
    rintro e w1 ⟨rfl, hb⟩
    have HPF1 := Lib.hid (HPF.out.out_up hb)
    clear hb HV HPF
    have c0 := blk_cell HPF1.out.b0 (i := 0) rfl
    have c1 := blk_cell HPF1.out.b0 (i := 1) rfl
    have c2 := blk_cell HPF1.out.b1 (i := 0) rfl
    have c3 := blk_cell HPF1.out.b1 (i := 1) rfl
    have f0 := blk_frozen HPF1.out.b0 0
    have f1 := blk_frozen HPF1.out.b0 1
    have f2 := blk_frozen HPF1.out.b1 0
    have f3 := blk_frozen HPF1.out.b1 1
    go_wp2
    clear c0 c1 c2 c3 f0 f1 f2 f3
    have hle : w.heap.size ≤ w.heap.size + 1 := by omega
    have B1 := blk_other (blk_other (blk_set (blk_set HPF1.out.b0 0 (.int .i64 0)) 1 (.int .i64 0)) (p := ⟨w.heap.size + 1, 0, none⟩) (by show w.heap.size ≠ w.heap.size + 1; omega) (.int .i64 0)) (p := ⟨w.heap.size + 1, 1, none⟩) (by show w.heap.size ≠ w.heap.size + 1; omega) (.int .i64 0)
    have B2 := blk_set (blk_set (blk_other (blk_other HPF1.out.b1 (p := ⟨w.heap.size, 0, none⟩) (by show w.heap.size + 1 ≠ w.heap.size; omega) (.int .i64 0)) (p := ⟨w.heap.size, 1, none⟩) (by show w.heap.size + 1 ≠ w.heap.size; omega) (.int .i64 0)) 0 (.int .i64 0)) 1 (.int .i64 0)
    have r0 := blk_cell B1 (i := 0) (v := .int .i64 0) rfl
    have r1 := blk_cell B1 (i := 1) (v := .int .i64 0) rfl
    have r2 := blk_cell B2 (i := 0) (v := .int .i64 0) rfl
    have r3 := blk_cell B2 (i := 1) (v := .int .i64 0) rfl
    have HBX := Lib.hid ((((HPF1.out.up.setCell (p := ⟨w.heap.size, 0, none⟩) (Nat.le_refl _) (.int .i64 0)).setCell (p := ⟨w.heap.size, 1, none⟩) (Nat.le_refl _) (.int .i64 0)).setCell (p := ⟨w.heap.size + 1, 0, none⟩) hle (.int .i64 0)).setCell (p := ⟨w.heap.size + 1, 1, none⟩) hle (.int .i64 0))
    clear B1 B2 HPF1
    generalize (((w1.setCell ⟨w.heap.size, 0, none⟩ (.int .i64 0)).setCell ⟨w.heap.size, 1, none⟩ (.int .i64 0)).setCell ⟨w.heap.size + 1, 0, none⟩ (.int .i64 0)).setCell ⟨w.heap.size + 1, 1, none⟩ (.int .i64 0) = WE at *
    refine bodyPost_ret (v := .tuple #[.agg #[.int .i64 0, .int .i64 0], .agg #[.int .i64 0, .int .i64 0], .bool false]) (by simp [results, Try.results26, go_sem, r0, r1, r2, r3]) rfl ?_
    exact ⟨by rw [HNO.out.1, HNO.out.2.1, HNO.out.2.2], HBX.out⟩
theorem CR.num0 {a : List (List Int)} {n : Nat} (_ : CR a n) : gi (numL (pfA a n) (pgA a n) (n - 1)) 0 = upP (pfA a n) (n - 1) := by
  rw [gi_numL (by omega), numP, upP, Nat.sub_zero]
  have e := up_dn (pfA a n) (n - 1) (n - 1) (Nat.le_refl _)
  rw [Nat.sub_self, upP] at e
  exact e.symm
theorem CR.numN {a : List (List Int)} {n : Nat} (_ : CR a n) : gi (numL (pfA a n) (pgA a n) (n - 1)) (n - 1) = upP (pgA a n) (n - 1) := by
  rw [gi_numL (Nat.le_refl _), numP, Nat.sub_self, dnP, Int.mul_one]
set_option maxRecDepth 100000 in
set_option maxHeartbeats 3200000 in
theorem OddsOf_impl (A : Option Addr) (l c : Nat) (a : List (List Int)) (n : Int) (w : World) (hx : IntRows w A l c a) (hn : Fit n) :
    Calls Try.prog 14 #[.slice A l c, .int .i64 n] w (Ret (.tuple #[odV a n, .bool (pb (CQ a n))]) w) := by
  have HX := Lib.hid hx
  have HPF := Lib.hid (PF.start w)
  have HV := Lib.hid (isCrowd_any A l c a n _ (hx.keep HPF.out.keep) hn)
  clear hx hn
  by_cases hv : CQ a n
  · rw [pb_true hv] at HV
    obtain ⟨n, rfl, hcr⟩ := hv.nat
    have hn6 := hcr.n6
    have hn2 := hcr.n2
    rw [(od_yes hcr).1, (od_yes hcr).2]
    obtain ⟨b, o, rb, ro, cc, rfl, rfl, tab⟩ := hcr.tab HX.out
    have HT := Lib.hid tab
    have HCR := Lib.hid hcr
    have HLN := Lib.hid hcr.numLen
    have HG0 := Lib.hid hcr.num0
    have HG1 := Lib.hid hcr.numN
    have u1 := up_bd hcr.fg.f hcr.fg.m5 (k := n - 1) (Nat.le_refl _)
    have u2 := up_bd hcr.fg.g hcr.fg.m5 (k := n - 1) (Nat.le_refl _)
    have HFV : Hid (frV (upP (pfA a n) (n - 1)) (upP (pgA a n) (n - 1)) = .agg #[.int .i64 (frU (upP (pfA a n) (n - 1)) (upP (pgA a n) (n - 1))), .int .i64 (frD (upP (pfA a n) (n - 1)) (upP (pgA a n) (n - 1)))]) := Lib.hid rfl
    have HFR := Lib.hid (fun W => HFV.out ▸ fracOf_any (upP (pfA a n) (n - 1)) (upP (pgA a n) (n - 1)) W (by unfold Mid; omega) (by unfold Mid; omega) u2.1)
    have HSN := Lib.hid (fun W K => stepNumbers_any a n b o c rb ro cc W HCR.out (HT.out.keep K))
    rw [HFV.out]
    clear tab hcr hv HCR u1 u2
    generalize frU (upP (pfA a n) (n - 1)) (upP (pgA a n) (n - 1)) = U at *
    generalize frD (upP (pfA a n) (n - 1)) (upP (pgA a n) (n - 1)) = D at *
    generalize upP (pfA a n) (n - 1) = X at *
    generalize upP (pgA a n) (n - 1) = Y at *
    generalize numL (pfA a n) (pgA a n) (n - 1) = xs at *
    go_enter Try.func14, Try.ntmps14
    go_wp2_with fail
    refine HV.out.mono ?_
    rintro e w1 ⟨rfl, hb⟩
    have HPF1 := Lib.hid (HPF.out.up hb)
    clear hb HV HPF
    have HC := Lib.hid (HSN.out w1 HPF1.out.keep)
    go_wp2_with fail
    refine HC.out.mono ?_
    rintro e w2 ⟨Av, n', c', gg, rfl, hn', ho, hb⟩
    have HPF2 := Lib.hid (HPF1.out.up hb)
    have hnn : n' = n := by rw [hn', HLN.out]
    subst hnn
    obtain ⟨by_, oy, rfl, hcy⟩ := ho.ints.at_ (by omega)
    have c0 := hcy 0 (by omega)
    have c1 := hcy (n' - 1) (by omega)
    rw [HG0.out, Nat.add_zero] at c0
    rw [HG1.out] at c1
    clear hb HC HPF1 ho hn' hcy
    have HCC := Lib.hid (And.intro c0 c1)
    have hi1 : (0 : Int) ≤ (n' : Int) - 1 := by omega
    have hi0 : 0 < n' := by omega
    have hi5 : (1 : Int) ≤ (n' : Int) := by omega
    have hi3 : (n' : Int) - 1 < (n' : Int) := by omega
    have hi4 : n' - 1 < n' := by omega
    have hi2 : ((n' : Int) - 1).toNat = n' - 1 := by omega
    have hws : IntKind.i64.wrap ((n' : Int) - 1) = (n' : Int) - 1 := wrap_in64 (by omega)
    go_wp2
    apply region_once (F := fun v => Hid (Blk v w.heap.size 27 #[.int .i64 U, .int .i64 D]) ∧ Hid (Below w.heap.size w v))
    · go_region_law ((first
        | (go_simp; go_at_call 60; refine (HFR.out _).mono ?_; rintro e v2 ⟨rfl, hb⟩; have D2 := Lib.hid ((HPF2.out.up (Quiet.below ⟨1, rfl⟩)).up hb); have z0 := blk_cell D2.out.box (i := 0) rfl; have z1 := blk_cell D2.out.box (i := 1) rfl; have f0 := blk_frozen D2.out.box 0; have f1 := blk_frozen D2.out.box 1; clear hb)))
      all_goals exact OnceQ.mk rfl ⟨Lib.hid (blk_set (blk_set D2.out.box 0 (.int .i64 U)) 1 (.int .i64 D)), Lib.hid ((D2.out.below.setCell (p := ⟨w.heap.size, 0, none⟩) (Nat.le_refl _) (.int .i64 U)).setCell (p := ⟨w.heap.size, 1, none⟩) (Nat.le_refl _) (.int .i64 D))⟩
    · rintro WE ⟨HB1, HBX⟩
      have r0 := blk_cell HB1.out (i := 0) (v := .int .i64 U) rfl
      have r1 := blk_cell HB1.out (i := 1) (v := .int .i64 D) rfl
      go_wp2
      refine bodyPost_ret (v := .tuple #[.agg #[.int .i64 U, .int .i64 D], .bool true]) (by simp [results, Try.results14, go_sem, r0, r1]) rfl ?_
      exact ⟨by first | rfl | rw [HFV.out], HBX.out⟩
  · have HNO := Lib.hid (od_no hv)
    rw [pb_false hv] at HV
    clear hv
    go_enter Try.func14, Try.ntmps14
    go_wp2_with fail
    refine HV.out.mono ?_
    rintro e w1 ⟨rfl, hb⟩
    have HPF1 := Lib.hid (HPF.out.up hb)
    clear hb HV HPF
    have HPF := HPF1
    clear HPF1
    have c0 := blk_cell HPF.out.box (i := 0) rfl
    have c1 := blk_cell HPF.out.box (i := 1) rfl
    have f0 := blk_frozen HPF.out.box 0
    have f1 := blk_frozen HPF.out.box 1
    go_wp2
    clear c0 c1 f0 f1
    have B1 := blk_set (blk_set HPF.out.box 0 (.int .i64 0)) 1 (.int .i64 0)
    have r0 := blk_cell B1 (i := 0) (v := .int .i64 0) rfl
    have r1 := blk_cell B1 (i := 1) (v := .int .i64 0) rfl
    have HBX := Lib.hid ((HPF.out.below.setCell (p := ⟨w.heap.size, 0, none⟩) (Nat.le_refl _) (.int .i64 0)).setCell (p := ⟨w.heap.size, 1, none⟩) (Nat.le_refl _) (.int .i64 0))
    clear B1 HPF
    generalize (w1.setCell ⟨w.heap.size, 0, none⟩ (.int .i64 0)).setCell ⟨w.heap.size, 1, none⟩ (.int .i64 0) = WE at *
    refine bodyPost_ret (v := .tuple #[.agg #[.int .i64 0, .int .i64 0], .bool false]) (by simp [results, Try.results14, go_sem, r0, r1]) rfl ?_
    exact ⟨by rw [HNO.out.1, HNO.out.2], HBX.out⟩
end Go.Proofs.Ytjkmgpiiamffgaa

/- Both strategies exchanged; chances as fair bets; more makes surer. Plain. -/
namespace Go.Proofs.Ytjkmgpiiamffgaa

theorem VP.mk2 {x y z t : Int} (hx : 1 ≤ x ∧ x ≤ 9) (hy : 1 ≤ y ∧ y ≤ 9) (hz : 1 ≤ z ∧ z ≤ 9) (ht : 1 ≤ t ∧ t ≤ 9) : VP [[x, y], [z, t]] := by
  have hr : ∀ i, i < 2 → (gr [[x, y], [z, t]] i).length = 2 ∧ RowV (gr [[x, y], [z, t]] i) := fun i hi => by
    have h : i = 0 ∨ i = 1 := by omega
    rcases h with rfl | rfl
    · refine ⟨rfl, by simp [gr], by simp [gr], fun j hj => ?_⟩
      have h : j = 0 ∨ j = 1 := by simp [gr] at hj; omega
      rcases h with rfl | rfl <;> simp [gr, gi, InR] <;> omega
    · refine ⟨rfl, by simp [gr], by simp [gr], fun j hj => ?_⟩
      have h : j = 0 ∨ j = 1 := by simp [gr] at hj; omega
      rcases h with rfl | rfl <;> simp [gr, gi, InR] <;> omega
  refine ⟨⟨⟨VT_of (by simp) (by simp) fun i hi => ⟨(hr i hi).1, (hr i hi).2⟩, rfl⟩, fun i j hi hj => ?_⟩, rfl⟩
  have h : i = 0 ∨ i = 1 := by simp at hi; omega
  have h' : j = 0 ∨ j = 1 := by simp at hj; omega
  rcases h with rfl | rfl <;> rcases h' with rfl | rfl <;> simp [g2, gr, gi] <;> omega
/-- Both strategies exchanged. -/
def flp (a : List (List Int)) : List (List Int) := [[g2 a 1 1, g2 a 1 0], [g2 a 0 1, g2 a 0 0]]
theorem VP.flp {a : List (List Int)} (h : VP a) : VP (flp a) := VP.mk2 (h.bd (by omega) (by omega)) (h.bd (by omega) (by omega)) (h.bd (by omega) (by omega)) (h.bd (by omega) (by omega))
theorem CR.flp {a n} (h : CR a n) : CR (flp a) n := ⟨h.p.flp, h.n2, h.n6⟩
theorem pf_flp (a : List (List Int)) {n i : Nat} (h : i ≤ n) : pfA (flp a) n i = pgA a n (n - i) := by
  have e : ((n - i : Nat) : Int) = (n : Int) - (i : Int) := by omega
  unfold pfA pgA flp
  rw [e]
  simp only [g2, gr, gi, List.getD_cons_zero, List.getD_cons_succ]
  grind
theorem pg_flp (a : List (List Int)) {n i : Nat} (h : i ≤ n) : pgA (flp a) n i = pfA a n (n - i) := by
  have e : ((n - i : Nat) : Int) = (n : Int) - (i : Int) := by omega
  unfold pfA pgA flp
  rw [e]
  simp only [g2, gr, gi, List.getD_cons_zero, List.getD_cons_succ]
  grind
theorem up_turn {f g : Nat → Int} {m : Nat} (h : ∀ j, 1 ≤ j → j ≤ m → g j = f (m + 1 - j)) : ∀ {k}, k ≤ m → upP g k = dnP f m k
  | 0, _ => rfl
  | k + 1, hk => by
    rw [upP, dnP, up_turn h (by omega), h (k + 1) (by omega) hk]
    congr 2
    omega
theorem dn_turn {f g : Nat → Int} {m : Nat} (h : ∀ j, 1 ≤ j → j ≤ m → f j = g (m + 1 - j)) : ∀ {t}, t ≤ m → dnP f m t = upP g t
  | 0, _ => rfl
  | t + 1, ht => by
    rw [upP, dnP, dn_turn h (by omega), h (m - t) (by omega) (by omega)]
    congr 2
    omega
theorem num_turn {f g f' g' : Nat → Int} {m k : Nat} (h1 : ∀ j, 1 ≤ j → j ≤ m → f' j = g (m + 1 - j)) (h2 : ∀ j, 1 ≤ j → j ≤ m → g' j = f (m + 1 - j)) (hk : k ≤ m) : numP f' g' m k = numP f g m (m - k) := by
  unfold numP
  rw [up_turn h2 hk, dn_turn h1 (by omega), Int.mul_comm]
  congr 2
  omega
theorem CR.num_flp {a n} (h : CR a n) {k : Nat} (hk : k ≤ n - 1) : numP (pfA (Go.Proofs.Ytjkmgpiiamffgaa.flp a) n) (pgA (Go.Proofs.Ytjkmgpiiamffgaa.flp a) n) (n - 1) k = numP (pfA a n) (pgA a n) (n - 1) (n - 1 - k) := by
  have hn := h.n2
  refine num_turn (fun j h1 hj => ?_) (fun j h1 hj => ?_) hk
  · rw [pf_flp a (by omega)]; congr 1; omega
  · rw [pg_flp a (by omega)]; congr 1; omega
theorem sm_cons (x : Int) (l : List Int) : ∀ k, sm (x :: l) (k + 1) = x + sm l k
  | 0 => by simp [sm, gi]
  | k + 1 => by
    rw [sm, sm_cons x l k, sm]
    have : gi (x :: l) (k + 1) = gi l k := by simp [gi]
    rw [this]; omega
theorem tot_cons (x : Int) (l : List Int) : tot (x :: l) = x + tot l := by unfold tot; rw [List.length_cons, sm_cons]
theorem tot_reverse : ∀ l : List Int, tot l.reverse = tot l
  | [] => rfl
  | x :: l => by rw [List.reverse_cons, tot_snoc, tot_reverse l, tot_cons]; omega
theorem CR.fxT_flp {a n} (h : CR a n) : fxT (Go.Proofs.Ytjkmgpiiamffgaa.flp a) n = fxT a n := by
  unfold fxT
  rw [← tot_reverse (numL (pfA a n) (pgA a n) (n - 1))]
  congr 1
  refine gi_ext (by simp [numL_len]) fun k hk => ?_
  rw [numL_len] at hk
  rw [gi_numL (by omega), h.num_flp (by omega), gi_get (by rw [List.length_reverse, numL_len]; exact hk), List.getElem_reverse, ← gi_get, numL_len, gi_numL (by omega)]
  congr 1
theorem fxU_one (a : List (List Int)) (n : Nat) : fxU a n 1 = numP (pfA a n) (pgA a n) (n - 1) 0 := by
  unfold fxU; rw [sm, sm, gi_numL (by omega)]; omega
theorem fxU_succ (a : List (List Int)) (n i : Nat) (h : i ≤ n - 1) : fxU a n (i + 1) = fxU a n i + numP (pfA a n) (pgA a n) (n - 1) i := by
  unfold fxU; rw [sm, gi_numL h]
theorem CR.fxU_all {a n} (h : CR a n) : fxU a n n = fxT a n := by
  unfold fxU fxT tot
  rw [numL_len]
  congr 1
  have := h.n2; omega
theorem CR.fx_last {a n} (h : CR a n) : fxT a n - fxU a n (n - 1) = numP (pfA a n) (pgA a n) (n - 1) (n - 1) := by
  have hn := h.n2
  have e := fxU_succ a n (n - 1) (Nat.le_refl _)
  rw [show n - 1 + 1 = n by omega, h.fxU_all] at e
  omega
/-- What both programs answer of both strategies exchanged. -/
theorem CR.fo_flp {a n} (h : CR a n) : foP (Go.Proofs.Ytjkmgpiiamffgaa.flp a) n = foQ a n ∧ foQ (Go.Proofs.Ytjkmgpiiamffgaa.flp a) n = foP a n := by
  have hn := h.n2
  rw [(fo_yes h).1, (fo_yes h).2.1, (fo_yes h.flp).1, (fo_yes h.flp).2.1, h.fx_last, h.flp.fx_last, fxU_one, fxU_one, h.fxT_flp, h.num_flp (by omega), h.num_flp (by omega), Nat.sub_zero, Nat.sub_self]
  exact ⟨rfl, rfl⟩
theorem CR.pa_flp {a n} (h : CR a n) {i : Nat} (h1 : 1 ≤ i) (hi : i < n) : paU (Go.Proofs.Ytjkmgpiiamffgaa.flp a) n (((n - i : Nat) : Int)) = pgA a n i ∧ paV (Go.Proofs.Ytjkmgpiiamffgaa.flp a) n (((n - i : Nat) : Int)) = pfA a n i := by
  have e := pa_yes h.flp (i := n - i) (by omega) (by omega)
  rw [e.1, e.2, pf_flp a (by omega), pg_flp a (by omega), show n - (n - i) = i by omega]
  exact ⟨rfl, rfl⟩
/-- All together have what all have against all others. -/
theorem pay_all (a : List (List Int)) (n i : Nat) : (i : Int) * pfA a n i + ((n : Int) - (i : Int)) * pgA a n i = (i : Int) * ((i : Int) - 1) * g2 a 0 0 + (i : Int) * ((n : Int) - (i : Int)) * (g2 a 0 1 + g2 a 1 0) + ((n : Int) - (i : Int)) * ((n : Int) - (i : Int) - 1) * g2 a 1 1 := by
  unfold pfA pgA
  grind
theorem CR.od_flp {a n} (h : CR a n) : odV (Go.Proofs.Ytjkmgpiiamffgaa.flp a) n = frV (upP (pgA a n) (n - 1)) (upP (pfA a n) (n - 1)) := by
  have hn := h.n2
  rw [(od_yes h.flp).1]
  have e1 : upP (pfA (Go.Proofs.Ytjkmgpiiamffgaa.flp a) n) (n - 1) = upP (pgA a n) (n - 1) := by
    rw [up_turn (f := pgA a n) (m := n - 1) (fun j h1 hj => by rw [pf_flp a (by omega)]; congr 1; omega) (Nat.le_refl _)]
    have e := up_dn (pgA a n) (n - 1) (n - 1) (Nat.le_refl _)
    rw [Nat.sub_self, upP, Int.one_mul] at e
    exact e.symm
  have e2 : upP (pgA (Go.Proofs.Ytjkmgpiiamffgaa.flp a) n) (n - 1) = upP (pfA a n) (n - 1) := by
    rw [up_turn (f := pfA a n) (m := n - 1) (fun j h1 hj => by rw [pg_flp a (by omega)]; congr 1; omega) (Nat.le_refl _)]
    have e := up_dn (pfA a n) (n - 1) (n - 1) (Nat.le_refl _)
    rw [Nat.sub_self, upP, Int.one_mul] at e
    exact e.symm
  rw [e1, e2]
/-- A number of a step, times what the one strategy has, is the number ahead of it times what the other one has. -/
theorem num_fair {f g : Nat → Int} {m i : Nat} (h1 : 1 ≤ i) (hi : i ≤ m) : f i * numP f g m i = g i * numP f g m (i - 1) := by
  unfold numP
  have e : m - (i - 1) = (m - i) + 1 := by omega
  have e2 : m - (m - i) = i := by omega
  rw [e, dnP, e2]
  obtain ⟨k, rfl⟩ : ∃ k, i = k + 1 := ⟨i - 1, by omega⟩
  rw [Nat.add_sub_cancel, upP]
  grind
/-- More for the first strategy makes its numbers fall less. -/
theorem num_cross {f g f' g' : Nat → Int} {m : Nat} (hf : ∀ j, 1 ≤ j → j ≤ m → 0 < f j ∧ f j ≤ f' j) (hg : ∀ j, 1 ≤ j → j ≤ m → 0 < g' j ∧ g' j ≤ g j) :
    ∀ {k l}, k ≤ l → l ≤ m → numP f' g' m l * numP f g m k ≤ numP f' g' m k * numP f g m l
  | k, 0, hk, _ => by obtain rfl : k = 0 := by omega
                      exact Int.le_refl _
  | k, l + 1, hk, hl => by
    by_cases e : k = l + 1
    · subst e; exact Int.le_refl _
    · have ih := num_cross hf hg (k := k) (l := l) (by omega) (by omega)
      have h1 := num_fair (f := f) (g := g) (m := m) (i := l + 1) (by omega) hl
      have h2 := num_fair (f := f') (g := g') (m := m) (i := l + 1) (by omega) hl
      rw [Nat.add_sub_cancel] at h1 h2
      have a1 := hf (l + 1) (by omega) hl
      have a2 := hg (l + 1) (by omega) hl
      have pos : ∀ (F G : Nat → Int), (∀ j, 1 ≤ j → j ≤ m → 0 < F j) → (∀ j, 1 ≤ j → j ≤ m → 0 < G j) → ∀ q, q ≤ m → 0 < numP F G m q := fun F G hF hG q hq => by
        have u : ∀ q, q ≤ m → 0 < upP G q := fun q => by
          induction q with
          | zero => intro _; exact Int.one_pos
          | succ q ihq => intro h; exact Int.mul_pos (ihq (by omega)) (hG (q + 1) (by omega) h)
        have d : ∀ t, t ≤ m → 0 < dnP F m t := fun t => by
          induction t with
          | zero => intro _; exact Int.one_pos
          | succ t iht => intro h; exact Int.mul_pos (iht (by omega)) (hF (m - t) (by omega) (by omega))
        exact Int.mul_pos (u q hq) (d (m - q) (by omega))
      have p1 := pos f g (fun j x y => (hf j x y).1) (fun j x y => by have := hg j x y; omega) k (by omega)
      have p2 := pos f g (fun j x y => (hf j x y).1) (fun j x y => by have := hg j x y; omega) (l + 1) hl
      have p3 := pos f' g' (fun j x y => by have := hf j x y; omega) (fun j x y => (hg j x y).1) (l + 1) hl
      have p4 := pos f' g' (fun j x y => by have := hf j x y; omega) (fun j x y => (hg j x y).1) k (by omega)
      have p5 := pos f g (fun j x y => (hf j x y).1) (fun j x y => by have := hg j x y; omega) l (by omega)
      have p6 := pos f' g' (fun j x y => by have := hf j x y; omega) (fun j x y => (hg j x y).1) l (by omega)
      generalize numP f' g' m (l + 1) = A at *
      generalize numP f g m k = B at *
      generalize numP f' g' m k = C at *
      generalize numP f g m (l + 1) = D at *
      generalize numP f' g' m l = E at *
      generalize numP f g m l = G at *
      generalize f (l + 1) = x at *
      generalize f' (l + 1) = x' at *
      generalize g (l + 1) = y at *
      generalize g' (l + 1) = y' at *
      -- A x' = y' E, D x = y G, E B ≤ C G, x ≤ x', y' ≤ y
      have q1 : x' * A * (B * x) ≤ x' * (C * D * x) := by
        have s1 : x' * A * (B * x) = y' * x * (E * B) := by rw [h2]; grind
        have s2 : x' * (C * D * x) = x' * y * (C * G) := by
          have : x' * (C * D * x) = x' * C * (x * D) := by grind
          rw [this, h1]; grind
        rw [s1, s2]
        have t1 : y' * x * (E * B) ≤ y' * x * (C * G) := Int.mul_le_mul_of_nonneg_left ih (Int.le_of_lt (Int.mul_pos a2.1 a1.1))
        have t2 : y' * x ≤ y * x' := Int.mul_le_mul a2.2 a1.2 (by omega) (by omega)
        have t3 : y' * x * (C * G) ≤ y * x' * (C * G) := Int.mul_le_mul_of_nonneg_right t2 (Int.le_of_lt (Int.mul_pos p4 p5))
        have t4 : y * x' * (C * G) = x' * y * (C * G) := by grind
        omega
      have hp : 0 < x' * x := Int.mul_pos (by omega) a1.1
      apply Classical.byContradiction
      intro hn
      have q2 : x' * x * (C * D) < x' * x * (A * B) := Int.mul_lt_mul_of_pos_left (by omega) hp
      have q3 : x' * A * (B * x) = x' * x * (A * B) := by grind
      have q4 : x' * (C * D * x) = x' * x * (C * D) := by grind
      omega
end Go.Proofs.Ytjkmgpiiamffgaa

