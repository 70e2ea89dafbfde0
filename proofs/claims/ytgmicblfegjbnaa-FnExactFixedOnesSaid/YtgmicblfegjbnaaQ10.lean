/- Texts merged: U5 U6 U7 H1 V8 V9 Y2 UD UE UF Math32 Put UG. -/
import Derived.Test.YtgmicblfegjbnaaQ9
import Derived.Defers
/- The numbers of steps, by the program: deferred calls, laid in a loop. -/
namespace Go.Proofs.Ytgmicblfegjbnaa
open Go.RowKit

/-- The numbers, those behind k times all that is behind them. -/
def midL (f g : Nat → Int) (m n k : Nat) : List Int := (List.range n).map fun j => if j < k then upP g j else numP f g m j
/-- The numbers as the loop leaves them. -/
def ahL (g : Nat → Int) (n k : Nat) : List Int := (List.range n).map fun j => if j < k then upP g j else 0
theorem midL_len (f g : Nat → Int) (m n k : Nat) : (midL f g m n k).length = n := by simp [midL]
theorem ahL_len (g : Nat → Int) (n k : Nat) : (ahL g n k).length = n := by simp [ahL]
theorem gi_midL {f g : Nat → Int} {m n k j : Nat} (h : j < n) : gi (midL f g m n k) j = if j < k then upP g j else numP f g m j := by rw [gi_get (by rw [midL_len]; exact h)]; simp [midL]
theorem gi_ahL {g : Nat → Int} {n k j : Nat} (h : j < n) : gi (ahL g n k) j = if j < k then upP g j else 0 := by rw [gi_get (by rw [ahL_len]; exact h)]; simp [ahL]
theorem gi_set1 {xs : List Int} {k j : Nat} {v : Int} (h : j < xs.length) : gi (xs.set k v) j = if k = j then v else gi xs j := by
  rw [gi_get (by rw [List.length_set]; exact h), List.getElem_set, gi_get h]
theorem ahL_zero (g : Nat → Int) (n : Nat) : List.replicate n 0 = ahL g n 0 := gi_ext (by rw [ahL_len]; simp) fun p hp => by
  simp only [List.length_replicate] at hp
  rw [gi_repl hp, gi_ahL hp, if_neg (by omega)]
theorem ahL_set (g : Nat → Int) (n k : Nat) : (ahL g n k).set k (upP g k) = ahL g n (k + 1) := gi_ext (by rw [List.length_set, ahL_len, ahL_len]) fun p hp => by
  rw [List.length_set, ahL_len] at hp
  rw [gi_set1 (by rw [ahL_len]; exact hp), gi_ahL hp, gi_ahL hp]
  by_cases e : k = p
  · subst e; rw [if_pos rfl, if_pos (by omega)]
  · rw [if_neg e]; split <;> split <;> first | rfl | omega
theorem ahL_end (f g : Nat → Int) (m : Nat) : (ahL g (m + 1) m).set m (upP g m) = midL f g m (m + 1) m := gi_ext (by rw [List.length_set, ahL_len, midL_len]) fun p hp => by
  rw [List.length_set, ahL_len] at hp
  rw [gi_set1 (by rw [ahL_len]; exact hp), gi_ahL hp, gi_midL hp]
  by_cases e : m = p
  · subst e; rw [if_pos rfl, if_neg (by omega), numP, Nat.sub_self, dnP]; simp
  · rw [if_neg e, if_pos (by omega), if_pos (by omega)]
theorem midL_set (f g : Nat → Int) (m n k : Nat) : (midL f g m n (k + 1)).set k (numP f g m k) = midL f g m n k := gi_ext (by rw [List.length_set, midL_len, midL_len]) fun p hp => by
  rw [List.length_set, midL_len] at hp
  rw [gi_set1 (by rw [midL_len]; exact hp), gi_midL hp, gi_midL hp]
  by_cases e : k = p
  · subst e; rw [if_pos rfl, if_neg (by omega)]
  · rw [if_neg e]; split <;> split <;> first | rfl | omega
theorem midL_zero (f g : Nat → Int) (m : Nat) : midL f g m (m + 1) 0 = numL f g m := gi_ext (by rw [midL_len, numL_len]) fun p hp => by
  rw [midL_len] at hp
  rw [gi_midL hp, if_neg (by omega), gi_numL (by omega)]

/-- What lies behind block B stays. -/
def KeepA (B : Nat) (W W' : World) : Prop := ∀ p u, B < p.block → W.cell? p = some u → W'.cell? p = some u
/-- Memory while the deferred calls run: k are still to come. -/
structure LT (f g : Nat → Int) (m : Nat) (w : World) (n k : Nat) (W : World) : Prop where
  su : SU w n (midL f g m n k) W
  nb : W.cell? ⟨w.heap.size + 1, 0, none⟩ = some (.slice (some ⟨w.heap.size, 0, none⟩) n n)
  bb : Blk W (w.heap.size + 2) 3 #[.int .i64 (dnP f m (m - k))]
/-- One deferred call. -/
def dfr (w : World) (F K : Nat) : Deferred := { target := .fn (.func 70) #[.pointer (some ⟨w.heap.size + 1 + 1, 0, none⟩), .pointer (some ⟨F, 0, none⟩), .pointer (some ⟨w.heap.size + 1, 0, none⟩), .pointer (some ⟨K, 0, none⟩)], args := #[] }
def dfa (w : World) (F K : Nat) : Array Value := #[.pointer (some ⟨w.heap.size + 1 + 1, 0, none⟩), .pointer (some ⟨F, 0, none⟩), .pointer (some ⟨w.heap.size + 1, 0, none⟩), .pointer (some ⟨K, 0, none⟩)]
/-- The deferred calls of the first k steps, and their variables. -/
def DL (f : Nat → Int) (w : World) : Nat → List Deferred → World → Prop
  | 0, ds, _ => ds = []
  | k + 1, ds, W => ∃ F K ds', ds = dfr w F K :: ds' ∧ w.heap.size + 2 < F ∧ w.heap.size + 2 < K ∧ W.cell? ⟨F, 0, none⟩ = some (.int .i64 (f (k + 1))) ∧ W.cell? ⟨K, 0, none⟩ = some (.int .i64 (k : Int)) ∧ DL f w k ds' W
theorem DL.keep {f : Nat → Int} {w W W' : World} (h : KeepA (w.heap.size + 2) W W') : ∀ {k ds}, DL f w k ds W → DL f w k ds W'
  | 0, _, d => d
  | _ + 1, _, ⟨F, K, ds', e, h1, h2, c1, c2, d⟩ => ⟨F, K, ds', e, h1, h2, h _ _ h1 c1, h _ _ h2 c2, DL.keep h d⟩
theorem KeepA.of {B : Nat} {W W' : World} (h : Keep W W') : KeepA B W W' := fun p u _ e => h p u e
theorem KeepA.trans {B : Nat} {W W' W'' : World} (h : KeepA B W W') (k : KeepA B W' W'') : KeepA B W W'' := fun p u b e => k p u b (h p u b e)
theorem KeepA.set {B : Nat} (W : World) {q : Addr} (v : Value) (h : q.block ≤ B) : KeepA B W (W.setCell q v) := fun p u b e => by
  rw [World.cell?_setCell_other _ _ _ _ (by intro e; have := congrArg Addr.block e; omega)]; exact e

set_option maxRecDepth 100000 in
set_option maxHeartbeats 1600000 in
theorem defer_raw (H N M F K n j : Nat) (B f x : Int) (u : FrameMode) (W : World) (hHN : H ≠ N) (hHM : H ≠ M) (hHK : H ≠ K) (hj : j < n)
    (cH : W.cell? ⟨H, 0, none⟩ = some (.int .i64 B)) (zH : W.frozen? ⟨H, 0, none⟩ = false) (cF : W.cell? ⟨F, 0, none⟩ = some (.int .i64 f)) (cM : W.cell? ⟨M, 0, none⟩ = some (.slice (some ⟨N, 0, none⟩) n n))
    (cK : W.cell? ⟨K, 0, none⟩ = some (.int .i64 (j : Int))) (cN : W.cell? ⟨N, j, none⟩ = some (.int .i64 x)) (zN : W.frozen? ⟨N, j, none⟩ = false)
    (b1 : -1000000000 ≤ B * f ∧ B * f ≤ 1000000000) (b2 : -1000000000000 ≤ x * (B * f) ∧ x * (B * f) ≤ 1000000000000) :
    CallsD Try.prog 70 #[.pointer (some ⟨H, 0, none⟩), .pointer (some ⟨F, 0, none⟩), .pointer (some ⟨M, 0, none⟩), .pointer (some ⟨K, 0, none⟩)] u W
      fun e u' W' => u' = u ∧ (e = .returned (.tuple #[]) ∧ Quiet ((W.setCell ⟨H, 0, none⟩ (.int .i64 (B * f))).setCell ⟨N, j, none⟩ (.int .i64 (x * (B * f)))) W') := by
  have d1 : (W.setCell ⟨H, 0, none⟩ (.int .i64 (B * f))).cell? ⟨H, 0, none⟩ = some (.int .i64 (B * f)) := World.cell?_setCell_same _ _ _ (by first | (rw [cH]; done) | (rw [cH]; simp) | simp [cH])
  have d2 : (W.setCell ⟨H, 0, none⟩ (.int .i64 (B * f))).cell? ⟨M, 0, none⟩ = some (.slice (some ⟨N, 0, none⟩) n n) := by
    rw [World.cell?_setCell_other _ _ _ _ (by intro e; have := congrArg Addr.block e; first | exact hHM this | exact hHM this.symm)]; exact cM
  have d3 : (W.setCell ⟨H, 0, none⟩ (.int .i64 (B * f))).cell? ⟨K, 0, none⟩ = some (.int .i64 (j : Int)) := by
    rw [World.cell?_setCell_other _ _ _ _ (by intro e; have := congrArg Addr.block e; first | exact hHK this | exact hHK this.symm)]; exact cK
  have d4 : (W.setCell ⟨H, 0, none⟩ (.int .i64 (B * f))).cell? ⟨N, j, none⟩ = some (.int .i64 x) := by
    rw [World.cell?_setCell_other _ _ _ _ (by intro e; have := congrArg Addr.block e; first | exact hHN this | exact hHN this.symm)]; exact cN
  have d5 : (W.setCell ⟨H, 0, none⟩ (.int .i64 (B * f))).frozen? ⟨N, j, none⟩ = false := by simpa using zN
  have HD := Lib.hid (And.intro d1 (And.intro d2 (And.intro d3 (And.intro d4 d5))))
  obtain ⟨b11, b12⟩ := b1
  obtain ⟨b21, b22⟩ := b2
  have hw1 : IntKind.i64.wrap (B * f) = B * f := wrap_in64 (by omega)
  have hw2 : IntKind.i64.wrap (x * (B * f)) = x * (B * f) := wrap_in64 (by omega)
  clear d1 d2 d3 d4 d5 cM cK cN zN
  go_enter_d Try.func70, Try.ntmps70
  go_wp2
  obtain ⟨d1, d2, d3, d4, d5⟩ := HD.out
  generalize hV : W.setCell ⟨H, 0, none⟩ (.int .i64 (B * f)) = V at *
  have HV := Lib.hid hV
  clear hV
  generalize hC : B * f = C at *
  have HC := Lib.hid hC
  clear hC
  go_region
  all_goals go_wp2
  all_goals go_end0
  all_goals exact ⟨rfl, by rw [HC.out, HV.out]; first | exact Quiet.refl _ | exact ⟨1, rfl⟩⟩
theorem LT.quiet {f g : Nat → Int} {m : Nat} {w W W' : World} {n k : Nat} (h : LT f g m w n k W) (q : Quiet W W') : LT f g m w n k W' :=
  ⟨h.su.qu q, Keep.quiet q _ _ h.nb, blk_quiet h.bb q⟩
theorem LT.back {f g : Nat → Int} {m : Nat} {w W : World} {n j : Nat} (h : LT f g m w n (j + 1) W) (hfg : FG f g m) (hn : n = m + 1) (hj : j < m) :
    LT f g m w n j ((W.setCell ⟨w.heap.size + 1 + 1, 0, none⟩ (.int .i64 (dnP f m (m - j)))).setCell ⟨w.heap.size, j, none⟩ (.int .i64 (numP f g m j))) := by
  have hjn : j < n := by omega
  have b3 := numP_bd hfg (k := j) (by omega)
  have hsu : SU w n (midL f g m n (j + 1)) (W.setCell ⟨w.heap.size + 1 + 1, 0, none⟩ (.int .i64 (dnP f m (m - j)))) :=
    ⟨h.su.own.of_block fun _ => Below.heap_setCell _ _ _ _ (by show w.heap.size ≠ w.heap.size + 1 + 1; omega), h.su.up.setCell (p := ⟨w.heap.size + 1 + 1, 0, none⟩) (by show w.heap.size ≤ w.heap.size + 1 + 1; omega) _, by simpa [World.setCell] using h.su.sz⟩
  have hs2 := hsu.set hjn (v := numP f g m j) (by omega)
  rw [midL_set] at hs2
  refine ⟨hs2, ?_, ?_⟩
  · rw [World.cell?_setCell_other _ _ _ _ (by intro e; have := congrArg Addr.block e; simp at this), World.cell?_setCell_other _ _ _ _ (by intro e; have := congrArg Addr.block e; simp at this)]; exact h.nb
  · refine blk_other (p := ⟨w.heap.size, j, none⟩) ?_ (by show w.heap.size + 2 ≠ w.heap.size; omega) _
    exact blk_set h.bb 0 (.int .i64 (dnP f m (m - j)))
theorem defer_any (f g : Nat → Int) (m n j F K : Nat) (u : FrameMode) (w W : World) (h : LT f g m w n (j + 1) W) (hfg : FG f g m) (hn : n = m + 1) (hj : j < m) (hK : w.heap.size + 2 < K)
    (cF : W.cell? ⟨F, 0, none⟩ = some (.int .i64 (f (j + 1)))) (cK : W.cell? ⟨K, 0, none⟩ = some (.int .i64 (j : Int))) :
    CallsD Try.prog 70 (dfa w F K) u W
      fun e u' W' => u' = u ∧ (e = .returned (.tuple #[]) ∧ LT f g m w n j W' ∧ KeepA (w.heap.size + 2) W W') := by
  have hjn : j < n := by omega
  have hm5 := hfg.m5
  have e1 : dnP f m (m - (j + 1)) * f (j + 1) = dnP f m (m - j) := by
    have h1 : m - j = (m - (j + 1)) + 1 := by omega
    have h2 : m - (m - (j + 1)) = j + 1 := by omega
    rw [h1, dnP, h2]
  have e2 : upP g j * dnP f m (m - j) = numP f g m j := rfl
  have b1 := dnP_bd (f := f) (m := m) (t := m - j) (by omega) hfg.f
  have b2 := p45_5 (k := m - j) (by omega)
  have b3 := numP_bd hfg (k := j) (by omega)
  have c3 := h.su.cell hjn
  rw [gi_midL hjn, if_pos (by omega)] at c3
  have hr := defer_raw (w.heap.size + 1 + 1) w.heap.size (w.heap.size + 1) F K n j (dnP f m (m - (j + 1))) (f (j + 1)) (upP g j) u W (by omega) (by omega) (by omega) hjn
    (blk_cell h.bb (i := 0) rfl) (blk_frozen h.bb 0) cF h.nb cK c3 (h.su.frozen hjn) (by rw [e1]; omega) (by rw [e1, e2]; omega)
  refine hr.mono ?_
  rintro e u' W' ⟨h1, h2, hq⟩
  rw [e1, e2] at hq
  refine ⟨h1, h2, (h.back hfg hn hj).quiet hq, ?_⟩
  exact ((KeepA.set _ _ (by show w.heap.size + 1 + 1 ≤ _; omega)).trans (KeepA.set _ _ (by show w.heap.size ≤ _; omega))).trans (KeepA.of (Keep.quiet hq))
/-- All deferred calls, the last one laid first. -/
theorem leaves_any (f g : Nat → Int) (m n : Nat) (w : World) (fn : Func) (tmps : Array Value) (R : Ending → World → Prop) (hfg : FG f g m) (hn : n = m + 1)
    (hR : ∀ W, LT f g m w n 0 W → ∃ v, (results fn tmps).run Try.prog W = .ok v W ∧ R (.returned v) W) :
    ∀ (k : Nat) (ds : List Deferred) (W : World), k ≤ m → DL f w k ds W → LT f g m w n k W → Leaves Try.prog fn tmps R ds .returning W
  | 0, ds, W, _, hd, hl => by
    obtain rfl : ds = [] := hd
    exact hR W hl
  | k + 1, ds, W, hk, hd, hl => by
    obtain ⟨F, K, ds', rfl, hF, hK, cF, cK, hd'⟩ := hd
    refine leaves_cons (f := 70) (args := (dfa w F K)) (by simp) (by simp [dfa, go_sem]) ?_
    refine (defer_any f g m n k F K .returning w W hl hfg hn (by omega) hK cF cK).mono ?_
    rintro e u' W' ⟨rfl, rfl, hl', hka⟩
    exact leaves_any f g m n w fn tmps R hfg hn hR k ds' W' (by omega) (hd'.keep hka) hl'

end Go.Proofs.Ytgmicblfegjbnaa

/- The numbers of steps, by the program. -/
namespace Go.Proofs.Ytgmicblfegjbnaa
open Go.RowKit

/-- Memory while the calls are laid: k are laid. -/
structure ST (f g : Nat → Int) (w : World) (n k : Nat) (ds : List Deferred) (W : World) : Prop where
  su : SU w n (ahL g n k) W
  nb : W.cell? ⟨w.heap.size + 1, 0, none⟩ = some (.slice (some ⟨w.heap.size, 0, none⟩) n n)
  bb : Blk W (w.heap.size + 1 + 1) 3 #[.int .i64 1]
  dd : DL f w k ds W
theorem ST.up {f g : Nat → Int} {w W W' : World} {n k : Nat} {ds : List Deferred} (h : ST f g w n k ds W) (b : Below W.heap.size W W') : ST f g w n k ds W' :=
  ⟨⟨h.su.own.below b, below_up h.su.up b, Nat.le_trans h.su.sz b.size⟩, Keep.below b _ _ h.nb, blk_below h.bb b, h.dd.keep (KeepA.of (Keep.below b))⟩
theorem ST.start (f g : Nat → Int) (w : World) (n : Nat) (hn : n ≤ 100) : ST f g w n 0 [] (((w.alloc (.cells (madeCells #[.int .i64 0] n) 3)).alloc (.cells #[.slice (some ⟨w.heap.size, 0, none⟩) n n] 43)).alloc (.cells #[.int .i64 1] 3)) := by
  have h1 := SU.start w n hn
  have b2 := below_alloc (w.alloc (.cells (madeCells #[.int .i64 0] n) 3)) (.cells #[.slice (some ⟨w.heap.size, 0, none⟩) n n] 43)
  have b3 := below_alloc ((w.alloc (.cells (madeCells #[.int .i64 0] n) 3)).alloc (.cells #[.slice (some ⟨w.heap.size, 0, none⟩) n n] 43)) (.cells #[.int .i64 1] 3)
  have k2 := blk_new (w.alloc (.cells (madeCells #[.int .i64 0] n) 3)) 43 #[.slice (some ⟨w.heap.size, 0, none⟩) n n]
  have k3 := blk_new ((w.alloc (.cells (madeCells #[.int .i64 0] n) 3)).alloc (.cells #[.slice (some ⟨w.heap.size, 0, none⟩) n n] 43)) 3 #[.int .i64 1]
  rw [ahL_zero g n] at h1
  have hb := below_up b2 b3
  simp only [World.size_alloc] at k2 k3
  refine ⟨⟨h1.own.below hb, below_up h1.up hb, Nat.le_trans h1.sz hb.size⟩, ?_, k3, rfl⟩
  exact blk_cell (blk_old k2 _) (i := 0) rfl
theorem ST.step {f g : Nat → Int} {w W : World} {n k K : Nat} {ds : List Deferred} (h0 : ST f g w n k ds W) (hk : k < n) (hK : w.heap.size + 2 < K) (cK : W.cell? ⟨K, 0, none⟩ = some (.int .i64 (k : Int))) (hg : 1 ≤ upP g k ∧ upP g k ≤ 184528125) :
    ST f g w n (k + 1) (dfr w W.heap.size K :: ds) ((W.alloc (.cells #[.int .i64 (f (k + 1))] 3)).setCell ⟨w.heap.size, k, none⟩ (.int .i64 (upP g k))) := by
  have hb := below_alloc W (.cells #[.int .i64 (f (k + 1))] 3)
  have k1 := blk_cell (blk_new W 3 #[.int .i64 (f (k + 1))]) (i := 0) rfl
  have h := h0.up hb
  have cK1 := Keep.below hb _ _ cK
  have hz := blk_lt h0.bb
  generalize W.alloc (.cells #[.int .i64 (f (k + 1))] 3) = V at *
  have hs := h.su.set hk (v := upP g k) (by omega)
  rw [ahL_set] at hs
  have hKA : KeepA (w.heap.size + 2) V (V.setCell ⟨w.heap.size, k, none⟩ (.int .i64 (upP g k))) := KeepA.set _ _ (by show w.heap.size ≤ _; omega)
  refine ⟨hs, ?_, ?_, ?_⟩
  · rw [World.cell?_setCell_other _ _ _ _ (by intro e; have := congrArg Addr.block e; simp at this)]; exact h.nb
  · exact blk_other h.bb (p := ⟨w.heap.size, k, none⟩) (by show w.heap.size + 1 + 1 ≠ w.heap.size; omega) _
  · exact ⟨W.heap.size, K, ds, rfl, by omega, hK, hKA _ _ (by show w.heap.size + 2 < W.heap.size; omega) k1, hKA _ _ hK cK1, h.dd.keep hKA⟩
theorem ST.last {f g : Nat → Int} {w W : World} {m : Nat} {ds : List Deferred} (h : ST f g w (m + 1) m ds W) (hg : 1 ≤ upP g m ∧ upP g m ≤ 184528125) :
    LT f g m w (m + 1) m (W.setCell ⟨w.heap.size, m, none⟩ (.int .i64 (upP g m))) ∧ DL f w m ds (W.setCell ⟨w.heap.size, m, none⟩ (.int .i64 (upP g m))) := by
  have hs := h.su.set (k := m) (by omega) (v := upP g m) (by omega)
  rw [ahL_end f g m] at hs
  refine ⟨⟨hs, ?_, ?_⟩, h.dd.keep (KeepA.set _ _ (by show w.heap.size ≤ _; omega))⟩
  · rw [World.cell?_setCell_other _ _ _ _ (by intro e; have := congrArg Addr.block e; simp at this)]; exact h.nb
  · rw [Nat.sub_self]
    exact blk_other h.bb (p := ⟨w.heap.size, m, none⟩) (by show w.heap.size + 1 + 1 ≠ w.heap.size; omega) _

set_option maxRecDepth 100000 in
set_option maxHeartbeats 3200000 in
theorem stepNumbers_any (a : List (List Int)) (n b o c : Nat) (rb ro cc : Nat → Nat) (w : World) (h : CR a n) (ht : Tab w b o rb ro cc 2 2 a) :
    Calls Try.prog 54 #[.slice (some ⟨b, o, none⟩) 2 c, .int .i64 n] w (NewI w (numL (pfA a n) (pgA a n) (n - 1))) := by
  have hn6 := h.n6
  have hn2 := h.n2
  have HCR := Lib.hid h
  have HFG := Lib.hid h.fg
  have HT := Lib.hid ht
  have hmf : ∀ (fn : Fn) (first cap : Array Value) (w : World), (Instr.makeFunc fn first cap).run Try.prog w = .ok (.func fn first cap) w := fun _ _ _ _ => rfl
  have hmk := run_make_row' (P := Try.prog) 43 3 (.int .i64 0) 8 Try.underlying43 Try.info3 rfl .i64 .i64 n (by omega) (by omega)
  have HS0 := Lib.hid (ST.start (pfA a n) (pgA a n) w n (by omega))
  clear h ht
  go_enter_defers Try.func54, Try.ntmps54
  go_wp2
  clear hmk
  generalize ((w.alloc (.cells (madeCells #[.int .i64 0] n) 3)).alloc (.cells #[.slice (some ⟨w.heap.size, 0, none⟩) n n] 43)).alloc (.cells #[.int .i64 1] 3) = W0 at *
  refine wp_loop (fun a' W => ∃ (u6 u8 u9 u10 u15 u16 u17 u18 u19 u20 u21 u22 u23 u24 u25 u26 u27 u28 u29 u30 u31 u32 u33 u34 : Value) (ds : List Deferred), (∃ k : Nat, k ≤ n - 1 ∧ u15 = .int .i64 k ∧ u6 = .int .i64 (upP (pgA a n) k) ∧ Hid (ST (pfA a n) (pgA a n) w n k ds W)) ∧ a' = ⟨#[.slice (some ⟨b, o, none⟩) 2 c, .int .i64 n, undef, undef, .slice none 0 0, .pointer (some ⟨w.heap.size + 1, 0, none⟩), u6, .pointer (some ⟨w.heap.size + 1 + 1, 0, none⟩), u8, u9, u10, .int .i64 n, .slice (some ⟨w.heap.size, 0, none⟩) n n, .int .i64 n, .int .i64 ((n : Int) - 1), u15, u16, u17, u18, u19, u20, u21, u22, u23, u24, u25, u26, u27, u28, u29, u30, u31, u32, u33, u34, undef, undef, undef, undef, undef, undef], ds⟩)
    (fun a' _ => n - (intOf (a'.tmps.getD 15 undef)).toNat) ?_ ?_
  · (repeat apply Exists.intro)
    refine ⟨?_, rfl⟩
    exact ⟨0, by omega, rfl, rfl, HS0⟩
  · clear HS0
    intro _ wr hinv
    obtain ⟨u6, u8, u9, u10, u15, u16, u17, u18, u19, u20, u21, u22, u23, u24, u25, u26, u27, u28, u29, u30, u31, u32, u33, u34, ds, hrel, ha⟩ := hinv
    subst ha
    try dsimp only
    obtain ⟨k, hk, rfl, rfl, HS⟩ := hrel
    by_cases hlt : k < n - 1
    · have hlt' : (k : Int) < (n : Int) - 1 := by omega
      have hkn : k < n := by omega
      have hk1 : ((k + 1 : Nat) : Int) = (k : Int) + 1 := by omega
      have HUB := Lib.hid (up_bd HFG.out.g HFG.out.m5 (k := k) (by omega))
      have HUB1 := Lib.hid (show 1 ≤ upP (pgA a n) k * pgA a n (k + 1) ∧ upP (pgA a n) k * pgA a n (k + 1) ≤ 184528125 from up_bd HFG.out.g HFG.out.m5 (k := k + 1) (by omega))
      have HA := Lib.hid (HS.out.up (below_alloc wr (.cells #[.int .i64 (k : Int)] 3)))
      have HK := Lib.hid (blk_new wr 3 #[.int .i64 (k : Int)])
      have HKL := Lib.hid (show w.heap.size + 2 < wr.heap.size from blk_lt HS.out.bb)
      have HC := Lib.hid (hk1 ▸ paysAt_any a n (k + 1) b o c rb ro cc _ HCR.out (HT.out.keep (Keep.below HA.out.su.up)) (by omega) (by omega))
      clear HS
      go_wp2_with fail
      refine HC.out.mono ?_
      rintro e w2 ⟨rfl, hb⟩
      have HA2 := Lib.hid (HA.out.up hb)
      have HK2 := Lib.hid (blk_below HK.out hb)
      clear hb HC HA HK
      have HN := Lib.hid (HA2.out.step (f := pfA a n) hkn HKL.out (blk_cell HK2.out (i := 0) rfl) HUB.out)
      have hb := below_alloc w2 (.cells #[.int .i64 (pfA a n (k + 1))] 3)
      have c1 := Keep.below hb _ _ HA2.out.nb
      have c2 := blk_cell (blk_below HK2.out hb) (i := 0) rfl
      have c3 := (HA2.out.up hb).su.cell hkn
      have c4 := (HA2.out.up hb).su.frozen hkn
      clear hb HA2 HK2
      obtain ⟨p1, p2⟩ := HUB.out
      obtain ⟨p3, p4⟩ := HUB1.out
      go_wp2
      clear c1 c2 c3 c4
      refine ⟨⟨_, _, _, _, _, _, _, _, _, _, _, _, _, _, _, _, _, _, _, _, _, _, _, _, _, ⟨k + 1, ?c1, ?c2, ?c3, ?c4⟩, rfl⟩, ?c5⟩
      case c1 => omega
      case c2 => go_num
      case c3 => rfl
      case c4 => exact HN
      case c5 => simp [intOf]; omega
    · obtain rfl : k = n - 1 := by omega
      have hlt' : ¬ ((n - 1 : Nat) : Int) < (n : Int) - 1 := by omega
      have hkn : n - 1 < n := by omega
      have hn1 : (n : Int) - 1 = ((n - 1 : Nat) : Int) := by omega
      have HUB := Lib.hid (up_bd HFG.out.g HFG.out.m5 (k := n - 1) (Nat.le_refl _))
      have hnm : n = n - 1 + 1 := by omega
      have HLT := Lib.hid (show LT (pfA a n) (pgA a n) (n - 1) w n (n - 1) (wr.setCell ⟨w.heap.size, n - 1, none⟩ (.int .i64 (upP (pgA a n) (n - 1)))) ∧ DL (pfA a n) w (n - 1) ds (wr.setCell ⟨w.heap.size, n - 1, none⟩ (.int .i64 (upP (pgA a n) (n - 1)))) from by
        have h := HS.out
        generalize hm : n - 1 = m at *
        generalize pfA a n = f at *
        generalize pgA a n = g at *
        subst hnm
        exact ST.last h HUB.out)
      have c1 := HS.out.nb
      have c3 := HS.out.su.cell hkn
      have c4 := HS.out.su.frozen hkn
      have c5 := HLT.out.1.nb
      obtain ⟨p1, p2⟩ := HUB.out
      clear hnm
      go_wp2
      show Leaves Try.prog _ _ _ ds .returning _
      refine leaves_any (pfA a n) (pgA a n) (n - 1) n w _ _ _ HFG.out (by omega) ?_ (n - 1) ds _ (Nat.le_refl _) HLT.out.2 HLT.out.1
      intro W hl
      have hs := hl.su
      have hz : midL (pfA a n) (pgA a n) (n - 1) n 0 = numL (pfA a n) (pgA a n) (n - 1) := by
        have h := midL_zero (pfA a n) (pgA a n) (n - 1)
        rw [show n - 1 + 1 = n by omega] at h
        exact h
      rw [hz] at hs
      refine ⟨_, results_tmp rfl _ _ _, ?_⟩
      exact hs.new (by rw [numL_len]; omega)
end Go.Proofs.Ytgmicblfegjbnaa

/- FixedFrom, FixedOnes, FavourOf, OddsOf by the program. -/
namespace Go.Proofs.Ytgmicblfegjbnaa
open Go.RowKit

theorem gi_take {xs : List Int} {k j : Nat} (h : j < k) (hk : k ≤ xs.length) : gi (xs.take k) j = gi xs j := by
  rw [gi_get (by rw [List.length_take]; omega), gi_get (by omega), List.getElem_take]
theorem sm_take {xs : List Int} {k : Nat} (hk : k ≤ xs.length) : ∀ {j}, j ≤ k → sm (xs.take k) j = sm xs j
  | 0, _ => rfl
  | j + 1, h => by rw [sm, sm, sm_take hk (by omega), gi_take (by omega) hk]
theorem tot_take {xs : List Int} {k : Nat} (hk : k ≤ xs.length) : tot (xs.take k) = sm xs k := by
  unfold tot
  rw [List.length_take, Nat.min_eq_left hk, sm_take hk (Nat.le_refl _)]
theorem Ints.take {w : World} {A : Option Addr} {n c k : Nat} {xs : List Int} (h : Ints w A n c xs) (hk : k ≤ n) : Ints w A k c (xs.take k) := by
  have hl := h.len
  refine ⟨by rw [List.length_take]; omega, by have := h.cap; omega, by have := h.max; omega, fun y hy => h.wf y (List.mem_of_mem_take hy), fun h0 => ?_⟩
  obtain ⟨b, o, e, hc⟩ := h.at_ (by omega)
  exact ⟨b, o, e, fun j hj => by rw [gi_take hj (by omega)]; exact hc j (by omega)⟩
theorem CR.sumOk {a n} (h : CR a n) : SumOk (numL (pfA a n) (pgA a n) (n - 1)) :=
  ⟨by rw [numL_len]; have := h.n6; omega, fun j hj => by rw [numL_len] at hj; rw [gi_numL (by omega)]; have := numP_bd h.fg (k := j) (by omega); omega⟩
theorem SumOk.take {xs : List Int} (h : SumOk xs) {k : Nat} (hk : k ≤ xs.length) : SumOk (xs.take k) :=
  ⟨by have := h.n; rw [List.length_take]; omega, fun j hj => by rw [List.length_take] at hj; rw [gi_take (by omega) hk]; exact h.bd j (by omega)⟩
theorem CR.numLen {a n} (h : CR a n) : (numL (pfA a n) (pgA a n) (n - 1)).length = n := by rw [numL_len]; have := h.n2; omega

set_option maxRecDepth 100000 in
set_option maxHeartbeats 1600000 in
theorem fixedFrom_any (a : List (List Int)) (n i b o c : Nat) (rb ro cc : Nat → Nat) (w : World) (h : CR a n) (ht : Tab w b o rb ro cc 2 2 a) (hi : i ≤ n) :
    Calls Try.prog 47 #[.slice (some ⟨b, o, none⟩) 2 c, .int .i64 n, .int .i64 i] w (Ret (frV (fxU a n i) (fxT a n)) w) := by
  have hn6 := h.n6
  have hn2 := h.n2
  have HT := Lib.hid ht
  have HPF := Lib.hid (PF.start w)
  have HC := Lib.hid (stepNumbers_any a n b o c rb ro cc _ h (ht.keep HPF.out.keep))
  have HSO := Lib.hid h.sumOk
  have HLN := Lib.hid h.numLen
  have bx := h.fx hi
  have HM := Lib.hid (show (Mid (fxU a n i) ∧ Mid (fxT a n)) ∧ 1 ≤ fxT a n from ⟨⟨by unfold Mid; omega, by unfold Mid; omega⟩, bx.2.1⟩)
  have HT1 := Lib.hid (show tot ((numL (pfA a n) (pgA a n) (n - 1)).take i) = fxU a n i from tot_take (by rw [h.numLen]; exact hi))
  have HT2 : Hid (tot (numL (pfA a n) (pgA a n) (n - 1)) = fxT a n) := Lib.hid rfl
  have HFV : Hid (frV (fxU a n i) (fxT a n) = .agg #[.int .i64 (frU (fxU a n i) (fxT a n)), .int .i64 (frD (fxU a n i) (fxT a n))]) := Lib.hid rfl
  have HFR := Lib.hid (fun W => HFV.out ▸ fracOf_any (fxU a n i) (fxT a n) W HM.out.1.1 HM.out.1.2 HM.out.2)
  rw [HFV.out]
  clear h ht bx HM
  generalize frU (fxU a n i) (fxT a n) = U at *
  generalize frD (fxU a n i) (fxT a n) = D at *
  generalize fxU a n i = X at *
  generalize fxT a n = T at *
  generalize numL (pfA a n) (pgA a n) (n - 1) = xs at *
  go_enter Try.func47, Try.ntmps47
  go_wp2_with fail
  refine HC.out.mono ?_
  rintro e w1 ⟨Av, n', c', gg, rfl, hn', ho, hb⟩
  have HPF1 := Lib.hid (HPF.out.up hb)
  have hnn : n' = n := by rw [hn', HLN.out]
  subst hnn
  have HI := Lib.hid ho.ints
  have hcap := ho.ints.cap
  have HC1 := Lib.hid (HT1.out ▸ sumOf_any _ _ _ _ _ (HI.out.take hi) (HSO.out.take (by rw [HLN.out]; exact hi)))
  clear hb HC HPF ho hn'
  have hic : ¬ (c' : Int) < (i : Int) := by omega
  go_wp2_with fail
  refine HC1.out.mono ?_
  rintro e w2 ⟨rfl, hq⟩
  have HPF2 := Lib.hid (HPF1.out.up hq.below)
  have HI2 := Lib.hid (HI.out.keep (Keep.quiet hq))
  have HC2 := Lib.hid (HT2.out ▸ sumOf_any _ _ _ _ _ HI2.out HSO.out)
  clear hq HC1 HPF1 HI
  go_wp2_with fail
  refine HC2.out.mono ?_
  rintro e w3 ⟨rfl, hq⟩
  have HPF3 := Lib.hid (HPF2.out.up hq.below)
  clear hq HC2 HPF2 HI2
  go_wp2_with fail
  refine (HFR.out _).mono ?_
  rintro e w4 ⟨rfl, hb⟩
  have HPF := Lib.hid (HPF3.out.up hb)
  clear hb HFR HPF3
  have c0 := blk_cell HPF.out.box (i := 0) rfl
  have c1 := blk_cell HPF.out.box (i := 1) rfl
  have f0 := blk_frozen HPF.out.box 0
  have f1 := blk_frozen HPF.out.box 1
  go_wp2
  clear c0 c1 f0 f1
  have B1 := blk_set (blk_set HPF.out.box 0 (.int .i64 U)) 1 (.int .i64 D)
  have r0 := blk_cell B1 (i := 0) (v := .int .i64 U) rfl
  have r1 := blk_cell B1 (i := 1) (v := .int .i64 D) rfl
  have HBX := Lib.hid ((HPF.out.below.setCell (p := ⟨w.heap.size, 0, none⟩) (Nat.le_refl _) (.int .i64 U)).setCell (p := ⟨w.heap.size, 1, none⟩) (Nat.le_refl _) (.int .i64 D))
  clear B1 HPF
  generalize (w4.setCell ⟨w.heap.size, 0, none⟩ (.int .i64 U)).setCell ⟨w.heap.size, 1, none⟩ (.int .i64 D) = WE at *
  refine bodyPost_ret (v := .agg #[.int .i64 U, .int .i64 D]) (by simp [results, Try.results47, go_sem, r0, r1]) rfl ?_
  exact ⟨by first | rfl | rw [HFV.out], HBX.out⟩
set_option maxRecDepth 100000 in
set_option maxHeartbeats 1600000 in
theorem FixedFrom_impl (A : Option Addr) (l c : Nat) (a : List (List Int)) (n i : Int) (w : World) (hx : IntRows w A l c a) (hn : Fit n) (hi : Fit i) :
    Calls Try.prog 21 #[.slice A l c, .int .i64 n, .int .i64 i] w (Ret (.tuple #[ffV a n i, .bool (pb (FQ a n i))]) w) := by
  have HX := Lib.hid hx
  have HPF := Lib.hid (PF.start w)
  have HV := Lib.hid (isCrowd_any A l c a n _ (hx.keep HPF.out.keep) hn)
  obtain ⟨n1, n2⟩ := hn
  obtain ⟨i1, i2⟩ := hi
  clear hx
  by_cases hv : CQ a n
  · rw [pb_true hv] at HV
    by_cases h1 : i < 0
    · have HNO := Lib.hid (show ffV a n i = .agg #[.int .i64 0, .int .i64 0] ∧ pb (FQ a n i) = false from (fun h : ¬ FQ a n i => ⟨ff_no h, pb_false h⟩) (fun h => by have := h.2; unfold InR at this; omega))
      have g1 : decide (i < 0) = true := decide_eq_true h1
      clear hv
      go_enter Try.func21, Try.ntmps21
      go_wp2_with fail
      refine HV.out.mono ?_
      rintro e w1 ⟨rfl, hb⟩
      have HPF1 := Lib.hid (HPF.out.up hb)
      clear hb HV HPF
      have HPF := HPF1
      clear HPF1
      have c0 := blk_cell HPF.out.box (i := 0) rfl
      have c1 := blk_cell HPF.out.box (i := 1) rfl
      have f0 := blk_frozen HPF.out.box 0
      have f1 := blk_frozen HPF.out.box 1
      go_wp2
      clear c0 c1 f0 f1
      have B1 := blk_set (blk_set HPF.out.box 0 (.int .i64 0)) 1 (.int .i64 0)
      have r0 := blk_cell B1 (i := 0) (v := .int .i64 0) rfl
      have r1 := blk_cell B1 (i := 1) (v := .int .i64 0) rfl
      have HBX := Lib.hid ((HPF.out.below.setCell (p := ⟨w.heap.size, 0, none⟩) (Nat.le_refl _) (.int .i64 0)).setCell (p := ⟨w.heap.size, 1, none⟩) (Nat.le_refl _) (.int .i64 0))
      clear B1 HPF
      generalize (w1.setCell ⟨w.heap.size, 0, none⟩ (.int .i64 0)).setCell ⟨w.heap.size, 1, none⟩ (.int .i64 0) = WE at *
      refine bodyPost_ret (v := .tuple #[.agg #[.int .i64 0, .int .i64 0], .bool false]) (by simp [results, Try.results21, go_sem, r0, r1]) rfl ?_
      exact ⟨by rw [HNO.out.1, HNO.out.2], HBX.out⟩
    · have g1 : decide (i < 0) = false := decide_eq_false h1
      by_cases h2 : n < i
      · have HNO := Lib.hid (show ffV a n i = .agg #[.int .i64 0, .int .i64 0] ∧ pb (FQ a n i) = false from (fun h : ¬ FQ a n i => ⟨ff_no h, pb_false h⟩) (fun h => by have := h.2; unfold InR at this; omega))
        have g2 : decide (n < i) = true := decide_eq_true h2
        clear hv
        go_enter Try.func21, Try.ntmps21
        go_wp2_with fail
        refine HV.out.mono ?_
        rintro e w1 ⟨rfl, hb⟩
        have HPF1 := Lib.hid (HPF.out.up hb)
        clear hb HV HPF
        have HPF := HPF1
        clear HPF1
        have c0 := blk_cell HPF.out.box (i := 0) rfl
        have c1 := blk_cell HPF.out.box (i := 1) rfl
        have f0 := blk_frozen HPF.out.box 0
        have f1 := blk_frozen HPF.out.box 1
        go_wp2
        clear c0 c1 f0 f1
        have B1 := blk_set (blk_set HPF.out.box 0 (.int .i64 0)) 1 (.int .i64 0)
        have r0 := blk_cell B1 (i := 0) (v := .int .i64 0) rfl
        have r1 := blk_cell B1 (i := 1) (v := .int .i64 0) rfl
        have HBX := Lib.hid ((HPF.out.below.setCell (p := ⟨w.heap.size, 0, none⟩) (Nat.le_refl _) (.int .i64 0)).setCell (p := ⟨w.heap.size, 1, none⟩) (Nat.le_refl _) (.int .i64 0))
        clear B1 HPF
        generalize (w1.setCell ⟨w.heap.size, 0, none⟩ (.int .i64 0)).setCell ⟨w.heap.size, 1, none⟩ (.int .i64 0) = WE at *
        refine bodyPost_ret (v := .tuple #[.agg #[.int .i64 0, .int .i64 0], .bool false]) (by simp [results, Try.results21, go_sem, r0, r1]) rfl ?_
        exact ⟨by rw [HNO.out.1, HNO.out.2], HBX.out⟩
      · have g2 : decide (n < i) = false := decide_eq_false h2
        obtain ⟨n, rfl, hcr⟩ := hv.nat
        obtain ⟨i, rfl⟩ : ∃ k : Nat, i = k := ⟨i.toNat, by omega⟩
        have hin : i ≤ n := by omega
        rw [(ff_yes hcr hin).1, (ff_yes hcr hin).2]
        obtain ⟨b, o, rb, ro, cc, rfl, rfl, tab⟩ := hcr.tab HX.out
        have HT := Lib.hid tab
        have HCR := Lib.hid hcr
        have HFV : Hid (frV (fxU a n i) (fxT a n) = .agg #[.int .i64 (frU (fxU a n i) (fxT a n)), .int .i64 (frD (fxU a n i) (fxT a n))]) := Lib.hid rfl
        have HFX := Lib.hid (fun W K => HFV.out ▸ fixedFrom_any a n i b o c rb ro cc W HCR.out (HT.out.keep K) hin)
        rw [HFV.out]
        clear tab hcr hv HCR
        generalize frU (fxU a n i) (fxT a n) = U at *
        generalize frD (fxU a n i) (fxT a n) = D at *
        go_enter Try.func21, Try.ntmps21
        go_wp2_with fail
        refine HV.out.mono ?_
        rintro e w1 ⟨rfl, hb⟩
        have HPF1 := Lib.hid (HPF.out.up hb)
        clear hb HV HPF
        have HC := Lib.hid (HFX.out w1 HPF1.out.keep)
        go_wp2_with fail
        refine HC.out.mono ?_
        rintro e w4 ⟨rfl, hb⟩
        have HPF := Lib.hid (HPF1.out.up hb)
        clear hb HC HPF1
        have c0 := blk_cell HPF.out.box (i := 0) rfl
        have c1 := blk_cell HPF.out.box (i := 1) rfl
        have f0 := blk_frozen HPF.out.box 0
        have f1 := blk_frozen HPF.out.box 1
        go_wp2
        clear c0 c1 f0 f1
        have B1 := blk_set (blk_set HPF.out.box 0 (.int .i64 U)) 1 (.int .i64 D)
        have r0 := blk_cell B1 (i := 0) (v := .int .i64 U) rfl
        have r1 := blk_cell B1 (i := 1) (v := .int .i64 D) rfl
        have HBX := Lib.hid ((HPF.out.below.setCell (p := ⟨w.heap.size, 0, none⟩) (Nat.le_refl _) (.int .i64 U)).setCell (p := ⟨w.heap.size, 1, none⟩) (Nat.le_refl _) (.int .i64 D))
        clear B1 HPF
        generalize (w4.setCell ⟨w.heap.size, 0, none⟩ (.int .i64 U)).setCell ⟨w.heap.size, 1, none⟩ (.int .i64 D) = WE at *
        refine bodyPost_ret (v := .tuple #[.agg #[.int .i64 U, .int .i64 D], .bool true]) (by simp [results, Try.results21, go_sem, r0, r1]) rfl ?_
        exact ⟨by first | rfl | rw [HFV.out], HBX.out⟩
  · rw [pb_false hv] at HV
    have HNO := Lib.hid (show ffV a n i = .agg #[.int .i64 0, .int .i64 0] ∧ pb (FQ a n i) = false from (fun h : ¬ FQ a n i => ⟨ff_no h, pb_false h⟩) (fun h => hv h.1))
    clear hv
    go_enter Try.func21, Try.ntmps21
    go_wp2_with fail
    refine HV.out.mono ?_
    rintro e w1 ⟨rfl, hb⟩
    have HPF1 := Lib.hid (HPF.out.up hb)
    clear hb HV HPF
    have HPF := HPF1
    clear HPF1
    have c0 := blk_cell HPF.out.box (i := 0) rfl
    have c1 := blk_cell HPF.out.box (i := 1) rfl
    have f0 := blk_frozen HPF.out.box 0
    have f1 := blk_frozen HPF.out.box 1
    go_wp2
    clear c0 c1 f0 f1
    have B1 := blk_set (blk_set HPF.out.box 0 (.int .i64 0)) 1 (.int .i64 0)
    have r0 := blk_cell B1 (i := 0) (v := .int .i64 0) rfl
    have r1 := blk_cell B1 (i := 1) (v := .int .i64 0) rfl
    have HBX := Lib.hid ((HPF.out.below.setCell (p := ⟨w.heap.size, 0, none⟩) (Nat.le_refl _) (.int .i64 0)).setCell (p := ⟨w.heap.size, 1, none⟩) (Nat.le_refl _) (.int .i64 0))
    clear B1 HPF
    generalize (w1.setCell ⟨w.heap.size, 0, none⟩ (.int .i64 0)).setCell ⟨w.heap.size, 1, none⟩ (.int .i64 0) = WE at *
    refine bodyPost_ret (v := .tuple #[.agg #[.int .i64 0, .int .i64 0], .bool false]) (by simp [results, Try.results21, go_sem, r0, r1]) rfl ?_
    exact ⟨by rw [HNO.out.1, HNO.out.2], HBX.out⟩
set_option maxRecDepth 100000 in
set_option maxHeartbeats 1600000 in
theorem FavourOf_impl (A : Option Addr) (l c : Nat) (a : List (List Int)) (n : Int) (w : World) (hx : IntRows w A l c a) (hn : Fit n) :
    Calls Try.prog 26 #[.slice A l c, .int .i64 n] w (Ret (.tuple #[.int .i64 (fvI a n), .bool (pb (CQ a n))]) w) := by
  have HX := Lib.hid hx
  have HV := Lib.hid (isCrowd_any A l c a n w hx hn)
  clear hx hn
  by_cases hv : CQ a n
  · rw [pb_true hv] at HV
    obtain ⟨n, rfl, hcr⟩ := hv.nat
    have hn6 := hcr.n6
    rw [(fv_yes hcr).1, (fv_yes hcr).2]
    obtain ⟨b, o, rb, ro, cc, rfl, rfl, tab⟩ := hcr.tab HX.out
    have HT := Lib.hid tab
    have HCR := Lib.hid hcr
    have hn1 : 1 ≤ n := by have := hcr.n2; omega
    have HFV : Hid (frV (fxU a n 1) (fxT a n) = .agg #[.int .i64 (frU (fxU a n 1) (fxT a n)), .int .i64 (frD (fxU a n 1) (fxT a n))]) := Lib.hid rfl
    have HFX := Lib.hid (fun W K => HFV.out ▸ fixedFrom_any a n 1 b o c rb ro cc W HCR.out (HT.out.keep K) hn1)
    have hb1 := hcr.fr hn1
    have hcmp := fr_cmp (U := fxU a n 1) (T := fxT a n) (n := (n : Int)) (by have := (hcr.fx hn1).2; omega)
    have HE := Lib.hid (show (if frD (fxU a n 1) (fxT a n) < (n : Int) * frU (fxU a n 1) (fxT a n) then (1 : Int) else if (n : Int) * frU (fxU a n 1) (fxT a n) < frD (fxU a n 1) (fxT a n) then -1 else 0) = fvC (fxU a n 1) (fxT a n) n from by
      unfold fvC
      simp only [hcmp.1, hcmp.2])
    clear tab hcr hv HCR HFV hcmp
    generalize frU (fxU a n 1) (fxT a n) = U at *
    generalize frD (fxU a n 1) (fxT a n) = D at *
    generalize fvC (fxU a n 1) (fxT a n) n = R at *
    have hp := mulbd (x := (n : Int)) (y := U) (A := 6) (B := 1200000000) (by omega) (by omega)
    obtain ⟨p1, p2⟩ := hp
    have HC3 := Lib.hid (fun W => HE.out ▸ compare_any ((n : Int) * U) D W)
    clear HE hb1
    go_enter Try.func26, Try.ntmps26
    go_wp2_with fail
    refine HV.out.mono ?_
    rintro e w1 ⟨rfl, hb⟩
    have B1 := Lib.hid (show Below w.heap.size w w1 from hb)
    have HC := Lib.hid (HFX.out w1 (Keep.below hb))
    clear hb HV
    go_wp2_with fail
    refine HC.out.mono ?_
    rintro e w2 ⟨rfl, hb⟩
    have B2 := Lib.hid (below_up (below_up B1.out hb) (below_alloc w2 (.cells #[.int .i64 U, .int .i64 D] 31)))
    clear hb HC B1
    have q0 := blk_cell (blk_new w2 31 #[.int .i64 U, .int .i64 D]) (i := 0) (v := .int .i64 U) rfl
    have q1 := blk_cell (blk_new w2 31 #[.int .i64 U, .int .i64 D]) (i := 1) (v := .int .i64 D) rfl
    go_wp2_with fail
    refine (HC3.out _).mono ?_
    rintro e w3 ⟨rfl, rfl⟩
    go_wp2
    go_ret2
    exact ⟨rfl, B2.out⟩
  · have HNO := Lib.hid (fv_no hv)
    rw [pb_false hv] at HV
    clear hv
    go_enter Try.func26, Try.ntmps26
    go_wp2_with fail
    refine HV.out.mono ?_
    rintro e w1 ⟨rfl, hb⟩
    go_wp2
    go_ret2
    exact ⟨by rw [HNO.out.1, HNO.out.2] <;> rfl, hb⟩
theorem fr_rest2 {U T : Int} (hT : 0 < T) : frU (frD U T - frU U T) (frD U T) = frU (T - U) T ∧ frD (frD U T - frU U T) (frD U T) = frD (T - U) T := by
  have h := fr_rest (U := U) (T := T) hT
  simp only [Int.one_mul, Int.mul_one] at h
  exact h
/-- The boxes of two results and of what is used for the second one. -/
structure PH (w : World) (q : Nat) (U D : Int) (W : World) : Prop where
  g : PG w W
  bq : Blk W q 31 #[.int .i64 U, .int .i64 D]
theorem PH.next {w W W' : World} {q : Nat} {U D : Int} (h : PH w q U D W) (k : Below W.heap.size W W') : PH w q U D W' := ⟨h.g.out_up k, blk_below h.bq k⟩
theorem PH.drew {w W : World} {q : Nat} {U D : Int} (h : PH w q U D W) : PH w q U D W.drew := h.next (Quiet.below ⟨1, rfl⟩)
/-- Both results are stored. -/
structure PZ (w : World) (U D V E : Int) (W : World) : Prop where
  r0 : W.cell? ⟨w.heap.size, 0, none⟩ = some (.int .i64 U)
  r1 : W.cell? ⟨w.heap.size, 1, none⟩ = some (.int .i64 D)
  r2 : W.cell? ⟨w.heap.size + 1, 0, none⟩ = some (.int .i64 V)
  r3 : W.cell? ⟨w.heap.size + 1, 1, none⟩ = some (.int .i64 E)
  up : Below w.heap.size w W
theorem PG.store {w W : World} (h : PG w W) (U D V E : Int) : PZ w U D V E ((((W.setCell ⟨w.heap.size, 0, none⟩ (.int .i64 U)).setCell ⟨w.heap.size, 1, none⟩ (.int .i64 D)).setCell ⟨w.heap.size + 1, 0, none⟩ (.int .i64 V)).setCell ⟨w.heap.size + 1, 1, none⟩ (.int .i64 E)) := by
  have hle : w.heap.size ≤ w.heap.size + 1 := by omega
  have B1 := blk_other (blk_other (blk_set (blk_set h.b0 0 (.int .i64 U)) 1 (.int .i64 D)) (p := ⟨w.heap.size + 1, 0, none⟩) (by show w.heap.size ≠ w.heap.size + 1; omega) (.int .i64 V)) (p := ⟨w.heap.size + 1, 1, none⟩) (by show w.heap.size ≠ w.heap.size + 1; omega) (.int .i64 E)
  have B2 := blk_set (blk_set (blk_other (blk_other h.b1 (p := ⟨w.heap.size, 0, none⟩) (by show w.heap.size + 1 ≠ w.heap.size; omega) (.int .i64 U)) (p := ⟨w.heap.size, 1, none⟩) (by show w.heap.size + 1 ≠ w.heap.size; omega) (.int .i64 D)) 0 (.int .i64 V)) 1 (.int .i64 E)
  exact ⟨blk_cell B1 (i := 0) rfl, blk_cell B1 (i := 1) rfl, blk_cell B2 (i := 0) rfl, blk_cell B2 (i := 1) rfl, (((h.up.setCell (p := ⟨w.heap.size, 0, none⟩) (Nat.le_refl _) (.int .i64 U)).setCell (p := ⟨w.heap.size, 1, none⟩) (Nat.le_refl _) (.int .i64 D)).setCell (p := ⟨w.heap.size + 1, 0, none⟩) hle (.int .i64 V)).setCell (p := ⟨w.heap.size + 1, 1, none⟩) hle (.int .i64 E)⟩
set_option maxRecDepth 100000 in
set_option maxHeartbeats 3200000 in
theorem FixedOnes_impl (A : Option Addr) (l c : Nat) (a : List (List Int)) (n : Int) (w : World) (hx : IntRows w A l c a) (hn : Fit n) :
    Calls Try.prog 24 #[.slice A l c, .int .i64 n] w (Ret (.tuple #[foP a n, foQ a n, .bool (pb (CQ a n))]) w) := by
  have HX := Lib.hid hx
  have HPF := Lib.hid (PG.start w)
  have HV := Lib.hid (isCrowd_any A l c a n _ (hx.keep HPF.out.keep) hn)
  clear hx hn
  by_cases hv : CQ a n
  · rw [pb_true hv] at HV
    obtain ⟨n, rfl, hcr⟩ := hv.nat
    have hn6 := hcr.n6
    have hn2 := hcr.n2
    rw [(fo_yes hcr).1, (fo_yes hcr).2.1, (fo_yes hcr).2.2]
    obtain ⟨b, o, rb, ro, cc, rfl, rfl, tab⟩ := hcr.tab HX.out
    have HT := Lib.hid tab
    have HCR := Lib.hid hcr
    have HF1V : Hid (frV (fxU a n 1) (fxT a n) = .agg #[.int .i64 (frU (fxU a n 1) (fxT a n)), .int .i64 (frD (fxU a n 1) (fxT a n))]) := Lib.hid rfl
    have HF2V : Hid (frV (fxU a n (n - 1)) (fxT a n) = .agg #[.int .i64 (frU (fxU a n (n - 1)) (fxT a n)), .int .i64 (frD (fxU a n (n - 1)) (fxT a n))]) := Lib.hid rfl
    have HQV : Hid (frV (fxT a n - fxU a n (n - 1)) (fxT a n) = .agg #[.int .i64 (frU (fxT a n - fxU a n (n - 1)) (fxT a n)), .int .i64 (frD (fxT a n - fxU a n (n - 1)) (fxT a n))]) := Lib.hid rfl
    have b1 := hcr.fr (i := n - 1) (by omega)
    have bx := hcr.fx (i := n - 1) (by omega)
    have HRS := Lib.hid (show frV (frD (fxU a n (n - 1)) (fxT a n) - frU (fxU a n (n - 1)) (fxT a n)) (frD (fxU a n (n - 1)) (fxT a n)) = frV (fxT a n - fxU a n (n - 1)) (fxT a n) from by unfold frV; rw [(fr_rest2 (U := fxU a n (n - 1)) (T := fxT a n) (by omega)).1, (fr_rest2 (U := fxU a n (n - 1)) (T := fxT a n) (by omega)).2])
    have HMI := Lib.hid (fun W => fracOf_any (frD (fxU a n (n - 1)) (fxT a n) - frU (fxU a n (n - 1)) (fxT a n)) (frD (fxU a n (n - 1)) (fxT a n)) W (by unfold Mid; omega) (by unfold Mid; omega) b1.2.1)
    rw [HRS.out, HQV.out] at HMI
    have hn1 : ((n : Int) - 1) = ((n - 1 : Nat) : Int) := by omega
    have HC1 := Lib.hid (fun W K => HF1V.out ▸ fixedFrom_any a n 1 b o c rb ro cc W HCR.out (HT.out.keep K) (by omega))
    have HC2 := Lib.hid (fun W K => HF2V.out ▸ hn1 ▸ fixedFrom_any a n (n - 1) b o c rb ro cc W HCR.out (HT.out.keep K) (by omega))
    rw [HF1V.out, HQV.out]
    generalize frU (fxU a n (n - 1)) (fxT a n) = U2 at *
    generalize frD (fxU a n (n - 1)) (fxT a n) = D2 at *
    generalize frU (fxU a n 1) (fxT a n) = U at *
    generalize frD (fxU a n 1) (fxT a n) = D at *
    generalize frU (fxT a n - fxU a n (n - 1)) (fxT a n) = V at *
    generalize frD (fxT a n - fxU a n (n - 1)) (fxT a n) = E at *
    have HGE := Lib.hid (And.intro HF1V.out HQV.out)
    obtain ⟨⟨p1, p2⟩, p3, p4⟩ := b1
    have hws : IntKind.i64.wrap (D2 - U2) = D2 - U2 := wrap_in64 (by omega)
    clear tab hcr hv HF1V HF2V HQV HCR hn1 bx HRS
    go_enter Try.func24, Try.ntmps24
    go_wp2_with fail
    refine HV.out.mono ?_
    rintro e w1 ⟨rfl, hb⟩
    have HPF1 := Lib.hid (HPF.out.out_up hb)
    clear hb HV HPF
    have HC := Lib.hid (HC2.out w1 HPF1.out.keep)
    go_wp2_with fail
    refine HC.out.mono ?_
    rintro e w2 ⟨rfl, hb⟩
    have HPF2 := Lib.hid (HPF1.out.out_up hb)
    clear hb HC HPF1
    have hb := below_alloc w2 (.cells #[.int .i64 U2, .int .i64 D2] 31)
    have HH := Lib.hid (show PH w w2.heap.size U2 D2 (w2.alloc (.cells #[.int .i64 U2, .int .i64 D2] 31)) from ⟨HPF2.out.out_up hb, blk_new w2 _ _⟩)
    clear hb HPF2
    have q0 := blk_cell HH.out.bq (i := 0) rfl
    have q1 := blk_cell HH.out.bq (i := 1) rfl
    go_wp2
    generalize w2.alloc (.cells #[.int .i64 U2, .int .i64 D2] 31) = w3 at *
    generalize w2.heap.size = q at *
    apply region_once (F := fun v => Hid (PZ w U D V E v))
    · go_region_law ((first
        | (go_simp; go_at_call 47; refine (HC1.out _ HH.out.drew.g.keep).mono ?_; rintro e v1 ⟨rfl, hb⟩; have D1 := Lib.hid (HH.out.drew.next hb); have y0 := blk_cell D1.out.bq (i := 0) rfl; have y1 := blk_cell D1.out.bq (i := 1) rfl; clear hb)
        | (go_simp; go_at_call 50; refine (HMI.out _).mono ?_; rintro e v2 ⟨rfl, hb⟩; have D9 := Lib.hid (D1.out.next hb); have z0 := blk_cell D9.out.g.b0 (i := 0) rfl; have z1 := blk_cell D9.out.g.b0 (i := 1) rfl; have z2 := blk_cell D9.out.g.b1 (i := 0) rfl; have z3 := blk_cell D9.out.g.b1 (i := 1) rfl; have f0 := blk_frozen D9.out.g.b0 0; have f1 := blk_frozen D9.out.g.b0 1; have f2 := blk_frozen D9.out.g.b1 0; have f3 := blk_frozen D9.out.g.b1 1; clear hb)))
      all_goals exact OnceQ.mk rfl (Lib.hid (D9.out.g.store U D V E))
    · rintro WE HZ
      clear q0 q1
      have r0 := HZ.out.r0
      have r1 := HZ.out.r1
      have r2 := HZ.out.r2
      have r3 := HZ.out.r3
      go_wp2
      refine bodyPost_ret (v := .tuple #[.agg #[.int .i64 U, .int .i64 D], .agg #[.int .i64 V, .int .i64 E], .bool true]) (by simp [results, Try.results24, go_sem, r0, r1, r2, r3]) rfl ?_
      exact ⟨by first | rfl | rw [HGE.out.1, HGE.out.2], HZ.out.up⟩
  · have HNO := Lib.hid (fo_no hv)
    rw [pb_false hv] at HV
    clear hv
    go_enter Try.func24, Try.ntmps24
    go_wp2_with fail
    refine HV.out.mono ?_
    rintro e w1 ⟨rfl, hb⟩
    have HPF1 := Lib.hid (HPF.out.out_up hb)
    clear hb HV HPF
    have c0 := blk_cell HPF1.out.b0 (i := 0) rfl
    have c1 := blk_cell HPF1.out.b0 (i := 1) rfl
    have c2 := blk_cell HPF1.out.b1 (i := 0) rfl
    have c3 := blk_cell HPF1.out.b1 (i := 1) rfl
    have f0 := blk_frozen HPF1.out.b0 0
    have f1 := blk_frozen HPF1.out.b0 1
    have f2 := blk_frozen HPF1.out.b1 0
    have f3 := blk_frozen HPF1.out.b1 1
    go_wp2
    clear c0 c1 c2 c3 f0 f1 f2 f3
    have hle : w.heap.size ≤ w.heap.size + 1 := by omega
    have B1 := blk_other (blk_other (blk_set (blk_set HPF1.out.b0 0 (.int .i64 0)) 1 (.int .i64 0)) (p := ⟨w.heap.size + 1, 0, none⟩) (by show w.heap.size ≠ w.heap.size + 1; omega) (.int .i64 0)) (p := ⟨w.heap.size + 1, 1, none⟩) (by show w.heap.size ≠ w.heap.size + 1; omega) (.int .i64 0)
    have B2 := blk_set (blk_set (blk_other (blk_other HPF1.out.b1 (p := ⟨w.heap.size, 0, none⟩) (by show w.heap.size + 1 ≠ w.heap.size; omega) (.int .i64 0)) (p := ⟨w.heap.size, 1, none⟩) (by show w.heap.size + 1 ≠ w.heap.size; omega) (.int .i64 0)) 0 (.int .i64 0)) 1 (.int .i64 0)
    have r0 := blk_cell B1 (i := 0) (v := .int .i64 0) rfl
    have r1 := blk_cell B1 (i := 1) (v := .int .i64 0) rfl
    have r2 := blk_cell B2 (i := 0) (v := .int .i64 0) rfl
    have r3 := blk_cell B2 (i := 1) (v := .int .i64 0) rfl
    have HBX := Lib.hid ((((HPF1.out.up.setCell (p := ⟨w.heap.size, 0, none⟩) (Nat.le_refl _) (.int .i64 0)).setCell (p := ⟨w.heap.size, 1, none⟩) (Nat.le_refl _) (.int .i64 0)).setCell (p := ⟨w.heap.size + 1, 0, none⟩) hle (.int .i64 0)).setCell (p := ⟨w.heap.size + 1, 1, none⟩) hle (.int .i64 0))
    clear B1 B2 HPF1
    generalize (((w1.setCell ⟨w.heap.size, 0, none⟩ (.int .i64 0)).setCell ⟨w.heap.size, 1, none⟩ (.int .i64 0)).setCell ⟨w.heap.size + 1, 0, none⟩ (.int .i64 0)).setCell ⟨w.heap.size + 1, 1, none⟩ (.int .i64 0) = WE at *
    refine bodyPost_ret (v := .tuple #[.agg #[.int .i64 0, .int .i64 0], .agg #[.int .i64 0, .int .i64 0], .bool false]) (by simp [results, Try.results24, go_sem, r0, r1, r2, r3]) rfl ?_
    exact ⟨by rw [HNO.out.1, HNO.out.2.1, HNO.out.2.2], HBX.out⟩
theorem CR.num0 {a : List (List Int)} {n : Nat} (_ : CR a n) : gi (numL (pfA a n) (pgA a n) (n - 1)) 0 = upP (pfA a n) (n - 1) := by
  rw [gi_numL (by omega), numP, upP, Nat.sub_zero]
  have e := up_dn (pfA a n) (n - 1) (n - 1) (Nat.le_refl _)
  rw [Nat.sub_self, upP] at e
  exact e.symm
theorem CR.numN {a : List (List Int)} {n : Nat} (_ : CR a n) : gi (numL (pfA a n) (pgA a n) (n - 1)) (n - 1) = upP (pgA a n) (n - 1) := by
  rw [gi_numL (Nat.le_refl _), numP, Nat.sub_self, dnP, Int.mul_one]
set_option maxRecDepth 100000 in
set_option maxHeartbeats 3200000 in
theorem OddsOf_impl (A : Option Addr) (l c : Nat) (a : List (List Int)) (n : Int) (w : World) (hx : IntRows w A l c a) (hn : Fit n) :
    Calls Try.prog 28 #[.slice A l c, .int .i64 n] w (Ret (.tuple #[odV a n, .bool (pb (CQ a n))]) w) := by
  have HX := Lib.hid hx
  have HPF := Lib.hid (PF.start w)
  have HV := Lib.hid (isCrowd_any A l c a n _ (hx.keep HPF.out.keep) hn)
  clear hx hn
  by_cases hv : CQ a n
  · rw [pb_true hv] at HV
    obtain ⟨n, rfl, hcr⟩ := hv.nat
    have hn6 := hcr.n6
    have hn2 := hcr.n2
    rw [(od_yes hcr).1, (od_yes hcr).2]
    obtain ⟨b, o, rb, ro, cc, rfl, rfl, tab⟩ := hcr.tab HX.out
    have HT := Lib.hid tab
    have HCR := Lib.hid hcr
    have HLN := Lib.hid hcr.numLen
    have HG0 := Lib.hid hcr.num0
    have HG1 := Lib.hid hcr.numN
    have u1 := up_bd hcr.fg.f hcr.fg.m5 (k := n - 1) (Nat.le_refl _)
    have u2 := up_bd hcr.fg.g hcr.fg.m5 (k := n - 1) (Nat.le_refl _)
    have HFV : Hid (frV (upP (pfA a n) (n - 1)) (upP (pgA a n) (n - 1)) = .agg #[.int .i64 (frU (upP (pfA a n) (n - 1)) (upP (pgA a n) (n - 1))), .int .i64 (frD (upP (pfA a n) (n - 1)) (upP (pgA a n) (n - 1)))]) := Lib.hid rfl
    have HFR := Lib.hid (fun W => HFV.out ▸ fracOf_any (upP (pfA a n) (n - 1)) (upP (pgA a n) (n - 1)) W (by unfold Mid; omega) (by unfold Mid; omega) u2.1)
    have HSN := Lib.hid (fun W K => stepNumbers_any a n b o c rb ro cc W HCR.out (HT.out.keep K))
    rw [HFV.out]
    clear tab hcr hv HCR u1 u2
    generalize frU (upP (pfA a n) (n - 1)) (upP (pgA a n) (n - 1)) = U at *
    generalize frD (upP (pfA a n) (n - 1)) (upP (pgA a n) (n - 1)) = D at *
    generalize upP (pfA a n) (n - 1) = X at *
    generalize upP (pgA a n) (n - 1) = Y at *
    generalize numL (pfA a n) (pgA a n) (n - 1) = xs at *
    go_enter Try.func28, Try.ntmps28
    go_wp2_with fail
    refine HV.out.mono ?_
    rintro e w1 ⟨rfl, hb⟩
    have HPF1 := Lib.hid (HPF.out.up hb)
    clear hb HV HPF
    have HC := Lib.hid (HSN.out w1 HPF1.out.keep)
    go_wp2_with fail
    refine HC.out.mono ?_
    rintro e w2 ⟨Av, n', c', gg, rfl, hn', ho, hb⟩
    have HPF2 := Lib.hid (HPF1.out.up hb)
    have hnn : n' = n := by rw [hn', HLN.out]
    subst hnn
    obtain ⟨by_, oy, rfl, hcy⟩ := ho.ints.at_ (by omega)
    have c0 := hcy 0 (by omega)
    have c1 := hcy (n' - 1) (by omega)
    rw [HG0.out, Nat.add_zero] at c0
    rw [HG1.out] at c1
    clear hb HC HPF1 ho hn' hcy
    have HCC := Lib.hid (And.intro c0 c1)
    have hi1 : (0 : Int) ≤ (n' : Int) - 1 := by omega
    have hi0 : 0 < n' := by omega
    have hi5 : (1 : Int) ≤ (n' : Int) := by omega
    have hi3 : (n' : Int) - 1 < (n' : Int) := by omega
    have hi4 : n' - 1 < n' := by omega
    have hi2 : ((n' : Int) - 1).toNat = n' - 1 := by omega
    have hws : IntKind.i64.wrap ((n' : Int) - 1) = (n' : Int) - 1 := wrap_in64 (by omega)
    go_wp2
    apply region_once (F := fun v => Hid (Blk v w.heap.size 31 #[.int .i64 U, .int .i64 D]) ∧ Hid (Below w.heap.size w v))
    · go_region_law ((first
        | (go_simp; go_at_call 50; refine (HFR.out _).mono ?_; rintro e v2 ⟨rfl, hb⟩; have D2 := Lib.hid ((HPF2.out.up (Quiet.below ⟨1, rfl⟩)).up hb); have z0 := blk_cell D2.out.box (i := 0) rfl; have z1 := blk_cell D2.out.box (i := 1) rfl; have f0 := blk_frozen D2.out.box 0; have f1 := blk_frozen D2.out.box 1; clear hb)))
      all_goals exact OnceQ.mk rfl ⟨Lib.hid (blk_set (blk_set D2.out.box 0 (.int .i64 U)) 1 (.int .i64 D)), Lib.hid ((D2.out.below.setCell (p := ⟨w.heap.size, 0, none⟩) (Nat.le_refl _) (.int .i64 U)).setCell (p := ⟨w.heap.size, 1, none⟩) (Nat.le_refl _) (.int .i64 D))⟩
    · rintro WE ⟨HB1, HBX⟩
      have r0 := blk_cell HB1.out (i := 0) (v := .int .i64 U) rfl
      have r1 := blk_cell HB1.out (i := 1) (v := .int .i64 D) rfl
      go_wp2
      refine bodyPost_ret (v := .tuple #[.agg #[.int .i64 U, .int .i64 D], .bool true]) (by simp [results, Try.results28, go_sem, r0, r1]) rfl ?_
      exact ⟨by first | rfl | rw [HFV.out], HBX.out⟩
  · have HNO := Lib.hid (od_no hv)
    rw [pb_false hv] at HV
    clear hv
    go_enter Try.func28, Try.ntmps28
    go_wp2_with fail
    refine HV.out.mono ?_
    rintro e w1 ⟨rfl, hb⟩
    have HPF1 := Lib.hid (HPF.out.up hb)
    clear hb HV HPF
    have HPF := HPF1
    clear HPF1
    have c0 := blk_cell HPF.out.box (i := 0) rfl
    have c1 := blk_cell HPF.out.box (i := 1) rfl
    have f0 := blk_frozen HPF.out.box 0
    have f1 := blk_frozen HPF.out.box 1
    go_wp2
    clear c0 c1 f0 f1
    have B1 := blk_set (blk_set HPF.out.box 0 (.int .i64 0)) 1 (.int .i64 0)
    have r0 := blk_cell B1 (i := 0) (v := .int .i64 0) rfl
    have r1 := blk_cell B1 (i := 1) (v := .int .i64 0) rfl
    have HBX := Lib.hid ((HPF.out.below.setCell (p := ⟨w.heap.size, 0, none⟩) (Nat.le_refl _) (.int .i64 0)).setCell (p := ⟨w.heap.size, 1, none⟩) (Nat.le_refl _) (.int .i64 0))
    clear B1 HPF
    generalize (w1.setCell ⟨w.heap.size, 0, none⟩ (.int .i64 0)).setCell ⟨w.heap.size, 1, none⟩ (.int .i64 0) = WE at *
    refine bodyPost_ret (v := .tuple #[.agg #[.int .i64 0, .int .i64 0], .bool false]) (by simp [results, Try.results28, go_sem, r0, r1]) rfl ?_
    exact ⟨by rw [HNO.out.1, HNO.out.2], HBX.out⟩
end Go.Proofs.Ytgmicblfegjbnaa

/- A row under way: its numbers may be set; shares drawn. -/
namespace Go.Proofs.Ytgmicblfegjbnaa
open Go.RowKit

theorem BldI.set {lo hi w v xs} (h : BldI lo hi w v xs) {j : Nat} (hj : j < xs.length) (x : Int) :
    ∃ b c, v = .slice (some ⟨b, 0, none⟩) xs.length c ∧ lo ≤ b ∧ b < hi ∧ w.cell? ⟨b, j, none⟩ = some (.int .i64 (gi xs j)) ∧ w.frozen? ⟨b, j, none⟩ = false ∧
      BldI lo hi (w.setCell ⟨b, j, none⟩ (.int .i64 x)) v (xs.set j x) := by
  have hh := h.hi_
  rcases h.own.2 with ⟨_, h0⟩ | ⟨g, cap, cur, rfl, hb, hg, hnc, hcm, hcs, htake⟩
  · omega
  · rw [Nat.mul_one] at htake hcs
    have hB : Blk w g 3 cur := hg
    have hc : cur[j]? = some (.int .i64 (gi xs j)) := by
      rw [← getElem_iv hj, ← htake, List.getElem?_take, if_pos hj]; simp
    refine ⟨g, cap, rfl, hb, hh g rfl, blk_cell hB hc, blk_frozen hB j, ⟨⟨by simp, .inr ⟨g, cap, cur.setIfInBounds j (.int .i64 x), by rw [List.length_set], hb, blk_set hB j _, by rw [List.length_set]; exact hnc, hcm, by simp [hcs], ?_⟩⟩, hh⟩⟩
    rw [List.length_set, Nat.mul_one, Array.toList_setIfInBounds, List.take_set, htake, List.map_set]
    rfl

/-- A row by itself, begun behind the world wb. -/
def SH (w0 wb : World) (g : Nat) (A : Option Addr) (l c p : Nat) (u : Value) (ys : List Int) (w : World) : Prop := TI w0 wb g A l c p wb.heap.size (.slice none 0 0) [] [] u ys w
theorem SH.start {w0 wb g A l c p} (h : Rdr w0 wb g A l c p) : SH w0 wb g A l c p (.slice (some ⟨wb.heap.size, 0, none⟩) 0 0) [] (wb.alloc (.cells #[] 3)) :=
  ⟨h.below_ (below_alloc _ _), Bld.nil _ _ _, by rw [World.size_alloc]; exact BldI.make (Nat.le_refl _), blk_lt h.box, Nat.le_refl _, by simp, grown_of_below (below_alloc _ _)⟩
theorem SH.below {w0 wb g A l c p u ys w w'} (h : SH w0 wb g A l c p u ys w) (k : Below w.heap.size w w') : SH w0 wb g A l c p u ys w' :=
  ⟨h.rd.below_ k, Bld.nil _ _ _, (h.bi.below k).mono k.size, h.gl, h.lh, Nat.le_trans h.hs k.size, grown_below h.up k⟩
theorem SH.one {w0 wb g A l c p p' u ys w w'} (h : SH w0 wb g A l c p u ys w) (hr : Rdr w0 w' g A l c p') (ho : One g w w') : SH w0 wb g A l c p' u ys w' := TI.one h hr ho
theorem SH.set {w0 wb g A l c p u ys w} (h : SH w0 wb g A l c p u ys w) {j : Nat} (hj : j < ys.length) (x : Int) :
    ∃ b cc, u = .slice (some ⟨b, 0, none⟩) ys.length cc ∧ w.cell? ⟨b, j, none⟩ = some (.int .i64 (gi ys j)) ∧ w.frozen? ⟨b, j, none⟩ = false ∧ SH w0 wb g A l c p u (ys.set j x) (w.setCell ⟨b, j, none⟩ (.int .i64 x)) := by
  obtain ⟨b, cc, e, h1, h2, h3, h4, h5⟩ := h.bi.set hj x
  have hgl := h.gl
  have hs : (w.setCell ⟨b, j, none⟩ (.int .i64 x)).heap.size = w.heap.size := by simp [World.setCell]
  refine ⟨b, cc, e, h3, h4, ⟨⟨blk_other h.rd.box (by show g ≠ b; omega) _, h.rd.bytes, h.rd.below.setCell (by show w0.heap.size ≤ b; have := h.rd.lt; omega) _, h.rd.lt, h.rd.small⟩, Bld.nil _ _ _, by rw [hs]; exact h5, h.gl, h.lh, by rw [hs]; exact h.hs, ?_⟩⟩
  exact ⟨h.up.os, h.up.tape, h.up.output, by rw [hs]; exact h.up.size, fun k hk hne => (Below.heap_setCell _ _ _ _ (by show k ≠ b; omega)).trans (h.up.block k hk hne)⟩
def SharesOut (w0 wb : World) (g : Nat) (A : Option Addr) (l c p n : Nat) (e : Ending) (w' : World) : Prop :=
  ∃ Av cv ys p', e = .returned (.slice Av ys.length cv) ∧ ys.length ≤ n + 1 ∧ (∀ x ∈ ys, -1 ≤ x ∧ x ≤ 1001) ∧ SH w0 wb g A l c p' (.slice Av ys.length cv) ys w' ∧ p' ≤ p + 3 * n + 3

end Go.Proofs.Ytgmicblfegjbnaa

/- Best shares by a part of a table, by the model. -/
namespace Go.Proofs.Ytgmicblfegjbnaa
open Go.RowKit
open V (sumN detN rowC colC cofN minorN skip sgn Asc Kern)

/-- Shares by a part, and that they are best; or that there are none. -/
def NewK (w : World) (a : List (List Int)) (k : Nat) (r s : Nat → Nat) (e : Ending) (w' : World) : Prop :=
  (KerP a k r s ∧ ∃ A1 c1 A2 c2, e = .returned (.tuple #[.slice A1 a.length c1, .slice A2 (gr a 0).length c2, .bool true]) ∧ Ints w' A1 a.length c1 (shr a.length r (kX a r s k) k) ∧
    Ints w' A2 (gr a 0).length c2 (shr (gr a 0).length s (kY a r s k) k) ∧ Below w.heap.size w w') ∨
  (¬ KerP a k r s ∧ ∃ v1 v2, e = .returned (.tuple #[v1, v2, .bool false]) ∧ Below w.heap.size w w')
theorem flip_tr {xss : List (List Int)} {k : Nat} {f : Nat → Nat → Int} (h : Sq k xss f) : Sq k (flip xss k k) (trN f) :=
  ⟨flip_len _ _ _, fun p hp => by rw [gr_flip hp]; simp, fun p q hp hq => by
    unfold g2; rw [gr_flip hp, gi_col hq]; exact h.eq q p hq hp⟩
theorem Pl.keep {w w' : World} {X k c r n} (h : Pl w X k c r n) (q : Keep w w') : Pl w' X k c r n := ⟨h.ints.keep q, h.lt⟩

/-- What cleared answers, with its flag as a letter. -/
def ClrV (w' : World) (xs : List Int) (ok : Bool) (v : Value) : Prop :=
  (ok = true ∧ ClrP xs ∧ ∃ A c, v = .slice A xs.length c ∧ Ints w' A xs.length c (clrL xs (gcdL xs xs.length) xs.length)) ∨ (ok = false ∧ ¬ ClrP xs)
theorem NewC.uni {w w' : World} {xs : List Int} {e : Ending} (h : NewC w xs e w') : ∃ ok v, e = .returned (.tuple #[v, .bool ok]) ∧ Below w.heap.size w w' ∧ ClrV w' xs ok v := by
  rcases h with ⟨h1, A, n, c, g, rfl, rfl, ho, hb⟩ | ⟨h1, rfl, hb⟩
  · exact ⟨true, _, rfl, hb, .inl ⟨rfl, h1, A, c, rfl, ho.ints⟩⟩
  · exact ⟨false, _, rfl, hb, .inr ⟨rfl, h1⟩⟩
theorem ClrV.keep {w' w2 : World} {xs : List Int} {ok : Bool} {v : Value} (h : ClrV w' xs ok v) (k : Keep w' w2) : ClrV w2 xs ok v := by
  rcases h with ⟨h1, h2, A, c, h3, h4⟩ | h
  · exact .inl ⟨h1, h2, A, c, h3, h4.keep k⟩
  · exact .inr h
theorem mid_of {x : Int} (h : -648 ≤ x ∧ x ≤ 648) : Mid x := by unfold Mid; omega

end Go.Proofs.Ytgmicblfegjbnaa

/- The value's shares, by the model. -/
namespace Go.Proofs.Ytgmicblfegjbnaa
open Go.RowKit
open V (Asc)

/-- The best shares of a table. -/
def NewV (w : World) (a : List (List Int)) (e : Ending) (w' : World) : Prop :=
  ∃ A1 c1 A2 c2, e = .returned (.tuple #[.slice A1 a.length c1, .slice A2 (gr a 0).length c2]) ∧ Ints w' A1 a.length c1 (bx a) ∧ Ints w' A2 (gr a 0).length c2 (by_ a) ∧ Below w.heap.size w w'
theorem NewK.no {w w' : World} {a : List (List Int)} {k : Nat} {r s : Nat → Nat} {e : Ending} (h : NewK w a k r s e w') (hn : ¬ KerP a k r s) : ∃ v1 v2, e = .returned (.tuple #[v1, v2, .bool false]) ∧ Below w.heap.size w w' := by
  rcases h with ⟨h1, _⟩ | ⟨_, h⟩
  · exact absurd h1 hn
  · exact h
theorem NewK.yes {w w' : World} {a : List (List Int)} {k : Nat} {r s : Nat → Nat} {e : Ending} (h : NewK w a k r s e w') (hn : KerP a k r s) :
    ∃ A1 c1 A2 c2, e = .returned (.tuple #[.slice A1 a.length c1, .slice A2 (gr a 0).length c2, .bool true]) ∧ Ints w' A1 a.length c1 (shr a.length r (kX a r s k) k) ∧
      Ints w' A2 (gr a 0).length c2 (shr (gr a 0).length s (kY a r s k) k) ∧ Below w.heap.size w w' := by
  rcases h with ⟨_, h⟩ | ⟨h1, _⟩
  · exact h
  · exact absurd hn h1
theorem memL_pl {w : World} {A : Option Addr} {n c S m : Nat} (h : Ints w A n c (memL S m)) (e : n = (memL S m).length) : Pl w A n c (idx S m) m := by
  subst e
  exact ⟨by rw [← memL_idx]; exact h, (idx_asc S m).1⟩

end Go.Proofs.Ytgmicblfegjbnaa

/- A table and shares, drawn from bytes. -/
namespace Go.Proofs.Ytgmicblfegjbnaa
open Go.RowKit

theorem OwnR.grown {lo hi w w' b A n c xss} {g : Nat} (h : OwnR lo hi w b A n c xss) (k : w.grownBy w' (some g)) (hg : g < lo) : OwnR lo hi w' b A n c xss :=
  h.of_blocks fun i h1 _ h3 => k.block i h3 (fun e => by injection e with e; omega)
theorem OwnI.grown {lo hi w w' b A n c xs} {g : Nat} (h : OwnI lo hi w b A n c xs) (k : w.grownBy w' (some g)) (hg : g < lo) : OwnI lo hi w' b A n c xs :=
  h.of_block fun hn => k.block _ (h.lt hn) (fun e => by obtain ⟨_, _, q, _⟩ := h.own hn; injection e with e; omega)
theorem Picked.one {w0 g A l c p n w e w'} (h : Picked w0 g A l c p n w e w') : ∃ m : Int, e = .returned (.int .i64 m) ∧ (1 ≤ n → 0 ≤ m ∧ m < n) ∧ Rdr w0 w' g A l c (p + 1) ∧ w.grownBy w' (some g) := by
  obtain ⟨m, h1, h2, _, h4, q, rfl⟩ := h
  exact ⟨m, h1, h2, h4, ⟨rfl, rfl, rfl, by simp [World.setCell], fun k _ hne => Below.heap_setCell _ _ _ _ (fun e => hne (by rw [e]))⟩⟩

/-- A table and shares. -/
def DrawnTS (w : World) (e : Ending) (w' : World) : Prop :=
  ∃ Av n c gg xss Bv m cb ys, e = .returned (.tuple #[.slice Av n c, .slice Bv m cb]) ∧ Small xss ∧ OwnR w.heap.size w'.heap.size w' gg Av n c xss ∧ Ints w' Bv m cb ys ∧ Below w.heap.size w w'
/-- A table and shares of both players. -/
def DrawnTSS (w : World) (e : Ending) (w' : World) : Prop :=
  ∃ Av n c gg xss Bv m cb xs Cv l cc ys, e = .returned (.tuple #[.slice Av n c, .slice Bv m cb, .slice Cv l cc]) ∧ Small xss ∧ OwnR w.heap.size w'.heap.size w' gg Av n c xss ∧ Ints w' Bv m cb xs ∧ Ints w' Cv l cc ys ∧ Below w.heap.size w w'

end Go.Proofs.Ytgmicblfegjbnaa

/- Pairs drawn, with numbers of players. -/
namespace Go.Proofs.Ytgmicblfegjbnaa
open Go.RowKit

/-- The world with a table of two rows of two numbers, written out. -/
def lit2W (w : World) (x y z t : Int) : World := ((w.alloc (.cells #[iv x, iv y] 3)).alloc (.cells #[iv z, iv t] 3)).alloc (.cells #[.slice (some ⟨w.heap.size, 0, none⟩) 2 2, .slice (some ⟨w.heap.size + 1, 0, none⟩) 2 2] 43)
def lit2V (w : World) : List Value := [.slice (some ⟨w.heap.size, 0, none⟩) 2 2, .slice (some ⟨w.heap.size + 1, 0, none⟩) 2 2]
theorem lit2_below (w : World) (x y z t : Int) : Below w.heap.size w (lit2W w x y z t) := below_up (below_up (below_alloc w _) (below_alloc _ _)) (below_alloc _ _)
theorem lit2_size (w : World) (x y z t : Int) : (lit2W w x y z t).heap.size = w.heap.size + 3 := by simp [lit2W]
theorem own_two {W : World} {lo hi b : Nat} {x y : Int} (hb : Blk W b 3 #[iv x, iv y]) (h1 : lo ≤ b) (h2 : b < hi) (hx : -9223372036854775808 ≤ x ∧ x ≤ 9223372036854775807) (hy : -9223372036854775808 ≤ y ∧ y ≤ 9223372036854775807) :
    OwnI lo hi W b (some ⟨b, 0, none⟩) 2 2 [x, y] := by
  refine ⟨⟨rfl, Nat.le_refl _, by omega, fun v hv => ?_, fun _ => ⟨b, 0, rfl, fun k hk => ?_⟩⟩, fun _ => ⟨0, rfl, h1, h2, fun k _ => blk_frozen hb _⟩⟩
  · simp at hv; rcases hv with rfl | rfl <;> assumption
  · have h : k = 0 ∨ k = 1 := by omega
    rcases h with rfl | rfl
    · exact blk_cell hb (i := 0) rfl
    · exact blk_cell hb (i := 1) rfl
theorem Bld.lit2 (w : World) {x y z t : Int} (hx : -1000 ≤ x ∧ x ≤ 1000) (hy : -1000 ≤ y ∧ y ≤ 1000) (hz : -1000 ≤ z ∧ z ≤ 1000) (ht : -1000 ≤ t ∧ t ≤ 1000) :
    Bld w.heap.size (w.heap.size + 3) (lit2W w x y z t) (.slice (some ⟨w.heap.size + 1 + 1, 0, none⟩) 2 2) (lit2V w) [[x, y], [z, t]] := by
  have b0 := blk_old (blk_old (blk_new w 3 #[iv x, iv y]) (.cells #[iv z, iv t] 3)) (.cells #[.slice (some ⟨w.heap.size, 0, none⟩) 2 2, .slice (some ⟨w.heap.size + 1, 0, none⟩) 2 2] 43)
  have b1 := blk_old (blk_new (w.alloc (.cells #[iv x, iv y] 3)) 3 #[iv z, iv t]) (.cells #[.slice (some ⟨w.heap.size, 0, none⟩) 2 2, .slice (some ⟨w.heap.size + 1, 0, none⟩) 2 2] 43)
  have b2 := blk_new ((w.alloc (.cells #[iv x, iv y] 3)).alloc (.cells #[iv z, iv t] 3)) 43 #[.slice (some ⟨w.heap.size, 0, none⟩) 2 2, .slice (some ⟨w.heap.size + 1, 0, none⟩) 2 2]
  simp only [World.size_alloc] at b1 b2
  refine ⟨⟨rfl, .inr ⟨w.heap.size + 1 + 1, 2, #[.slice (some ⟨w.heap.size, 0, none⟩) 2 2, .slice (some ⟨w.heap.size + 1, 0, none⟩) 2 2], rfl, by omega, b2, Nat.le_refl _, by decide, rfl, by simp [lit2V]⟩⟩, fun k hk => by simp [Value.ownBlock] at hk; omega, fun k => w.heap.size + k, fun k => some ⟨w.heap.size + k, 0, none⟩, fun _ => 2, fun k hk => ?_, fun j k hjk _ _ _ => by show w.heap.size + j ≠ w.heap.size + k; omega⟩
  have h : k = 0 ∨ k = 1 := by simp at hk; omega
  rcases h with rfl | rfl
  · exact ⟨rfl, own_two (b := w.heap.size) b0 (Nat.le_refl _) (by omega) (by omega) (by omega), fun _ => by simp [Value.ownBlock]; omega⟩
  · exact ⟨rfl, own_two (b := w.heap.size + 1) b1 (by omega) (by omega) (by omega) (by omega), fun _ => by simp [Value.ownBlock]⟩
theorem TO.lit2 {w0 wb g A l c p} (h : Rdr w0 wb g A l c p) {x y z t : Int} (hx : -1000 ≤ x ∧ x ≤ 1000) (hy : -1000 ≤ y ∧ y ≤ 1000) (hz : -1000 ≤ z ∧ z ≤ 1000) (ht : -1000 ≤ t ∧ t ≤ 1000) :
    TO w0 wb g A l c p (.slice (some ⟨wb.heap.size + 1 + 1, 0, none⟩) 2 2) (lit2V wb) [[x, y], [z, t]] (lit2W wb x y z t) :=
  ⟨h.below_ (lit2_below _ _ _ _ _), by rw [lit2_size]; exact Bld.lit2 wb hx hy hz ht, blk_lt h.box, grown_of_below (lit2_below _ _ _ _ _)⟩

set_option maxRecDepth 100000 in
set_option maxHeartbeats 1600000 in
theorem somePair_any (w0 w : World) (g : Nat) (A : Option Addr) (l c p : Nat) (h : Rdr w0 w g A l c p) (hp : p < 800000000) :
    Calls Try.prog 55 #[.pointer (some ⟨g, 0, none⟩)] w (SomeT w0 g A l c p w) := by
  have H1 := Lib.hid (one_lit w0 w _ g A l c p w.heap.size 3 [9, 4, 2] h (by omega) (below_alloc w (.cells #[iv 9, iv 4, iv 2] 3)) (Nat.le_refl _) (Ints.lit w [9, 4, 2] (by decide) (by decide)) (by omega))
  clear h
  go_enter Try.func55, Try.ntmps55
  go_wp2_with fail
  refine H1.out.mono ?_
  rintro e w1 ⟨x, rfl, hx, hr, hgr⟩
  have hx1 : 2 ≤ x ∧ x ≤ 9 := by simp at hx; omega
  have HG1 := Lib.hid hgr
  have H4 := Lib.hid (tableOf_any w0 w1 g A l c (p + 1) 2 2 1 x hr (by omega) (by omega) (by omega) (by omega) (by omega) (by omega))
  clear hx hr hgr H1
  go_wp2_with fail
  refine H4.out.mono ?_
  rintro e w4 ⟨Av, cv, vs, xss, p4, rfl, hl, hxs, hto, hp4⟩
  have HTO := Lib.hid hto
  have HSM := Lib.hid (show Small xss from ⟨by omega, fun r hr => ⟨by have := (hxs r hr).1; omega, fun y hy => by have := (hxs r hr).2 y hy; omega⟩⟩)
  have HL := Lib.hid hl
  have H5 := Lib.hid (pick_any w0 w4 g A l c p4 8 hto.rd (by omega))
  clear hxs hto H4 hl
  go_wp2_with fail
  refine H5.out.mono ?_
  rintro e w5 ⟨k, rfl, hk1, _, hr, z, hw⟩
  have hone := Rdr.one (g := g) w4 (.int .i64 (p4 + 1 : Nat)) z
  rw [← hw] at hone
  have HT5 := Lib.hid (HTO.out.one hr hone)
  have HG5 := Lib.hid (grown_trans HG1.out HT5.out.up)
  clear hr hone hw hk1 H5 HTO
  by_cases e0 : k = 0
  · subst e0
    have H6 := Lib.hid (pick_any w0 w5 g A l c (p4 + 1) 9 HT5.out.rd (by omega))
    clear HSM HL HG1
    go_wp2_with fail
    refine H6.out.mono ?_
    rintro e w6 hpk
    obtain ⟨m, rfl, hm, hrd, hgr⟩ := hpk.one
    have hm := hm (by omega)
    obtain ⟨hm1, hm2⟩ := hm
    have HT6 := Lib.hid (TO.lit2 hrd (x := 1 + m) (y := 1 + m) (z := 1 + m) (t := 1 + m) (by omega) (by omega) (by omega) (by omega))
    have HG6 := Lib.hid (grown_trans HG5.out hgr)
    have HSM := Lib.hid (show Small [[1 + m, 1 + m], [1 + m, 1 + m]] from ⟨by simp, fun r hr => by
      simp at hr; subst hr; exact ⟨by simp, fun y hy => by simp at hy; omega⟩⟩)
    have H7 := Lib.hid (spoil_any w0 w6 (lit2W w6 (1 + m) (1 + m) (1 + m) (1 + m)) g A l c (p4 + 2) _ 2 (lit2V w6) [[1 + m, 1 + m], [1 + m, 1 + m]] HT6.out (by omega) HSM.out (by simp))
    clear hpk hrd hgr H6 HT5 HG5
    go_wp2_with fail
    refine H7.out.mono ?_
    rintro e w7 ⟨v', vs', xss', p', rfl, hs, hto, hp5⟩
    have HTO := Lib.hid hto
    have HSM2 := Lib.hid hs
    clear hs hto H7
    go_wp2
    go_ret
    exact ⟨_, _, _, _, _, rfl, HSM2.out, HTO.out, by omega, HG6.out⟩
  · have hz : (k == 0) = false := by simpa using e0
    have H7 := Lib.hid (spoil_any w0 w1 w5 g A l c (p4 + 1) Av cv vs xss (by rw [HL.out]; exact HT5.out) (by omega) HSM.out (by rw [HL.out]; omega))
    rw [HL.out] at H7
    clear e0
    go_wp2_with fail
    refine H7.out.mono ?_
    rintro e w7 ⟨v', vs', xss', p', rfl, hs, hto, hp5⟩
    have HTO := Lib.hid hto
    have HSM2 := Lib.hid hs
    clear hs hto H7
    go_wp2
    go_ret
    exact ⟨_, _, _, _, _, rfl, HSM2.out, HTO.out, by omega, HG1.out⟩
end Go.Proofs.Ytgmicblfegjbnaa

/- Pairs and numbers of players drawn from bytes. -/
namespace Go.Proofs.Ytgmicblfegjbnaa
open Go.RowKit

/-- A drawn table and a number; and another number. -/
def DrawnTN (w : World) (e : Ending) (w' : World) : Prop :=
  ∃ Av n c gg xss, ∃ k : Int, e = .returned (.tuple #[.slice Av n c, .int .i64 k]) ∧ (1 ≤ k ∧ k ≤ 7) ∧ Small xss ∧ OwnR w.heap.size w'.heap.size w' gg Av n c xss ∧ Below w.heap.size w w'
def DrawnTNI (w : World) (e : Ending) (w' : World) : Prop :=
  ∃ Av n c gg xss, ∃ k i : Int, e = .returned (.tuple #[.slice Av n c, .int .i64 k, .int .i64 i]) ∧ (1 ≤ k ∧ k ≤ 7) ∧ (-1 ≤ i ∧ i ≤ 8) ∧ Small xss ∧ OwnR w.heap.size w'.heap.size w' gg Av n c xss ∧ Below w.heap.size w w'
set_option maxRecDepth 100000 in
set_option maxHeartbeats 1600000 in
theorem DrawValidPair_any (A : Option Addr) (n c : Nat) (w : World) (h : Bytes w A n c) :
    Calls Try.prog 29 #[.slice A n c] w (DrawnT w) := by
  have H0 := Lib.hid (newReader_any A n c w h)
  clear h
  go_enter Try.func29, Try.ntmps29
  go_wp2_with fail
  refine H0.out.mono ?_
  rintro e w1 ⟨A1, l, c1, rfl, hl, hr, hs⟩
  have H1 := Lib.hid (somePair_any w w1 w.heap.size A1 l c1 0 hr (by omega))
  clear hr hl H0
  go_wp2_with fail
  refine H1.out.mono ?_
  rintro e w2 ⟨wb, v', vs', xss', p', rfl, hsm, hto, hp, hg⟩
  have hsz := hg.size
  obtain ⟨Av, nv, cv, gg, rfl, hnv, hown⟩ := hto.bo.owns (by have := hsm.n; omega)
  have HO := Lib.hid (hown.mono (show w.heap.size ≤ wb.heap.size by omega) (Nat.le_refl _))
  have HB := Lib.hid hto.rd.below
  have HS := Lib.hid hsm
  clear hsm hto hown hg H1 hnv
  go_wp2
  go_ret
  exact ⟨_, _, _, _, _, rfl, HS.out, HO.out, HB.out⟩
set_option maxRecDepth 100000 in
set_option maxHeartbeats 1600000 in
theorem DrawFavourOf_any (A : Option Addr) (n c : Nat) (w : World) (h : Bytes w A n c) :
    Calls Try.prog 37 #[.slice A n c] w (DrawnTN w) := by
  have H0 := Lib.hid (newReader_any A n c w h)
  clear h
  go_enter Try.func37, Try.ntmps37
  go_wp2_with fail
  refine H0.out.mono ?_
  rintro e w1 ⟨A1, l, c1, rfl, hl, hr, hs⟩
  have H1 := Lib.hid (somePair_any w w1 w.heap.size A1 l c1 0 hr (by omega))
  clear hr hl H0
  go_wp2_with fail
  refine H1.out.mono ?_
  rintro e w2 ⟨wb, v', vs', xss', p', rfl, hsm, hto, hp, hg⟩
  have hsz := hg.size
  obtain ⟨Av, nv, cv, gg, rfl, hnv, hown⟩ := hto.bo.owns (by have := hsm.n; omega)
  have HO := Lib.hid (hown.mono (show w.heap.size + 1 ≤ wb.heap.size by have := hto.gl; omega) (Nat.le_refl _))
  have HS := Lib.hid hsm
  have H2 := Lib.hid (one_lit w w2 _ w.heap.size A1 l c1 p' w2.heap.size 7 [3, 4, 2, 5, 6, 1, 7] hto.rd (by omega) (below_alloc w2 (.cells #[iv 3, iv 4, iv 2, iv 5, iv 6, iv 1, iv 7] 3)) (Nat.le_refl _) (Ints.lit w2 [3, 4, 2, 5, 6, 1, 7] (by decide) (by decide)) (by omega))
  clear hsm hto hown hg H1 hnv
  go_wp2_with fail
  refine H2.out.mono ?_
  rintro e w3 ⟨k, rfl, hx, hr, hgr⟩
  have hk : 1 ≤ k ∧ k ≤ 7 := by simp at hx; omega
  have HO3 := Lib.hid ((HO.out.grown hgr (by omega)).mono (Nat.le_refl _) hgr.size)
  have HR3 := Lib.hid hr
  clear hx hr hgr H2 HO
  go_wp2
  go_ret2
  exact ⟨_, _, _, _, _, k, rfl, hk, HS.out, HO3.out.mono (Nat.le_succ _) (Nat.le_refl _), HR3.out.below⟩
set_option maxRecDepth 100000 in
set_option maxHeartbeats 1600000 in
theorem DrawPaysAt_any (A : Option Addr) (n c : Nat) (w : World) (h : Bytes w A n c) :
    Calls Try.prog 31 #[.slice A n c] w (DrawnTNI w) := by
  have H0 := Lib.hid (newReader_any A n c w h)
  clear h
  go_enter Try.func31, Try.ntmps31
  go_wp2_with fail
  refine H0.out.mono ?_
  rintro e w1 ⟨A1, l, c1, rfl, hl, hr, hs⟩
  have H1 := Lib.hid (somePair_any w w1 w.heap.size A1 l c1 0 hr (by omega))
  clear hr hl H0
  go_wp2_with fail
  refine H1.out.mono ?_
  rintro e w2 ⟨wb, v', vs', xss', p', rfl, hsm, hto, hp, hg⟩
  have hsz := hg.size
  obtain ⟨Av, nv, cv, gg, rfl, hnv, hown⟩ := hto.bo.owns (by have := hsm.n; omega)
  have HO := Lib.hid (hown.mono (show w.heap.size + 1 ≤ wb.heap.size by have := hto.gl; omega) (Nat.le_refl _))
  have HS := Lib.hid hsm
  have H2 := Lib.hid (one_lit w w2 _ w.heap.size A1 l c1 p' w2.heap.size 7 [3, 4, 2, 5, 6, 1, 7] hto.rd (by omega) (below_alloc w2 (.cells #[iv 3, iv 4, iv 2, iv 5, iv 6, iv 1, iv 7] 3)) (Nat.le_refl _) (Ints.lit w2 [3, 4, 2, 5, 6, 1, 7] (by decide) (by decide)) (by omega))
  clear hsm hto hown hg H1 hnv
  go_wp2_with fail
  refine H2.out.mono ?_
  rintro e w3 ⟨k, rfl, hx, hr, hgr⟩
  have hk : 1 ≤ k ∧ k ≤ 7 := by simp at hx; omega
  have HO3 := Lib.hid ((HO.out.grown hgr (by omega)).mono (Nat.le_refl _) hgr.size)
  have HR3 := Lib.hid hr
  clear hx hr hgr H2 HO
  have H4 := Lib.hid (pick_any w w3 w.heap.size A1 l c1 (p' + 1) (k + 1) HR3.out (by omega))
  obtain ⟨hk1, hk2⟩ := hk
  go_wp2_with fail
  refine H4.out.mono ?_
  rintro e w4 hpk
  obtain ⟨m1, rfl, hm, hrd, hgr⟩ := hpk.one
  have hm := hm (by omega)
  have HO4 := Lib.hid ((HO3.out.grown hgr (by omega)).mono (Nat.le_refl _) hgr.size)
  have HR4 := Lib.hid hrd
  obtain ⟨hm1, hm2⟩ := hm
  clear hpk hrd hgr H4 HO3 HR3
  have H5 := Lib.hid (pick_any w w4 w.heap.size A1 l c1 (p' + 1 + 1) (k + 1) HR4.out (by omega))
  go_wp2_with fail
  refine H5.out.mono ?_
  rintro e w5 hpk
  obtain ⟨m2, rfl, hm, hrd, hgr⟩ := hpk.one
  have hm := hm (by omega)
  have HO5 := Lib.hid ((HO4.out.grown hgr (by omega)).mono (Nat.le_refl _) hgr.size)
  have HR5 := Lib.hid hrd
  obtain ⟨hm3, hm4⟩ := hm
  clear hpk hrd hgr H5 HO4 HR4
  have H6 := Lib.hid (one_lit w w5 _ w.heap.size A1 l c1 (p' + 1 + 1 + 1) w5.heap.size 7 [1, m1, m2, k, 0, k + 1, -1] HR5.out (by omega) (below_alloc w5 (.cells #[iv 1, iv m1, iv m2, iv k, iv 0, iv (k + 1), iv (-1)] 3)) (Nat.le_refl _) (Ints.lit w5 [1, m1, m2, k, 0, k + 1, -1] (by simp) (by intro x hx; simp at hx; omega)) (by omega))
  go_wp2_with fail
  refine H6.out.mono ?_
  rintro e w6 ⟨i, rfl, hx, hr, hgr⟩
  have hi : -1 ≤ i ∧ i ≤ 8 := by simp at hx; omega
  have HO6 := Lib.hid ((HO5.out.grown hgr (by omega)).mono (Nat.le_succ _) hgr.size)
  have HB6 := Lib.hid hr.below
  clear hx hr hgr H6 HO5 HR5
  go_wp2
  refine bodyPost_ret (v := .tuple #[.slice Av nv cv, .int .i64 k, .int .i64 i]) (by simp [results, Try.results31, go_sem]) rfl ?_
  exact ⟨_, _, _, _, _, k, i, rfl, ⟨hk1, hk2⟩, hi, HS.out, HO6.out, HB6.out⟩
set_option maxRecDepth 100000 in
set_option maxHeartbeats 1600000 in
theorem DrawFixedFrom_any (A : Option Addr) (n c : Nat) (w : World) (h : Bytes w A n c) :
    Calls Try.prog 32 #[.slice A n c] w (DrawnTNI w) := by
  have H0 := Lib.hid (newReader_any A n c w h)
  clear h
  go_enter Try.func32, Try.ntmps32
  go_wp2_with fail
  refine H0.out.mono ?_
  rintro e w1 ⟨A1, l, c1, rfl, hl, hr, hs⟩
  have H1 := Lib.hid (somePair_any w w1 w.heap.size A1 l c1 0 hr (by omega))
  clear hr hl H0
  go_wp2_with fail
  refine H1.out.mono ?_
  rintro e w2 ⟨wb, v', vs', xss', p', rfl, hsm, hto, hp, hg⟩
  have hsz := hg.size
  obtain ⟨Av, nv, cv, gg, rfl, hnv, hown⟩ := hto.bo.owns (by have := hsm.n; omega)
  have HO := Lib.hid (hown.mono (show w.heap.size + 1 ≤ wb.heap.size by have := hto.gl; omega) (Nat.le_refl _))
  have HS := Lib.hid hsm
  have H2 := Lib.hid (one_lit w w2 _ w.heap.size A1 l c1 p' w2.heap.size 7 [3, 4, 2, 5, 6, 1, 7] hto.rd (by omega) (below_alloc w2 (.cells #[iv 3, iv 4, iv 2, iv 5, iv 6, iv 1, iv 7] 3)) (Nat.le_refl _) (Ints.lit w2 [3, 4, 2, 5, 6, 1, 7] (by decide) (by decide)) (by omega))
  clear hsm hto hown hg H1 hnv
  go_wp2_with fail
  refine H2.out.mono ?_
  rintro e w3 ⟨k, rfl, hx, hr, hgr⟩
  have hk : 1 ≤ k ∧ k ≤ 7 := by simp at hx; omega
  have HO3 := Lib.hid ((HO.out.grown hgr (by omega)).mono (Nat.le_refl _) hgr.size)
  have HR3 := Lib.hid hr
  clear hx hr hgr H2 HO
  have H4 := Lib.hid (pick_any w w3 w.heap.size A1 l c1 (p' + 1) (k + 1) HR3.out (by omega))
  obtain ⟨hk1, hk2⟩ := hk
  go_wp2_with fail
  refine H4.out.mono ?_
  rintro e w4 hpk
  obtain ⟨m1, rfl, hm, hrd, hgr⟩ := hpk.one
  have hm := hm (by omega)
  have HO4 := Lib.hid ((HO3.out.grown hgr (by omega)).mono (Nat.le_refl _) hgr.size)
  have HR4 := Lib.hid hrd
  obtain ⟨hm1, hm2⟩ := hm
  clear hpk hrd hgr H4 HO3 HR3
  have H5 := Lib.hid (pick_any w w4 w.heap.size A1 l c1 (p' + 1 + 1) (k + 1) HR4.out (by omega))
  go_wp2_with fail
  refine H5.out.mono ?_
  rintro e w5 hpk
  obtain ⟨m2, rfl, hm, hrd, hgr⟩ := hpk.one
  have hm := hm (by omega)
  have HO5 := Lib.hid ((HO4.out.grown hgr (by omega)).mono (Nat.le_refl _) hgr.size)
  have HR5 := Lib.hid hrd
  obtain ⟨hm3, hm4⟩ := hm
  clear hpk hrd hgr H5 HO4 HR4
  have H6 := Lib.hid (one_lit w w5 _ w.heap.size A1 l c1 (p' + 1 + 1 + 1) w5.heap.size 7 [1, m1, m2, k, 0, k + 1, -1] HR5.out (by omega) (below_alloc w5 (.cells #[iv 1, iv m1, iv m2, iv k, iv 0, iv (k + 1), iv (-1)] 3)) (Nat.le_refl _) (Ints.lit w5 [1, m1, m2, k, 0, k + 1, -1] (by simp) (by intro x hx; simp at hx; omega)) (by omega))
  go_wp2_with fail
  refine H6.out.mono ?_
  rintro e w6 ⟨i, rfl, hx, hr, hgr⟩
  have hi : -1 ≤ i ∧ i ≤ 8 := by simp at hx; omega
  have HO6 := Lib.hid ((HO5.out.grown hgr (by omega)).mono (Nat.le_succ _) hgr.size)
  have HB6 := Lib.hid hr.below
  clear hx hr hgr H6 HO5 HR5
  go_wp2
  refine bodyPost_ret (v := .tuple #[.slice Av nv cv, .int .i64 k, .int .i64 i]) (by simp [results, Try.results32, go_sem]) rfl ?_
  exact ⟨_, _, _, _, _, k, i, rfl, ⟨hk1, hk2⟩, hi, HS.out, HO6.out, HB6.out⟩

end Go.Proofs.Ytgmicblfegjbnaa

/- Tables of two rows written out, whichever row is made first. -/
namespace Go.Proofs.Ytgmicblfegjbnaa
open Go.RowKit

theorem lit2_rows (w : World) {x y z t : Int} (hx : -1000 ≤ x ∧ x ≤ 1000) (hy : -1000 ≤ y ∧ y ≤ 1000) (hz : -1000 ≤ z ∧ z ≤ 1000) (ht : -1000 ≤ t ∧ t ≤ 1000) :
    IntRows (((w.alloc (.cells #[.int .i64 x, .int .i64 y] 3)).alloc (.cells #[.int .i64 z, .int .i64 t] 3)).alloc (.cells #[.slice (some ⟨w.heap.size, 0, none⟩) 2 2, .slice (some ⟨w.heap.size + 1, 0, none⟩) 2 2] 43)) (some ⟨w.heap.size + 1 + 1, 0, none⟩) 2 2 [[x, y], [z, t]] := by
  obtain ⟨A, n, c, g, e, hn, ho⟩ := (Bld.lit2 w hx hy hz ht).owns (by simp)
  injection e with e1 e2 e3
  subst e1
  subst e2
  subst e3
  exact ho.rows
theorem lit2_rowsB (w : World) {x y z t : Int} (hx : -1000 ≤ x ∧ x ≤ 1000) (hy : -1000 ≤ y ∧ y ≤ 1000) (hz : -1000 ≤ z ∧ z ≤ 1000) (ht : -1000 ≤ t ∧ t ≤ 1000) :
    IntRows (((w.alloc (.cells #[.int .i64 z, .int .i64 t] 3)).alloc (.cells #[.int .i64 x, .int .i64 y] 3)).alloc (.cells #[.slice (some ⟨w.heap.size + 1, 0, none⟩) 2 2, .slice (some ⟨w.heap.size, 0, none⟩) 2 2] 43)) (some ⟨w.heap.size + 1 + 1, 0, none⟩) 2 2 [[x, y], [z, t]] := by
  have b0 := blk_old (blk_old (blk_new w 3 #[iv z, iv t]) (.cells #[iv x, iv y] 3)) (.cells #[.slice (some ⟨w.heap.size + 1, 0, none⟩) 2 2, .slice (some ⟨w.heap.size, 0, none⟩) 2 2] 43)
  have b1 := blk_old (blk_new (w.alloc (.cells #[iv z, iv t] 3)) 3 #[iv x, iv y]) (.cells #[.slice (some ⟨w.heap.size + 1, 0, none⟩) 2 2, .slice (some ⟨w.heap.size, 0, none⟩) 2 2] 43)
  have b2 := blk_new ((w.alloc (.cells #[iv z, iv t] 3)).alloc (.cells #[iv x, iv y] 3)) 43 #[.slice (some ⟨w.heap.size + 1, 0, none⟩) 2 2, .slice (some ⟨w.heap.size, 0, none⟩) 2 2]
  simp only [World.size_alloc] at b1 b2
  have hb : Bld w.heap.size (w.heap.size + 3) (((w.alloc (.cells #[iv z, iv t] 3)).alloc (.cells #[iv x, iv y] 3)).alloc (.cells #[.slice (some ⟨w.heap.size + 1, 0, none⟩) 2 2, .slice (some ⟨w.heap.size, 0, none⟩) 2 2] 43)) (.slice (some ⟨w.heap.size + 1 + 1, 0, none⟩) 2 2) [.slice (some ⟨w.heap.size + 1, 0, none⟩) 2 2, .slice (some ⟨w.heap.size, 0, none⟩) 2 2] [[x, y], [z, t]] := by
    refine ⟨⟨rfl, .inr ⟨w.heap.size + 1 + 1, 2, #[.slice (some ⟨w.heap.size + 1, 0, none⟩) 2 2, .slice (some ⟨w.heap.size, 0, none⟩) 2 2], rfl, by omega, b2, Nat.le_refl _, by decide, rfl, by simp⟩⟩, fun k hk => by simp [Value.ownBlock] at hk; omega, fun k => w.heap.size + 1 - k, fun k => some ⟨w.heap.size + 1 - k, 0, none⟩, fun _ => 2, fun k hk => ?_, fun j k hjk hk _ _ => by simp at hk; show w.heap.size + 1 - j ≠ w.heap.size + 1 - k; omega⟩
    have h : k = 0 ∨ k = 1 := by simp at hk; omega
    rcases h with rfl | rfl
    · exact ⟨rfl, own_two (b := w.heap.size + 1) b1 (by omega) (by omega) (by omega) (by omega), fun _ => by simp [Value.ownBlock]⟩
    · exact ⟨by simp [gr], own_two (b := w.heap.size) b0 (Nat.le_refl _) (by omega) (by omega) (by omega), fun _ => by simp [Value.ownBlock]; omega⟩
  obtain ⟨A, n, c, g, e, hn, ho⟩ := hb.owns (by simp)
  injection e with e1 e2 e3
  subst e1
  subst e2
  subst e3
  exact ho.rows
theorem lit2_up (w : World) (a b c : Obj) : Below w.heap.size w (((w.alloc a).alloc b).alloc c) := below_up (below_up (below_alloc w _) (below_alloc _ _)) (below_alloc _ _)
theorem lit2_rowsD (w : World) {x y z t : Int} (hx : -1000 ≤ x ∧ x ≤ 1000) (hy : -1000 ≤ y ∧ y ≤ 1000) (hz : -1000 ≤ z ∧ z ≤ 1000) (ht : -1000 ≤ t ∧ t ≤ 1000) : IntRows (((w.alloc (.cells #[.int .i64 x, .int .i64 y] 3)).alloc (.cells #[.int .i64 z, .int .i64 t] 3)).alloc (.cells #[.slice (some ⟨w.heap.size, 0, none⟩) 2 2, .slice (some ⟨w.heap.size + 1, 0, none⟩) 2 2] 43)).drew (some ⟨w.heap.size + 1 + 1, 0, none⟩) 2 2 [[x, y], [z, t]] := (lit2_rows w hx hy hz ht).keep (Keep.drewN _ 1)
theorem lit2_rowsBD (w : World) {x y z t : Int} (hx : -1000 ≤ x ∧ x ≤ 1000) (hy : -1000 ≤ y ∧ y ≤ 1000) (hz : -1000 ≤ z ∧ z ≤ 1000) (ht : -1000 ≤ t ∧ t ≤ 1000) : IntRows (((w.alloc (.cells #[.int .i64 z, .int .i64 t] 3)).alloc (.cells #[.int .i64 x, .int .i64 y] 3)).alloc (.cells #[.slice (some ⟨w.heap.size + 1, 0, none⟩) 2 2, .slice (some ⟨w.heap.size, 0, none⟩) 2 2] 43)).drew (some ⟨w.heap.size + 1 + 1, 0, none⟩) 2 2 [[x, y], [z, t]] := (lit2_rowsB w hx hy hz ht).keep (Keep.drewN _ 1)
theorem lit2_upD (w : World) (a b c : Obj) : Below w.heap.size w (((w.alloc a).alloc b).alloc c).drew := (lit2_up w a b c).drew
theorem keep_al1 (w : World) (a : Obj) : Keep w (w.alloc a).drew := Keep.below (below_alloc w a).drew
theorem keep_al2 (w : World) (a b : Obj) : Keep w ((w.alloc a).alloc b).drew := Keep.below (below_up (below_alloc w a) (below_alloc _ b)).drew
theorem keep_al3 (w : World) (a b c : Obj) : Keep w (((w.alloc a).alloc b).alloc c).drew := Keep.below (lit2_upD w a b c)
end Go.Proofs.Ytgmicblfegjbnaa

/- Both strategies exchanged; chances as fair bets; more makes surer. Plain. -/
namespace Go.Proofs.Ytgmicblfegjbnaa

theorem VP.mk2 {x y z t : Int} (hx : 1 ≤ x ∧ x ≤ 9) (hy : 1 ≤ y ∧ y ≤ 9) (hz : 1 ≤ z ∧ z ≤ 9) (ht : 1 ≤ t ∧ t ≤ 9) : VP [[x, y], [z, t]] := by
  have hr : ∀ i, i < 2 → (gr [[x, y], [z, t]] i).length = 2 ∧ RowV (gr [[x, y], [z, t]] i) := fun i hi => by
    have h : i = 0 ∨ i = 1 := by omega
    rcases h with rfl | rfl
    · refine ⟨rfl, by simp [gr], by simp [gr], fun j hj => ?_⟩
      have h : j = 0 ∨ j = 1 := by simp [gr] at hj; omega
      rcases h with rfl | rfl <;> simp [gr, gi, InR] <;> omega
    · refine ⟨rfl, by simp [gr], by simp [gr], fun j hj => ?_⟩
      have h : j = 0 ∨ j = 1 := by simp [gr] at hj; omega
      rcases h with rfl | rfl <;> simp [gr, gi, InR] <;> omega
  refine ⟨⟨⟨VT_of (by simp) (by simp) fun i hi => ⟨(hr i hi).1, (hr i hi).2⟩, rfl⟩, fun i j hi hj => ?_⟩, rfl⟩
  have h : i = 0 ∨ i = 1 := by simp at hi; omega
  have h' : j = 0 ∨ j = 1 := by simp at hj; omega
  rcases h with rfl | rfl <;> rcases h' with rfl | rfl <;> simp [g2, gr, gi] <;> omega
/-- Both strategies exchanged. -/
def flp (a : List (List Int)) : List (List Int) := [[g2 a 1 1, g2 a 1 0], [g2 a 0 1, g2 a 0 0]]
theorem VP.flp {a : List (List Int)} (h : VP a) : VP (flp a) := VP.mk2 (h.bd (by omega) (by omega)) (h.bd (by omega) (by omega)) (h.bd (by omega) (by omega)) (h.bd (by omega) (by omega))
theorem CR.flp {a n} (h : CR a n) : CR (flp a) n := ⟨h.p.flp, h.n2, h.n6⟩
theorem pf_flp (a : List (List Int)) {n i : Nat} (h : i ≤ n) : pfA (flp a) n i = pgA a n (n - i) := by
  have e : ((n - i : Nat) : Int) = (n : Int) - (i : Int) := by omega
  unfold pfA pgA flp
  rw [e]
  simp only [g2, gr, gi, List.getD_cons_zero, List.getD_cons_succ]
  grind
theorem pg_flp (a : List (List Int)) {n i : Nat} (h : i ≤ n) : pgA (flp a) n i = pfA a n (n - i) := by
  have e : ((n - i : Nat) : Int) = (n : Int) - (i : Int) := by omega
  unfold pfA pgA flp
  rw [e]
  simp only [g2, gr, gi, List.getD_cons_zero, List.getD_cons_succ]
  grind
theorem up_turn {f g : Nat → Int} {m : Nat} (h : ∀ j, 1 ≤ j → j ≤ m → g j = f (m + 1 - j)) : ∀ {k}, k ≤ m → upP g k = dnP f m k
  | 0, _ => rfl
  | k + 1, hk => by
    rw [upP, dnP, up_turn h (by omega), h (k + 1) (by omega) hk]
    congr 2
    omega
theorem dn_turn {f g : Nat → Int} {m : Nat} (h : ∀ j, 1 ≤ j → j ≤ m → f j = g (m + 1 - j)) : ∀ {t}, t ≤ m → dnP f m t = upP g t
  | 0, _ => rfl
  | t + 1, ht => by
    rw [upP, dnP, dn_turn h (by omega), h (m - t) (by omega) (by omega)]
    congr 2
    omega
theorem num_turn {f g f' g' : Nat → Int} {m k : Nat} (h1 : ∀ j, 1 ≤ j → j ≤ m → f' j = g (m + 1 - j)) (h2 : ∀ j, 1 ≤ j → j ≤ m → g' j = f (m + 1 - j)) (hk : k ≤ m) : numP f' g' m k = numP f g m (m - k) := by
  unfold numP
  rw [up_turn h2 hk, dn_turn h1 (by omega), Int.mul_comm]
  congr 2
  omega
theorem CR.num_flp {a n} (h : CR a n) {k : Nat} (hk : k ≤ n - 1) : numP (pfA (Go.Proofs.Ytgmicblfegjbnaa.flp a) n) (pgA (Go.Proofs.Ytgmicblfegjbnaa.flp a) n) (n - 1) k = numP (pfA a n) (pgA a n) (n - 1) (n - 1 - k) := by
  have hn := h.n2
  refine num_turn (fun j h1 hj => ?_) (fun j h1 hj => ?_) hk
  · rw [pf_flp a (by omega)]; congr 1; omega
  · rw [pg_flp a (by omega)]; congr 1; omega
theorem sm_cons (x : Int) (l : List Int) : ∀ k, sm (x :: l) (k + 1) = x + sm l k
  | 0 => by simp [sm, gi]
  | k + 1 => by
    rw [sm, sm_cons x l k, sm]
    have : gi (x :: l) (k + 1) = gi l k := by simp [gi]
    rw [this]; omega
theorem tot_cons (x : Int) (l : List Int) : tot (x :: l) = x + tot l := by unfold tot; rw [List.length_cons, sm_cons]
theorem tot_reverse : ∀ l : List Int, tot l.reverse = tot l
  | [] => rfl
  | x :: l => by rw [List.reverse_cons, tot_snoc, tot_reverse l, tot_cons]; omega
theorem CR.fxT_flp {a n} (h : CR a n) : fxT (Go.Proofs.Ytgmicblfegjbnaa.flp a) n = fxT a n := by
  unfold fxT
  rw [← tot_reverse (numL (pfA a n) (pgA a n) (n - 1))]
  congr 1
  refine gi_ext (by simp [numL_len]) fun k hk => ?_
  rw [numL_len] at hk
  rw [gi_numL (by omega), h.num_flp (by omega), gi_get (by rw [List.length_reverse, numL_len]; exact hk), List.getElem_reverse, ← gi_get, numL_len, gi_numL (by omega)]
  congr 1
theorem fxU_one (a : List (List Int)) (n : Nat) : fxU a n 1 = numP (pfA a n) (pgA a n) (n - 1) 0 := by
  unfold fxU; rw [sm, sm, gi_numL (by omega)]; omega
theorem fxU_succ (a : List (List Int)) (n i : Nat) (h : i ≤ n - 1) : fxU a n (i + 1) = fxU a n i + numP (pfA a n) (pgA a n) (n - 1) i := by
  unfold fxU; rw [sm, gi_numL h]
theorem CR.fxU_all {a n} (h : CR a n) : fxU a n n = fxT a n := by
  unfold fxU fxT tot
  rw [numL_len]
  congr 1
  have := h.n2; omega
theorem CR.fx_last {a n} (h : CR a n) : fxT a n - fxU a n (n - 1) = numP (pfA a n) (pgA a n) (n - 1) (n - 1) := by
  have hn := h.n2
  have e := fxU_succ a n (n - 1) (Nat.le_refl _)
  rw [show n - 1 + 1 = n by omega, h.fxU_all] at e
  omega
/-- What both programs answer of both strategies exchanged. -/
theorem CR.fo_flp {a n} (h : CR a n) : foP (Go.Proofs.Ytgmicblfegjbnaa.flp a) n = foQ a n ∧ foQ (Go.Proofs.Ytgmicblfegjbnaa.flp a) n = foP a n := by
  have hn := h.n2
  rw [(fo_yes h).1, (fo_yes h).2.1, (fo_yes h.flp).1, (fo_yes h.flp).2.1, h.fx_last, h.flp.fx_last, fxU_one, fxU_one, h.fxT_flp, h.num_flp (by omega), h.num_flp (by omega), Nat.sub_zero, Nat.sub_self]
  exact ⟨rfl, rfl⟩
theorem CR.pa_flp {a n} (h : CR a n) {i : Nat} (h1 : 1 ≤ i) (hi : i < n) : paU (Go.Proofs.Ytgmicblfegjbnaa.flp a) n (((n - i : Nat) : Int)) = pgA a n i ∧ paV (Go.Proofs.Ytgmicblfegjbnaa.flp a) n (((n - i : Nat) : Int)) = pfA a n i := by
  have e := pa_yes h.flp (i := n - i) (by omega) (by omega)
  rw [e.1, e.2, pf_flp a (by omega), pg_flp a (by omega), show n - (n - i) = i by omega]
  exact ⟨rfl, rfl⟩
/-- All together have what all have against all others. -/
theorem pay_all (a : List (List Int)) (n i : Nat) : (i : Int) * pfA a n i + ((n : Int) - (i : Int)) * pgA a n i = (i : Int) * ((i : Int) - 1) * g2 a 0 0 + (i : Int) * ((n : Int) - (i : Int)) * (g2 a 0 1 + g2 a 1 0) + ((n : Int) - (i : Int)) * ((n : Int) - (i : Int) - 1) * g2 a 1 1 := by
  unfold pfA pgA
  grind
theorem CR.od_flp {a n} (h : CR a n) : odV (Go.Proofs.Ytgmicblfegjbnaa.flp a) n = frV (upP (pgA a n) (n - 1)) (upP (pfA a n) (n - 1)) := by
  have hn := h.n2
  rw [(od_yes h.flp).1]
  have e1 : upP (pfA (Go.Proofs.Ytgmicblfegjbnaa.flp a) n) (n - 1) = upP (pgA a n) (n - 1) := by
    rw [up_turn (f := pgA a n) (m := n - 1) (fun j h1 hj => by rw [pf_flp a (by omega)]; congr 1; omega) (Nat.le_refl _)]
    have e := up_dn (pgA a n) (n - 1) (n - 1) (Nat.le_refl _)
    rw [Nat.sub_self, upP, Int.one_mul] at e
    exact e.symm
  have e2 : upP (pgA (Go.Proofs.Ytgmicblfegjbnaa.flp a) n) (n - 1) = upP (pfA a n) (n - 1) := by
    rw [up_turn (f := pfA a n) (m := n - 1) (fun j h1 hj => by rw [pg_flp a (by omega)]; congr 1; omega) (Nat.le_refl _)]
    have e := up_dn (pfA a n) (n - 1) (n - 1) (Nat.le_refl _)
    rw [Nat.sub_self, upP, Int.one_mul] at e
    exact e.symm
  rw [e1, e2]
/-- A number of a step, times what the one strategy has, is the number ahead of it times what the other one has. -/
theorem num_fair {f g : Nat → Int} {m i : Nat} (h1 : 1 ≤ i) (hi : i ≤ m) : f i * numP f g m i = g i * numP f g m (i - 1) := by
  unfold numP
  have e : m - (i - 1) = (m - i) + 1 := by omega
  have e2 : m - (m - i) = i := by omega
  rw [e, dnP, e2]
  obtain ⟨k, rfl⟩ : ∃ k, i = k + 1 := ⟨i - 1, by omega⟩
  rw [Nat.add_sub_cancel, upP]
  grind
/-- More for the first strategy makes its numbers fall less. -/
theorem num_cross {f g f' g' : Nat → Int} {m : Nat} (hf : ∀ j, 1 ≤ j → j ≤ m → 0 < f j ∧ f j ≤ f' j) (hg : ∀ j, 1 ≤ j → j ≤ m → 0 < g' j ∧ g' j ≤ g j) :
    ∀ {k l}, k ≤ l → l ≤ m → numP f' g' m l * numP f g m k ≤ numP f' g' m k * numP f g m l
  | k, 0, hk, _ => by obtain rfl : k = 0 := by omega
                      exact Int.le_refl _
  | k, l + 1, hk, hl => by
    by_cases e : k = l + 1
    · subst e; exact Int.le_refl _
    · have ih := num_cross hf hg (k := k) (l := l) (by omega) (by omega)
      have h1 := num_fair (f := f) (g := g) (m := m) (i := l + 1) (by omega) hl
      have h2 := num_fair (f := f') (g := g') (m := m) (i := l + 1) (by omega) hl
      rw [Nat.add_sub_cancel] at h1 h2
      have a1 := hf (l + 1) (by omega) hl
      have a2 := hg (l + 1) (by omega) hl
      have pos : ∀ (F G : Nat → Int), (∀ j, 1 ≤ j → j ≤ m → 0 < F j) → (∀ j, 1 ≤ j → j ≤ m → 0 < G j) → ∀ q, q ≤ m → 0 < numP F G m q := fun F G hF hG q hq => by
        have u : ∀ q, q ≤ m → 0 < upP G q := fun q => by
          induction q with
          | zero => intro _; exact Int.one_pos
          | succ q ihq => intro h; exact Int.mul_pos (ihq (by omega)) (hG (q + 1) (by omega) h)
        have d : ∀ t, t ≤ m → 0 < dnP F m t := fun t => by
          induction t with
          | zero => intro _; exact Int.one_pos
          | succ t iht => intro h; exact Int.mul_pos (iht (by omega)) (hF (m - t) (by omega) (by omega))
        exact Int.mul_pos (u q hq) (d (m - q) (by omega))
      have p1 := pos f g (fun j x y => (hf j x y).1) (fun j x y => by have := hg j x y; omega) k (by omega)
      have p2 := pos f g (fun j x y => (hf j x y).1) (fun j x y => by have := hg j x y; omega) (l + 1) hl
      have p3 := pos f' g' (fun j x y => by have := hf j x y; omega) (fun j x y => (hg j x y).1) (l + 1) hl
      have p4 := pos f' g' (fun j x y => by have := hf j x y; omega) (fun j x y => (hg j x y).1) k (by omega)
      have p5 := pos f g (fun j x y => (hf j x y).1) (fun j x y => by have := hg j x y; omega) l (by omega)
      have p6 := pos f' g' (fun j x y => by have := hf j x y; omega) (fun j x y => (hg j x y).1) l (by omega)
      generalize numP f' g' m (l + 1) = A at *
      generalize numP f g m k = B at *
      generalize numP f' g' m k = C at *
      generalize numP f g m (l + 1) = D at *
      generalize numP f' g' m l = E at *
      generalize numP f g m l = G at *
      generalize f (l + 1) = x at *
      generalize f' (l + 1) = x' at *
      generalize g (l + 1) = y at *
      generalize g' (l + 1) = y' at *
      -- A x' = y' E, D x = y G, E B ≤ C G, x ≤ x', y' ≤ y
      have q1 : x' * A * (B * x) ≤ x' * (C * D * x) := by
        have s1 : x' * A * (B * x) = y' * x * (E * B) := by rw [h2]; grind
        have s2 : x' * (C * D * x) = x' * y * (C * G) := by
          have : x' * (C * D * x) = x' * C * (x * D) := by grind
          rw [this, h1]; grind
        rw [s1, s2]
        have t1 : y' * x * (E * B) ≤ y' * x * (C * G) := Int.mul_le_mul_of_nonneg_left ih (Int.le_of_lt (Int.mul_pos a2.1 a1.1))
        have t2 : y' * x ≤ y * x' := Int.mul_le_mul a2.2 a1.2 (by omega) (by omega)
        have t3 : y' * x * (C * G) ≤ y * x' * (C * G) := Int.mul_le_mul_of_nonneg_right t2 (Int.le_of_lt (Int.mul_pos p4 p5))
        have t4 : y * x' * (C * G) = x' * y * (C * G) := by grind
        omega
      have hp : 0 < x' * x := Int.mul_pos (by omega) a1.1
      apply Classical.byContradiction
      intro hn
      have q2 : x' * x * (C * D) < x' * x * (A * B) := Int.mul_lt_mul_of_pos_left (by omega) hp
      have q3 : x' * A * (B * x) = x' * x * (A * B) := by grind
      have q4 : x' * (C * D * x) = x' * x * (C * D) := by grind
      omega
end Go.Proofs.Ytgmicblfegjbnaa

/- A region that ends in one frame but for some slots, whatever the order: walked on once. -/
namespace Go.Proofs.Ytgmicblfegjbnaa
open Go.RowKit

/-- A frame with other values in some slots. -/
def frmL (a : Act) : List Nat → List Value → Act
  | d :: ds, u :: us => frmL (a.put (some d) u) ds us
  | _, _ => a
/-- At the end of a region: the frame but for some slots, and F of these and of the world. -/
def PutQ (a : Act) (ds : List Nat) (F : List Value → World → Prop) : Exit → Act → World → Prop
  | .normal, b, v => ∃ us, b = frmL a ds us ∧ F us v
  | _, _, _ => False
theorem PutQ.mk {a b : Act} {ds : List Nat} {F : List Value → World → Prop} {v : World} (us : List Value) (h : b = frmL a ds us) (f : F us v) : PutQ a ds F .normal b v := ⟨us, h, f⟩
theorem region_put {P : Program} {c : Code} {Q : Exit → Act → World → Prop} {a : Act} {w : World} (ds : List Nat) (F : List Value → World → Prop) (h : c.wp P (PutQ a ds F) a w) (k : ∀ us v, F us v → Q .normal (frmL a ds us) v) : c.wp P Q a w :=
  Code.wp_mono (fun e b v h => by
    cases e <;> first | exact (h : False).elim | (obtain ⟨us, rfl, hf⟩ := (h : ∃ us, b = frmL a ds us ∧ F us v); exact k us v hf)) h
end Go.Proofs.Ytgmicblfegjbnaa

/- A region that draws its order and makes memory: whatever the order, what follows is walked once. -/
namespace Go.Proofs.Ytgmicblfegjbnaa
open Go.RowKit

/-- Objects laid one behind the other. -/
def pushAll (w : World) : List Obj → World
  | [] => w
  | o :: os => pushAll (w.alloc o) os
theorem push_below (w : World) : ∀ os, Below w.heap.size w (pushAll w os)
  | [] => Below.refl _ _
  | o :: os => below_up (below_alloc w o) (push_below (w.alloc o) os)
theorem push_drew (w : World) (os : List Obj) : Below w.heap.size w (pushAll w os).drew := (push_below w os).drew
theorem push_keep (w : World) (os : List Obj) : Keep w (pushAll w os).drew := Keep.below (push_drew w os)
theorem push_keep0 (w : World) (os : List Obj) : Keep w (pushAll w os) := Keep.below (push_below w os)
theorem blk_push0 {t : TypeId} {cs : Array Value} : ∀ (os : List Obj) (w : World) (j : Nat), os[j]? = some (.cells cs t) → Blk (pushAll w os) (w.heap.size + j) t cs
  | [], _, _, h => by simp at h
  | o :: os, w, 0, h => by
    simp at h
    subst h
    exact blk_below (blk_new w t cs) (push_below _ os)
  | o :: os, w, j + 1, h => by
    have h2 := blk_push0 os (w.alloc o) j (by simpa using h)
    rw [World.size_alloc, Nat.add_assoc, Nat.add_comm 1 j] at h2
    exact h2
theorem blk_push {t : TypeId} {cs : Array Value} (os : List Obj) (w : World) (j : Nat) (h : os[j]? = some (.cells cs t)) : Blk (pushAll w os).drew (w.heap.size + j) t cs := blk_quiet (blk_push0 os w j h) ⟨1, rfl⟩
/-- A table of two rows of two numbers, wherever its blocks lie. -/
theorem rows_of {W : World} {a b c : Nat} {x y z t : Int} (hx : -1000 ≤ x ∧ x ≤ 1000) (hy : -1000 ≤ y ∧ y ≤ 1000) (hz : -1000 ≤ z ∧ z ≤ 1000) (ht : -1000 ≤ t ∧ t ≤ 1000)
    (ha : Blk W a 3 #[.int .i64 x, .int .i64 y]) (hb : Blk W b 3 #[.int .i64 z, .int .i64 t]) (hc : Blk W c 43 #[.slice (some ⟨a, 0, none⟩) 2 2, .slice (some ⟨b, 0, none⟩) 2 2]) :
    IntRows W (some ⟨c, 0, none⟩) 2 2 [[x, y], [z, t]] := by
  have i1 := (own_two (lo := 0) (hi := a + 1) ha (Nat.zero_le _) (by omega) (by omega) (by omega)).ints
  have i2 := (own_two (lo := 0) (hi := b + 1) hb (Nat.zero_le _) (by omega) (by omega) (by omega)).ints
  refine ⟨rfl, Nat.le_refl _, by omega, fun _ => ⟨c, 0, rfl, fun k hk => ?_⟩⟩
  have h : k = 0 ∨ k = 1 := by omega
  rcases h with rfl | rfl
  · exact ⟨some ⟨a, 0, none⟩, 2, blk_cell hc (i := 0) rfl, i1⟩
  · exact ⟨some ⟨b, 0, none⟩, 2, blk_cell hc (i := 1) rfl, i2⟩

/-- Cells of older blocks stay where a new block of two is stored to. -/
theorem set2_keep {W : World} {B l : Nat} {U V : Value} (hl : B ≤ l) {p : Addr} {u : Value} (hp : p.block < B) (h : W.cell? p = some u) : ((W.setCell ⟨l, 0, none⟩ U).setCell ⟨l, 1, none⟩ V).cell? p = some u := by
  rw [World.cell?_setCell_other _ _ _ _ (by intro e; have := congrArg Addr.block e; simp at this; omega), World.cell?_setCell_other _ _ _ _ (by intro e; have := congrArg Addr.block e; simp at this; omega)]; exact h
theorem kc1 {w : World} {a0 : Obj} {p : Addr} {u : Value} (h : w.cell? p = some u) : (w.alloc a0).drew.cell? p = some u := push_keep w [a0] p u h
theorem kd1 {w : World} {a0 : Obj} {p : Addr} {u : Value} (h : w.cell? p = some u) : (w.alloc a0).cell? p = some u := push_keep0 w [a0] p u h
theorem kc2 {w : World} {a0 a1 : Obj} {p : Addr} {u : Value} (h : w.cell? p = some u) : ((w.alloc a0).alloc a1).drew.cell? p = some u := push_keep w [a0, a1] p u h
theorem kd2 {w : World} {a0 a1 : Obj} {p : Addr} {u : Value} (h : w.cell? p = some u) : ((w.alloc a0).alloc a1).cell? p = some u := push_keep0 w [a0, a1] p u h
theorem kc3 {w : World} {a0 a1 a2 : Obj} {p : Addr} {u : Value} (h : w.cell? p = some u) : (((w.alloc a0).alloc a1).alloc a2).drew.cell? p = some u := push_keep w [a0, a1, a2] p u h
theorem kd3 {w : World} {a0 a1 a2 : Obj} {p : Addr} {u : Value} (h : w.cell? p = some u) : (((w.alloc a0).alloc a1).alloc a2).cell? p = some u := push_keep0 w [a0, a1, a2] p u h
theorem kc4 {w : World} {a0 a1 a2 a3 : Obj} {p : Addr} {u : Value} (h : w.cell? p = some u) : ((((w.alloc a0).alloc a1).alloc a2).alloc a3).drew.cell? p = some u := push_keep w [a0, a1, a2, a3] p u h
theorem kd4 {w : World} {a0 a1 a2 a3 : Obj} {p : Addr} {u : Value} (h : w.cell? p = some u) : ((((w.alloc a0).alloc a1).alloc a2).alloc a3).cell? p = some u := push_keep0 w [a0, a1, a2, a3] p u h
theorem kc5 {w : World} {a0 a1 a2 a3 a4 : Obj} {p : Addr} {u : Value} (h : w.cell? p = some u) : (((((w.alloc a0).alloc a1).alloc a2).alloc a3).alloc a4).drew.cell? p = some u := push_keep w [a0, a1, a2, a3, a4] p u h
theorem kd5 {w : World} {a0 a1 a2 a3 a4 : Obj} {p : Addr} {u : Value} (h : w.cell? p = some u) : (((((w.alloc a0).alloc a1).alloc a2).alloc a3).alloc a4).cell? p = some u := push_keep0 w [a0, a1, a2, a3, a4] p u h
end Go.Proofs.Ytgmicblfegjbnaa

