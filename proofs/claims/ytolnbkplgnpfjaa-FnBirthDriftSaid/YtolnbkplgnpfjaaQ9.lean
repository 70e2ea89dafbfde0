/- Texts merged: N9 N11 Y1 Y7 U0 PX N7. -/
import Derived.Test.YtolnbkplgnpfjaaQ8
import Derived.BigRegion
/- Places with weights and sides, by the program. -/
namespace Go.Proofs.Ytolnbkplgnpfjaa
open Go.RowKit

theorem mn_iff {xs : List Int} {z : Int} : ∀ {k : Nat}, z ≤ mn xs k ↔ ∀ j, j ≤ k → z ≤ gi xs j
  | 0 => ⟨fun h j hj => by obtain rfl : j = 0 := by omega
                           exact h, fun h => h 0 (Nat.le_refl _)⟩
  | k + 1 => by
    show z ≤ min (mn xs k) (gi xs (k + 1)) ↔ _
    constructor
    · intro h j hj
      by_cases e : j = k + 1
      · subst e; omega
      · exact (mn_iff (k := k)).1 (by omega) j (by omega)
    · intro h
      have h1 := (mn_iff (k := k)).2 fun j hj => h j (by omega)
      have h2 := h (k + 1) (Nat.le_refl _)
      omega
theorem wt_iff {c : List Int} (h0 : 0 < c.length) : (∀ i, i < c.length → InR (gi c i) 0 1000) ↔ 0 ≤ lst c ∧ mxl c ≤ 1000 := by
  constructor
  · intro h
    refine ⟨mn_iff.2 fun j hj => (h j (by omega)).1, ?_⟩
    obtain ⟨j, hj, e⟩ := mx_at c (c.length - 1)
    unfold mxl; rw [← e]
    exact (h j (by omega)).2
  · rintro ⟨h1, h2⟩ i hi
    exact ⟨mn_iff.1 h1 i (by omega), Int.le_trans (mx_ge c (k := c.length - 1) (by omega)) h2⟩
theorem PLr.set {B n L s c R W} (h : PLr B n L s c R W) {i : Nat} (hi : i < n) (x y : Int) :
    PLr B n L (upd s i y) (upd c i x) R ((W.setCell ⟨B + 1 + i, 2, none⟩ (.int .i64 x)).setCell ⟨B + 1 + i, 1, none⟩ (.int .i64 y)) := by
  have hs := h.sz
  refine ⟨by simpa [World.setCell] using hs, (h.row.setOther (by show B ≠ B + 1 + i; omega) _).setOther (by show B ≠ B + 1 + i; omega) _, fun v hv => ?_, fun v hv => ?_, h.far⟩
  · by_cases e : v = i
    · subst e
      rw [upd_same, upd_same]
      exact blk_set (blk_set (h.bl v hv) 2 _) 1 _
    · rw [upd_other _ _ e, upd_other _ _ e]
      exact blk_other (blk_other (h.bl v hv) (by show B + 1 + v ≠ B + 1 + i; omega) _) (by show B + 1 + v ≠ B + 1 + i; omega) _
  · exact ownsRow_setCell_below (ownsRow_setCell_below (h.own v hv) (by show B + 1 + i < B + 1 + n; omega) _) (by show B + 1 + i < B + 1 + n; omega) _
theorem PW.set {w n L s c W} (h : PW w n L s c W) {i : Nat} (hi : i < n) (x y : Int) :
    PW w n L (upd s i y) (upd c i x) ((W.setCell ⟨w.heap.size + 1 + i, 2, none⟩ (.int .i64 x)).setCell ⟨w.heap.size + 1 + i, 1, none⟩ (.int .i64 y)) :=
  ⟨(h.up.setCell (by show w.heap.size ≤ w.heap.size + 1 + i; omega) _).setCell (by show w.heap.size ≤ w.heap.size + 1 + i; omega) _, let ⟨R, q⟩ := h.ex; ⟨R, q.set hi x y⟩⟩
/-- Weights and sides of the first i places. -/
def wS (s : Int) (i : Nat) : Nat → Int := fun v => if v < i then sb s v else 0
def wC (c : List Int) (i : Nat) : Nat → Int := fun v => if v < i then gi c v else 0
theorem wS_next (s : Int) (i v : Nat) : upd (wS s i) i (sb s i) v = wS s (i + 1) v := by
  by_cases e : v = i
  · subst e; rw [upd_same]; unfold wS; rw [if_pos (by omega)]
  · rw [upd_other _ _ e]; unfold wS
    by_cases h : v < i
    · rw [if_pos h, if_pos (by omega)]
    · rw [if_neg h, if_neg (by omega)]
theorem wC_next (c : List Int) (i v : Nat) : upd (wC c i) i (gi c i) v = wC c (i + 1) v := by
  by_cases e : v = i
  · subst e; rw [upd_same]; unfold wC; rw [if_pos (by omega)]
  · rw [upd_other _ _ e]; unfold wC
    by_cases h : v < i
    · rw [if_pos h, if_pos (by omega)]
    · rw [if_neg h, if_neg (by omega)]
theorem sh_side : ∀ s, s < 32 → ∀ i, i < 5 → bits BinOp.and IntKind.i64 (((s : Nat) : Int) / 2 ^ i) 1 = ((s / 2 ^ i % 2 : Nat) : Int) := by decide +kernel
def NewWp (w : World) (n : Nat) (L : Nat → List Nat) (s c : Nat → Int) (e : Ending) (w' : World) : Prop := e = .returned (.slice (some ⟨w.heap.size, 0, none⟩) n n) ∧ PW w n L s c w'
set_option maxRecDepth 100000 in
set_option maxHeartbeats 1600000 in
theorem weighedPlaces_any (A C : Option Addr) (n k m kc : Nat) (g c : List Int) (s : Int) (w : World) (hx : Ints w A n k g) (hc : Ints w C m kc c) (h : WQ g c s) :
    Calls Try.prog 83 #[.slice A n k, .slice C m kc, .int .i64 s] w (NewWp w n (nn g) (sb s) (gi c)) := by
  have HC := Lib.hid hc
  have hl := hx.len
  have hm : m = n := by rw [← hl, ← hc.len, h.len]
  subst hm
  have h5 : m ≤ 5 := by rw [← hl]; exact h.gr.b.n5
  have HPL := Lib.hid (placesOf_any A m k g w hx h.gr.b.inn h5)
  obtain ⟨hs1, hs2⟩ : s = (s.toNat : Int) ∧ s.toNat < 32 := by
    have h1 := h.set
    unfold InR at h1
    have h6 : ((2 ^ g.length : Nat) : Int) = (2 : Int) ^ g.length := by simp
    have h7 : 2 ^ g.length ≤ 2 ^ 5 := Nat.pow_le_pow_right (by omega) (by omega)
    omega
  have HSB := Lib.hid (fun v => show sb s v = ((s.toNat / 2 ^ v % 2 : Nat) : Int) from rfl)
  rw [show (Value.int .i64 s) = .int .i64 (s.toNat : Int) by rw [← hs1]]
  clear hx hc hl h hs1
  generalize s.toNat = t at *
  have HSH := Lib.hid (sh_side t hs2)
  go_enter Try.func83, Try.ntmps83
  go_wp2_with fail
  refine HPL.out.mono ?_
  rintro e w1 ⟨rfl, hpw⟩
  have HW0 := Lib.hid (show PW w m (nn g) (wS s 0) (wC c 0) w1 from hpw.congr (fun _ _ => rfl) (fun v _ => by unfold wS; rw [if_neg (by omega)]) (fun v _ => by unfold wC; rw [if_neg (by omega)]))
  clear HPL hpw
  go_wp2
  go_loopw [14] (fun i wr => ∃ v : Nat, v ≤ m ∧ i = .int .i64 v ∧ Hid (PW w m (nn g) (wS s v) (wC c v) wr)) (fun i _ => m - (intOf i).toNat)
  case atStart => exact ⟨0, Nat.zero_le _, rfl, HW0⟩
  case round =>
    clear HW0
    obtain ⟨v, hv, rfl, HP⟩ := hrel
    by_cases hlt : v < m
    · obtain ⟨b, o, rfl, hcc⟩ := (HC.out.keep (Keep.below HP.out.up)).at_ (by omega)
      have c2 := hcc v hlt
      obtain ⟨R, hpl⟩ := HP.out.ex
      have c1 : wr.cell? ⟨w.heap.size, v, none⟩ = some (.pointer (some ⟨w.heap.size + 1 + v, 0, none⟩)) := hpl.row.cell hlt
      have B0 := hpl.bl v hlt
      have c3 := blk_cell B0 (i := 2) rfl
      have f3 := blk_frozen B0 2
      have B1 := blk_set B0 2 (.int .i64 (gi c v))
      have c4 := blk_cell B1 (i := 1) rfl
      have f4 := blk_frozen B1 1
      have hbt := HSH.out v (by omega)
      have HN := Lib.hid (show PW w m (nn g) (wS s (v + 1)) (wC c (v + 1)) ((wr.setCell ⟨w.heap.size + 1 + v, 2, none⟩ (.int .i64 (gi c v))).setCell ⟨w.heap.size + 1 + v, 1, none⟩ (.int .i64 ((t / 2 ^ v % 2 : Nat) : Int))) from by
        rw [← HSB.out v]
        exact (HP.out.set hlt (gi c v) (sb s v)).congr (fun _ _ => rfl) (fun x _ => wS_next s v x) (fun x _ => wC_next c v x))
      clear hcc hpl B0 B1 HP
      generalize gi c v = x at *
      go_wp2
      go_roundw
      case rel => exact ⟨v + 1, by omega, by go_num, HN⟩
      case measure => simp [intOf]; omega
    · obtain rfl : v = m := by omega
      have HE := Lib.hid (show PW w v (nn g) (sb s) (gi c) wr from HP.out.congr (fun _ _ => rfl) (fun x hx => by unfold wS; rw [if_pos hx]) (fun x hx => by unfold wC; rw [if_pos hx]))
      clear HP
      go_wp2
      go_ret
      exact ⟨rfl, HE.out⟩
set_option maxRecDepth 100000 in
set_option maxHeartbeats 800000 in
theorem gainFrom_any (B n : Nat) (L : Nat → List Nat) (s c : Nat → Int) (R : Nat → Value) (w : World) (h : PLr B n L s c R w) (v u : Nat) (hv : v < n) (hu : u < n)
    (h1 : ∀ x, x < n → 0 ≤ s x ∧ s x ≤ 1) (h2 : ∀ x, x < n → 0 ≤ c x ∧ c x ≤ 1000) :
    Calls Try.prog 85 #[.pointer (some ⟨B + 1 + v, 0, none⟩), .pointer (some ⟨B + 1 + u, 0, none⟩)] w fun e w' => e = .returned (.int .i64 (c v * (s u - s v))) ∧ Quiet w w' := by
  have c1 := blk_cell (h.bl v hv) (i := 2) rfl
  have c2 := blk_cell (h.bl v hv) (i := 1) rfl
  have c3 := blk_cell (h.bl u hu) (i := 1) rfl
  obtain ⟨a1, a2⟩ := h1 v hv
  obtain ⟨a3, a4⟩ := h1 u hu
  obtain ⟨a5, a6⟩ := h2 v hv
  obtain ⟨m1, m2⟩ := mulbd (x := c v) (y := s u - s v) (A := 1000) (B := 1) (by omega) (by omega)
  clear h h1 h2
  generalize c v = x at *
  generalize s v = y at *
  generalize s u = z at *
  have e1 : IntKind.i64.wrap (z - y) = z - y := wrapIn (by omega)
  have e2 : IntKind.i64.wrap (x * (z - y)) = x * (z - y) := wrapIn (by omega)
  go_enter Try.func85, Try.ntmps85
  go_wp2
  go_quiet (fail)
  go_wp2
  go_ret
  exact ⟨rfl, ⟨_, rfl⟩⟩
set_option maxRecDepth 100000 in
set_option maxHeartbeats 400000 in
theorem chanceOfEach_any (B n : Nat) (L : Nat → List Nat) (s c : Nat → Int) (R : Nat → Value) (w : World) (h : PLr B n L s c R w) (v : Nat) (hv : v < n) (h1 : 1 ≤ (L v).length ∧ (L v).length ≤ 4) :
    Calls Try.prog 84 #[.pointer (some ⟨B + 1 + v, 0, none⟩)] w fun e w' => e = .returned (.int .i64 ((12 / (L v).length : Nat) : Int)) ∧ w = w' := by
  obtain ⟨A, k, hR, _⟩ := h.near hv
  have c1 := blk_cell (h.bl v hv) (i := 0) rfl
  rw [hR] at c1
  clear hR h
  generalize (L v).length = d at *
  have hd : d = 1 ∨ d = 2 ∨ d = 3 ∨ d = 4 := by omega
  clear h1
  rcases hd with rfl | rfl | rfl | rfl
  all_goals
    go_enter Try.func84, Try.ntmps84
    go_wp2
    go_ret
    exact ⟨by first | rfl | simp, rfl⟩
set_option maxRecDepth 100000 in
set_option maxHeartbeats 1600000 in
theorem isWeighed_any (A C : Option Addr) (n k m kc : Nat) (g c : List Int) (s : Int) (w : World) (hx : Ints w A n k g) (hc : Ints w C m kc c) :
    Calls Try.prog 82 #[.slice A n k, .slice C m kc, .int .i64 s] w (Ret (.bool (pb (WQ g c s))) w) := by
  have HLC := Lib.hid hc.len
  have HLG := Lib.hid hx.len
  have HCC := Lib.hid hc
  have HV := Lib.hid (ValidGraph_impl A n k g w hx)
  clear hx hc
  by_cases hg : GR g
  · rw [pb_true hg] at HV
    have HG := Lib.hid hg
    have h5 : n ≤ 5 := by rw [← HLG.out]; exact hg.b.n5
    have h2 : 2 ≤ n := by rw [← HLG.out]; exact hg.b.n2
    clear hg
    by_cases hl : m = n
    · subst hl
      have hle : ((m : Int) != (m : Int)) = false := by simp
      by_cases hs : InR s 0 (2 ^ m - 1)
      · have HS := Lib.hid (fun W => pb_true hs ▸ isSetOf_any m s W h5)
        have HE : Hid (pb (WQ g c s) = pb (0 ≤ lst c ∧ mxl c ≤ 1000)) := Lib.hid (pb_congr ⟨fun h => (wt_iff (by rw [HLC.out]; omega)).1 h.wt, fun h => ⟨HG.out, by rw [HLC.out, HLG.out], (wt_iff (by rw [HLC.out]; omega)).2 h, by rw [HLG.out]; exact hs⟩⟩)
        have HMN := Lib.hid (fun W K => Min_any C m kc c W (HCC.out.keep K) (by omega))
        have HMX := Lib.hid (fun W K => Max_any C m kc c W (HCC.out.keep K) (by omega))
        clear hs
        generalize lst c = x at *
        generalize mxl c = y at *
        by_cases h0 : 0 ≤ x
        · have d0 : decide (0 ≤ x) = true := decide_eq_true h0
          have HR : Hid (decide (y ≤ 1000) = pb (WQ g c s)) := Lib.hid (by
            rw [HE.out]
            by_cases h : y ≤ 1000
            · rw [pb_true ⟨h0, h⟩, decide_eq_true h]
            · rw [pb_false (fun k => h k.2), decide_eq_false h])
          clear HE
          go_enter Try.func82, Try.ntmps82
          go_wp2_with fail
          refine HV.out.mono ?_
          rintro e w1 ⟨rfl, hb⟩
          have HB := Lib.hid hb
          clear hb HV
          go_wp2_with fail
          refine (HS.out _).mono ?_
          rintro e w2 ⟨rfl, rfl⟩
          clear HS
          go_wp2_with fail
          refine (HMN.out _ (Keep.below HB.out)).mono ?_
          rintro e w3 ⟨rfl, hq⟩
          have HB3 := Lib.hid (below_quiet HB.out hq)
          clear hq HMN HB
          go_wp2_with fail
          refine (HMX.out _ (Keep.below HB3.out)).mono ?_
          rintro e w4 ⟨rfl, hq⟩
          have HB4 := Lib.hid (below_quiet HB3.out hq)
          clear hq HMX HB3
          go_wp2
          go_ret
          exact ⟨ret_bool HR.out, HB4.out⟩
        · have d0 : decide (0 ≤ x) = false := decide_eq_false h0
          have HR : Hid (pb (WQ g c s) = false) := Lib.hid (by rw [HE.out]; exact pb_false fun k => h0 k.1)
          clear HE HMX
          go_enter Try.func82, Try.ntmps82
          go_wp2_with fail
          refine HV.out.mono ?_
          rintro e w1 ⟨rfl, hb⟩
          have HB := Lib.hid hb
          clear hb HV
          go_wp2_with fail
          refine (HS.out _).mono ?_
          rintro e w2 ⟨rfl, rfl⟩
          clear HS
          go_wp2_with fail
          refine (HMN.out _ (Keep.below HB.out)).mono ?_
          rintro e w3 ⟨rfl, hq⟩
          have HB3 := Lib.hid (below_quiet HB.out hq)
          clear hq HMN HB
          go_wp2
          go_ret
          exact ⟨ret_bool HR.out.symm, HB3.out⟩
      · have HS := Lib.hid (fun W => pb_false hs ▸ isSetOf_any m s W h5)
        have HE := Lib.hid (show pb (WQ g c s) = false from pb_false fun k => hs (by have := k.set; rwa [HLG.out] at this))
        clear hs
        go_enter Try.func82, Try.ntmps82
        go_wp2_with fail
        refine HV.out.mono ?_
        rintro e w1 ⟨rfl, hb⟩
        have HB := Lib.hid hb
        clear hb HV
        go_wp2_with fail
        refine (HS.out _).mono ?_
        rintro e w2 ⟨rfl, rfl⟩
        clear HS
        go_wp2
        go_ret
        exact ⟨ret_bool HE.out.symm, HB.out⟩
    · have hle : ((m : Int) != (n : Int)) = true := by simp; omega
      have HE := Lib.hid (show pb (WQ g c s) = false from pb_false fun k => hl (by have := k.len; rw [HLC.out, HLG.out] at this; exact this))
      clear hl
      go_enter Try.func82, Try.ntmps82
      go_wp2_with fail
      refine HV.out.mono ?_
      rintro e w1 ⟨rfl, hb⟩
      have HB := Lib.hid hb
      clear hb HV
      go_wp2
      go_ret
      exact ⟨ret_bool HE.out.symm, HB.out⟩
  · rw [pb_false hg] at HV
    have HE := Lib.hid (show pb (WQ g c s) = false from pb_false fun k => hg k.gr)
    clear hg
    go_enter Try.func82, Try.ntmps82
    go_wp2_with fail
    refine HV.out.mono ?_
    rintro e w1 ⟨rfl, hb⟩
    have HB := Lib.hid hb
    clear hb HV
    go_wp2
    go_ret
    exact ⟨ret_bool HE.out.symm, HB.out⟩

end Go.Proofs.Ytolnbkplgnpfjaa

/- PlaceChances, by the program. -/
namespace Go.Proofs.Ytolnbkplgnpfjaa
open Go.RowKit

theorem PLr.setLow {B n L s c R W} (h : PLr B n L s c R W) {a : Addr} (ha : a.block < B) (v : Value) : PLr B n L s c R (W.setCell a v) := by
  have hs := h.sz
  exact ⟨by simpa [World.setCell] using hs, h.row.setOther (by omega) _, fun x hx => blk_other (h.bl x hx) (by omega) _, fun x hx => ownsRow_setCell_below (h.own x hx) (by omega) _, h.far⟩
/-- Fractions stored one after the other. -/
structure FX8 (n g : Nat) (w : World) (L : List Int) (W : World) : Prop where
  own : OwnF w.heap.size W.heap.size W g (some ⟨g, 0, none⟩) n n L
  up : Below w.heap.size w W
  lo : w.heap.size ≤ g
theorem FX8.next {n g w L W W'} (h : FX8 n g w L W) (k : Below W.heap.size W W') : FX8 n g w L W' := ⟨(h.own.below k).mono (Nat.le_refl _) k.size, below_up h.up k, h.lo⟩
theorem FX8.cell {n g w L W} (h : FX8 n g w L W) {k : Nat} (hk : k < 2 * n) : W.cell? ⟨g, k, none⟩ = some (.int .i64 (gi L k)) := by
  obtain ⟨b, o, e, hc⟩ := h.own.frs.at_ (by omega)
  injection e with e
  injection e with e1 e2
  subst e1
  subst e2
  have := hc k hk
  rw [Nat.zero_add] at this
  exact this
theorem FX8.frozen {n g w L W} (h : FX8 n g w L W) {k : Nat} (hk : k < 2 * n) : W.frozen? ⟨g, k, none⟩ = false := by
  obtain ⟨o, e, _, _, hf⟩ := h.own.own (by omega)
  injection e with e
  injection e with _ e2
  subst e2
  have := hf k hk
  rw [Nat.zero_add] at this
  exact this
theorem FX8.set {n g w L W} (h : FX8 n g w L W) {k : Nat} (hk : k < 2 * n) (v : Int) : FX8 n g w (L.set k v) (W.setCell ⟨g, k, none⟩ (.int .i64 v)) := by
  have h1 := h.own.set hk v
  rw [Nat.zero_add] at h1
  exact ⟨h1.mono (Nat.le_refl _) (by simp [World.setCell]), h.up.setCell (p := ⟨g, k, none⟩) h.lo _, h.lo⟩
theorem made_zero8 (n k : Nat) (hk : k < n * 2) : (madeCells #[.int .i64 0, .int .i64 0] (n * 2))[k]? = some (.int .i64 0) := by
  have h2 : k % 2 = 0 ∨ k % 2 = 1 := by omega
  rcases h2 with h2 | h2 <;> simp [madeCells, hk, h2]
theorem FX8.start (w : World) (n : Nat) (hn : n ≤ 5) : FX8 n w.heap.size w ((List.range (2 * n)).map fun _ => 0) (w.alloc (.cells (madeCells #[.int .i64 0, .int .i64 0] (n * 2)) 39)) := by
  have hb := blk_new w 39 (madeCells #[.int .i64 0, .int .i64 0] (n * 2))
  refine ⟨⟨⟨by simp, Nat.le_refl _, by omega, fun _ => ⟨_, 0, rfl, fun k hk => ?_⟩⟩, fun _ => ⟨0, rfl, Nat.le_refl _, by simp, fun k _ => blk_frozen hb _⟩⟩, below_alloc _ _, Nat.le_refl _⟩
  rw [Nat.zero_add, gi_range hk]
  exact blk_cell hb (made_zero8 n k (by omega))
/-- The weights under way, and the places. -/
structure WP8 (w : World) (n : Nat) (g : List Int) (f : Nat → Int) (k : Nat) (W : World) : Prop where
  own : NX w n w.heap.size (mixT f (fun _ => 0) n k) W
  pl : ∃ R, PLr (w.heap.size + 1) n (nn g) (fun _ => 0) (fun _ => 0) R W
theorem WP8.set {w n g f k W} (h : WP8 w n g f k W) (hk : k < n) (x : Int) (hx : -100 ≤ x ∧ x ≤ 100) (hf : -100 ≤ f k ∧ f k ≤ 100) : WP8 w n g f (k + 1) ((W.setCell ⟨w.heap.size, k, none⟩ (.int .i64 x)).setCell ⟨w.heap.size, k, none⟩ (.int .i64 (f k))) := by
  have h1 := (h.own.set hk (v := x) (by omega)).set hk (v := f k) (by omega)
  rw [List.set_set, mixT_set] at h1
  obtain ⟨R, q⟩ := h.pl
  exact ⟨h1, R, (q.setLow (by show w.heap.size < w.heap.size + 1; omega) _).setLow (by show w.heap.size < w.heap.size + 1; omega) _⟩
theorem WP8.set1 {w n g f k W} (h : WP8 w n g f k W) (hk : k < n) (hf : -100 ≤ f k ∧ f k ≤ 100) : WP8 w n g f (k + 1) (W.setCell ⟨w.heap.size, k, none⟩ (.int .i64 (f k))) := by
  have h1 := h.own.set hk (v := f k) (by omega)
  rw [mixT_set] at h1
  obtain ⟨R, q⟩ := h.pl
  exact ⟨h1, R, q.setLow (by show w.heap.size < w.heap.size + 1; omega) _⟩
theorem WP8.next {w n g f k W W'} (h : WP8 w n g f k W) (q : Quiet W W') : WP8 w n g f k W' := ⟨h.own.next q.below, let ⟨R, r⟩ := h.pl; ⟨R, r.quiet q⟩⟩
set_option maxRecDepth 100000 in
set_option maxHeartbeats 3200000 in
theorem placeChances_yes (A : Option Addr) (n c : Nat) (g : List Int) (s : ByteArray) (b : Bool) (w : World) (hx : Ints w A n c g) (hg : GR g) (hk : KindIs s b) :
    Calls Try.prog 36 #[.slice A n c, .string s] w (NewF w (pcF g s)) := by
  have HX := Lib.hid hx
  have hl := hx.len
  have HV := Lib.hid (pb_true hg ▸ ValidGraph_impl A n c g w hx)
  have HPC := Lib.hid (pcF_yes hg hk)
  have h5 : n ≤ 5 := by rw [← hl]; exact hg.b.n5
  have h2 : 2 ≤ n := by rw [← hl]; exact hg.b.n2
  have HPL := Lib.hid (fun W a => placesOf_any A n c g W a hg.b.inn h5)
  have HWB := Lib.hid (fun v (hv : v < n) => wI_bd hg b (v := v) (by rw [hl]; exact hv))
  have HDB := Lib.hid (fun v (hv : v < n) => show 1 ≤ dg g v ∧ dg g v ≤ 4 from have q := hg.deg (v := v) (by rw [hl]; exact hv); ⟨q.1, q.2.1⟩)
  have HTB := Lib.hid (tW_bd hg b)
  have HTW := Lib.hid (show tot ((List.range n).map (wI g b)) = tW g b by rw [tot_range, ← hl]; rfl)
  have HNL := Lib.hid (fun v => show (nn g v).length = dg g v from nn_len g v)
  have HWI := Lib.hid (fun v => show wI g b v = if b then ((12 / dg g v : Nat) : Int) else (dg g v : Int) from rfl)
  have HL := Lib.hid hl
  have HZM := Lib.hid (mixT_zero (wI g b) (fun _ => 0) n)
  have hmk := run_make_row' (P := Try.prog) 27 3 (.int .i64 0) 8 Try.underlying27 Try.info3 rfl .i64 .i64 n (by omega) (by omega)
  obtain ⟨i0, hi0, hz0, hz1, hz2⟩ := info_parts Try.infoF
  obtain ⟨hk1, hk2⟩ := hk
  clear hx hg hl
  go_enter Try.func36, Try.ntmps36
  go_wp2_with fail
  refine HV.out.mono ?_
  rintro e w1 ⟨rfl, hb⟩
  have HB1 := Lib.hid hb
  have HXM := Lib.hid ((HX.out.keep (Keep.below hb)).keep (Keep.below (below_alloc w1 (.cells (madeCells #[.int .i64 0] n) 3))))
  have HC := Lib.hid (HPL.out _ HXM.out)
  have HN0 := Lib.hid (show NX w1 n w1.heap.size (mixT (wI g b) (fun _ => 0) n 0) (w1.alloc (.cells (madeCells #[.int .i64 0] n) 3)) from by
    rw [HZM.out]
    exact ⟨OwnI.of_rowIs (by simp) (by omega) (fun x hx => by obtain ⟨_, _, rfl⟩ := List.mem_map.1 hx; omega) (Nat.le_refl _) (by simp) (World.rowIs_made w1 (.int .i64 0) n 3) (fun k hk => by rw [gi_range hk]), below_alloc _ _, Nat.le_refl _⟩)
  clear hb HV HPL HXM HZM
  cases b
  · go_wp2_with fail
    refine HC.out.mono ?_
    rintro e w2 ⟨rfl, hpw⟩
    have HB2 := Lib.hid (below_up (below_alloc w1 (.cells (madeCells #[.int .i64 0] n) 3)) hpw.up)
    have HW0 := Lib.hid (show WP8 w1 n g (wI g false) 0 w2 from ⟨HN0.out.next hpw.up, by
      obtain ⟨R, q⟩ := hpw.ex
      rw [World.size_alloc] at q
      exact ⟨R, q⟩⟩)
    clear hpw HC HN0 hmk HB2
    go_wp2
    go_loopw [28] (fun i wr => ∃ v : Nat, v ≤ n ∧ i = .int .i64 v ∧ Hid (WP8 w1 n g (wI g false) v wr)) (fun i _ => n - (intOf i).toNat)
    case atStart => exact ⟨0, Nat.zero_le _, rfl, HW0⟩
    case round =>
      clear HW0
      obtain ⟨v, hv, rfl, HW⟩ := hrel
      by_cases hlt : v < n
      · obtain ⟨R, hpl⟩ := HW.out.pl
        have c1 : wr.cell? ⟨w1.heap.size + 1, v, none⟩ = some (.pointer (some ⟨w1.heap.size + 1 + 1 + v, 0, none⟩)) := hpl.row.cell hlt
        obtain ⟨An, kn, hR, _⟩ := hpl.near hlt
        have c2 := blk_cell (hpl.bl v hlt) (i := 0) rfl
        rw [hR, HNL.out] at c2
        have c3 := HW.out.own.cell hlt
        have f3 := HW.out.own.frozen hlt
        obtain ⟨d1, d2⟩ := HDB.out v hlt
        have hwi := HWI.out v
        have HWV := Lib.hid (HWB.out v hlt)
        have hw2 : wI g false v = (dg g v : Int) := hwi
        have HW1 := Lib.hid (HW.out.set1 hlt (by have := HWV.out; omega))
        rw [hw2] at HW1
        clear hR hpl HW hwi hw2 HWV
        generalize dg g v = dd at *
        go_wp2
        go_roundw
        case rel => exact ⟨v + 1, by omega, by go_num, HW1⟩
        case measure => simp [intOf]; omega
      · obtain rfl : v = n := by omega
        have HM := Lib.hid (mixT_all (wI g false) (fun _ => 0) v)
        have HNX := Lib.hid (show NX w1 v w1.heap.size ((List.range v).map (wI g false)) wr from by rw [← HM.out]; exact HW.out.own)
        have HSO := Lib.hid (show SumOk ((List.range v).map (wI g false)) from SumOk.of_small (B := 12) (by simp; omega) (fun j hj => by
          rw [List.length_map, List.length_range] at hj
          rw [gi_range hj]; have := HWB.out j hj; omega) (by omega))
        have HINT := Lib.hid HNX.out.own.ints
        have HB3 := Lib.hid (below_up HB1.out HNX.out.up)
        have hmk := run_make (P := Try.prog) wr 53 39 i0 (.agg #[.int .i64 0, .int .i64 0]) Try.underlying53 hi0 hz0 .i64 .i64 (v : Int) (v : Int) (by omega) (Int.le_refl _) (by rw [hz2]; omega) (by omega)
        rw [Int.toNat_natCast, hz1] at hmk
        have HF0 := Lib.hid (show FX8 v wr.heap.size wr (mixT (gi (pcL g false v)) (fun _ => 0) (2 * v) (0 * 2)) (wr.alloc (.cells (madeCells #[.int .i64 0, .int .i64 0] (v * 2)) 39)) from by
          rw [Nat.zero_mul, mixT_zero]; exact FX8.start wr v h5)
        clear HW HNX HM HWI HNL HDB HB1
        go_wp2
        clear hmk
        generalize hW1 : wr = W1 at *
        clear hW1
        go_loopw [54] (fun i wr => ∃ k : Nat, k ≤ v ∧ i = .int .i64 k ∧ Hid (FX8 v W1.heap.size W1 (mixT (gi (pcL g false v)) (fun _ => 0) (2 * v) (k * 2)) wr)) (fun i _ => v - (intOf i).toNat)
        case atStart => exact ⟨0, Nat.zero_le _, rfl, HF0⟩
        case round =>
          clear HF0
          obtain ⟨k, hkv, rfl, HF⟩ := hrel
          by_cases hkl : k < v
          · have HIK := Lib.hid (HINT.out.keep (Keep.below HF.out.up))
            obtain ⟨bi, oi, hei, hci⟩ := HIK.out.at_ (by omega)
            injection hei with hei
            injection hei with e1 e2 _
            subst e1
            subst e2
            have c1 := hci k hkl
            rw [gi_range hkl, Nat.zero_add] at c1
            have HS := Lib.hid (HTW.out ▸ sumOf_any (some ⟨w1.heap.size, 0, none⟩) v v _ wr HIK.out HSO.out)
            obtain ⟨b1, b2⟩ := HWB.out k hkl
            obtain ⟨t1, t2⟩ := HTB.out
            have HGR := Lib.hid (gi_pcL g false (k := v) (i := k) hkl)
            have HST := Lib.hid (show ((mixT (gi (pcL g false v)) (fun _ => 0) (2 * v) (k * 2)).set (k * 2) (gi (pcL g false v) (k * 2))).set (k * 2 + 1) (gi (pcL g false v) (k * 2 + 1)) = mixT (gi (pcL g false v)) (fun _ => 0) (2 * v) ((k + 1) * 2) by rw [mixT_set, mixT_set, show k * 2 + 1 + 1 = (k + 1) * 2 by omega])
            rw [HGR.out.1, HGR.out.2] at HST
            have HFV : Hid (frV (wI g false k) (tW g false) = .agg #[.int .i64 (frU (wI g false k) (tW g false)), .int .i64 (frD (wI g false k) (tW g false))]) := Lib.hid rfl
            have HFR := Lib.hid (fun W => HFV.out ▸ fracOf_any (wI g false k) (tW g false) W (by unfold Mid; omega) (by unfold Mid; omega) (by omega))
            clear hci HIK HGR HFV
            generalize frU (wI g false k) (tW g false) = U at *
            generalize frD (wI g false k) (tW g false) = D at *
            generalize wI g false k = x at *
            generalize tW g false = T at *
            go_wp2_with fail
            refine HS.out.mono ?_
            rintro e w5 ⟨rfl, hq⟩
            have HF5 := Lib.hid (HF.out.next hq.below)
            clear hq HS HF c1
            go_wp2_with fail
            refine (HFR.out _).mono ?_
            rintro e w6 ⟨rfl, hb⟩
            have HF6 := Lib.hid (HF5.out.next hb)
            clear hb HFR HF5
            have q1 := HF6.out.cell (k := k * 2) (by omega)
            have q2 := HF6.out.cell (k := k * 2 + 1) (by omega)
            have z1 := HF6.out.frozen (k := k * 2) (by omega)
            have z2 := HF6.out.frozen (k := k * 2 + 1) (by omega)
            have HF7 := Lib.hid ((HF6.out.set (k := k * 2) (by omega) U).set (k := k * 2 + 1) (by omega) D)
            rw [HST.out] at HF7
            clear HF6
            go_wp2
            go_roundw
            case rel => exact ⟨k + 1, by omega, by go_num, HF7⟩
            case measure => simp [intOf]; omega
          · obtain rfl : k = v := by omega
            have HNW := Lib.hid (show NewF w (pcF g s) (.returned (.slice (some ⟨W1.heap.size, 0, none⟩) k k)) wr from by
              refine NewF.from HB3.out ?_
              have e : mixT (gi (pcL g false k)) (fun _ => 0) (2 * k) (k * 2) = pcF g s := by
                rw [HPC.out, HL.out, show k * 2 = 2 * k by omega, mixT_all, ← pcL_len g false k]
                exact list_range _
              have ho := HF.out.own
              rw [e] at ho
              exact ⟨_, _, _, _, rfl, ho.frs.len, ho, HF.out.up⟩)
            go_wp2
            go_ret
            exact HNW.out
  · go_wp2_with fail
    refine HC.out.mono ?_
    rintro e w2 ⟨rfl, hpw⟩
    have HB2 := Lib.hid (below_up (below_alloc w1 (.cells (madeCells #[.int .i64 0] n) 3)) hpw.up)
    have HW0 := Lib.hid (show WP8 w1 n g (wI g true) 0 w2 from ⟨HN0.out.next hpw.up, by
      obtain ⟨R, q⟩ := hpw.ex
      rw [World.size_alloc] at q
      exact ⟨R, q⟩⟩)
    clear hpw HC HN0 hmk HB2
    go_wp2
    go_loopw [28] (fun i wr => ∃ v : Nat, v ≤ n ∧ i = .int .i64 v ∧ Hid (WP8 w1 n g (wI g true) v wr)) (fun i _ => n - (intOf i).toNat)
    case atStart => exact ⟨0, Nat.zero_le _, rfl, HW0⟩
    case round =>
      clear HW0
      obtain ⟨v, hv, rfl, HW⟩ := hrel
      by_cases hlt : v < n
      · obtain ⟨R, hpl⟩ := HW.out.pl
        have c1 : wr.cell? ⟨w1.heap.size + 1, v, none⟩ = some (.pointer (some ⟨w1.heap.size + 1 + 1 + v, 0, none⟩)) := hpl.row.cell hlt
        obtain ⟨An, kn, hR, _⟩ := hpl.near hlt
        have c2 := blk_cell (hpl.bl v hlt) (i := 0) rfl
        rw [hR, HNL.out] at c2
        have c3 := HW.out.own.cell hlt
        have f3 := HW.out.own.frozen hlt
        obtain ⟨d1, d2⟩ := HDB.out v hlt
        have hwi := HWI.out v
        have HWV := Lib.hid (HWB.out v hlt)
        have HCH := Lib.hid (fun W q => HNL.out v ▸ chanceOfEach_any (w1.heap.size + 1) n (nn g) (fun _ => 0) (fun _ => 0) R W q v hlt (by rw [HNL.out]; exact ⟨d1, d2⟩))
        have hw2 : wI g true v = ((12 / dg g v : Nat) : Int) := hwi
        have HW1 := Lib.hid (HW.out.set hlt (dg g v : Int) (by omega) (by have := HWV.out; omega))
        rw [hw2] at HW1
        have HPS := Lib.hid (hpl.setLow (a := ⟨w1.heap.size, v, none⟩) (by show w1.heap.size < w1.heap.size + 1; omega) (.int .i64 (dg g v : Int)))
        have HO2 := Lib.hid (HW.out.own.set hlt (v := (dg g v : Int)) (by omega))
        have c4 := HO2.out.cell hlt
        have f4 := HO2.out.frozen hlt
        clear hR hpl HW hwi hw2 HWV
        generalize dg g v = dd at *
        go_wp2_with fail
        refine (HCH.out _ HPS.out).mono ?_
        rintro e w5 ⟨rfl, rfl⟩
        clear HCH HPS HO2
        go_wp2
        go_roundw
        case rel => exact ⟨v + 1, by omega, by go_num, HW1⟩
        case measure => simp [intOf]; omega
      · obtain rfl : v = n := by omega
        have HM := Lib.hid (mixT_all (wI g true) (fun _ => 0) v)
        have HNX := Lib.hid (show NX w1 v w1.heap.size ((List.range v).map (wI g true)) wr from by rw [← HM.out]; exact HW.out.own)
        have HSO := Lib.hid (show SumOk ((List.range v).map (wI g true)) from SumOk.of_small (B := 12) (by simp; omega) (fun j hj => by
          rw [List.length_map, List.length_range] at hj
          rw [gi_range hj]; have := HWB.out j hj; omega) (by omega))
        have HINT := Lib.hid HNX.out.own.ints
        have HB3 := Lib.hid (below_up HB1.out HNX.out.up)
        have hmk := run_make (P := Try.prog) wr 53 39 i0 (.agg #[.int .i64 0, .int .i64 0]) Try.underlying53 hi0 hz0 .i64 .i64 (v : Int) (v : Int) (by omega) (Int.le_refl _) (by rw [hz2]; omega) (by omega)
        rw [Int.toNat_natCast, hz1] at hmk
        have HF0 := Lib.hid (show FX8 v wr.heap.size wr (mixT (gi (pcL g true v)) (fun _ => 0) (2 * v) (0 * 2)) (wr.alloc (.cells (madeCells #[.int .i64 0, .int .i64 0] (v * 2)) 39)) from by
          rw [Nat.zero_mul, mixT_zero]; exact FX8.start wr v h5)
        clear HW HNX HM HWI HNL HDB HB1
        go_wp2
        clear hmk
        generalize hW1 : wr = W1 at *
        clear hW1
        go_loopw [54] (fun i wr => ∃ k : Nat, k ≤ v ∧ i = .int .i64 k ∧ Hid (FX8 v W1.heap.size W1 (mixT (gi (pcL g true v)) (fun _ => 0) (2 * v) (k * 2)) wr)) (fun i _ => v - (intOf i).toNat)
        case atStart => exact ⟨0, Nat.zero_le _, rfl, HF0⟩
        case round =>
          clear HF0
          obtain ⟨k, hkv, rfl, HF⟩ := hrel
          by_cases hkl : k < v
          · have HIK := Lib.hid (HINT.out.keep (Keep.below HF.out.up))
            obtain ⟨bi, oi, hei, hci⟩ := HIK.out.at_ (by omega)
            injection hei with hei
            injection hei with e1 e2 _
            subst e1
            subst e2
            have c1 := hci k hkl
            rw [gi_range hkl, Nat.zero_add] at c1
            have HS := Lib.hid (HTW.out ▸ sumOf_any (some ⟨w1.heap.size, 0, none⟩) v v _ wr HIK.out HSO.out)
            obtain ⟨b1, b2⟩ := HWB.out k hkl
            obtain ⟨t1, t2⟩ := HTB.out
            have HGR := Lib.hid (gi_pcL g true (k := v) (i := k) hkl)
            have HST := Lib.hid (show ((mixT (gi (pcL g true v)) (fun _ => 0) (2 * v) (k * 2)).set (k * 2) (gi (pcL g true v) (k * 2))).set (k * 2 + 1) (gi (pcL g true v) (k * 2 + 1)) = mixT (gi (pcL g true v)) (fun _ => 0) (2 * v) ((k + 1) * 2) by rw [mixT_set, mixT_set, show k * 2 + 1 + 1 = (k + 1) * 2 by omega])
            rw [HGR.out.1, HGR.out.2] at HST
            have HFV : Hid (frV (wI g true k) (tW g true) = .agg #[.int .i64 (frU (wI g true k) (tW g true)), .int .i64 (frD (wI g true k) (tW g true))]) := Lib.hid rfl
            have HFR := Lib.hid (fun W => HFV.out ▸ fracOf_any (wI g true k) (tW g true) W (by unfold Mid; omega) (by unfold Mid; omega) (by omega))
            clear hci HIK HGR HFV
            generalize frU (wI g true k) (tW g true) = U at *
            generalize frD (wI g true k) (tW g true) = D at *
            generalize wI g true k = x at *
            generalize tW g true = T at *
            go_wp2_with fail
            refine HS.out.mono ?_
            rintro e w5 ⟨rfl, hq⟩
            have HF5 := Lib.hid (HF.out.next hq.below)
            clear hq HS HF c1
            go_wp2_with fail
            refine (HFR.out _).mono ?_
            rintro e w6 ⟨rfl, hb⟩
            have HF6 := Lib.hid (HF5.out.next hb)
            clear hb HFR HF5
            have q1 := HF6.out.cell (k := k * 2) (by omega)
            have q2 := HF6.out.cell (k := k * 2 + 1) (by omega)
            have z1 := HF6.out.frozen (k := k * 2) (by omega)
            have z2 := HF6.out.frozen (k := k * 2 + 1) (by omega)
            have HF7 := Lib.hid ((HF6.out.set (k := k * 2) (by omega) U).set (k := k * 2 + 1) (by omega) D)
            rw [HST.out] at HF7
            clear HF6
            go_wp2
            go_roundw
            case rel => exact ⟨k + 1, by omega, by go_num, HF7⟩
            case measure => simp [intOf]; omega
          · obtain rfl : k = v := by omega
            have HNW := Lib.hid (show NewF w (pcF g s) (.returned (.slice (some ⟨W1.heap.size, 0, none⟩) k k)) wr from by
              refine NewF.from HB3.out ?_
              have e : mixT (gi (pcL g true k)) (fun _ => 0) (2 * k) (k * 2) = pcF g s := by
                rw [HPC.out, HL.out, show k * 2 = 2 * k by omega, mixT_all, ← pcL_len g true k]
                exact list_range _
              have ho := HF.out.own
              rw [e] at ho
              exact ⟨_, _, _, _, rfl, ho.frs.len, ho, HF.out.up⟩)
            go_wp2
            go_ret
            exact HNW.out
theorem PlaceChances_impl (A : Option Addr) (n c : Nat) (g : List Int) (s : ByteArray) (w : World) (hx : Ints w A n c g) :
    Calls Try.prog 36 #[.slice A n c, .string s] w (NewF w (pcF g s)) := by
  by_cases hg : GR g
  · rcases kind_cases s with hk | hk | hk
    · exact placeChances_yes A n c g s true w hx hg hk
    · exact placeChances_yes A n c g s false w hx hg hk
    · have HV := Lib.hid (pb_true hg ▸ ValidGraph_impl A n c g w hx)
      have HN := Lib.hid (pcF_none (g := g) hk)
      obtain ⟨hk1, hk2⟩ := hk
      clear hx hg
      go_enter Try.func36, Try.ntmps36
      go_wp2_with fail
      refine HV.out.mono ?_
      rintro e w1 ⟨rfl, hb⟩
      have HB := Lib.hid hb
      clear hb HV
      go_wp2
      go_ret
      exact NewF.empty HB.out HN.out
  · have HV := Lib.hid (pb_false hg ▸ ValidGraph_impl A n c g w hx)
    have HN := Lib.hid (pcF_no (s := s) hg)
    clear hx hg
    go_enter Try.func36, Try.ntmps36
    go_wp2_with fail
    refine HV.out.mono ?_
    rintro e w1 ⟨rfl, hb⟩
    have HB := Lib.hid hb
    clear hb HV
    go_wp2
    go_ret
    exact NewF.empty HB.out HN.out

end Go.Proofs.Ytolnbkplgnpfjaa

/- Small functions of the laws. -/
namespace Go.Proofs.Ytolnbkplgnpfjaa
open Go.RowKit

set_option maxHeartbeats 400000 in
theorem divisor_any (a b : Int) (w : World) (ha : Mid a) (hb : Mid b) :
    Calls Try.prog 88 #[.int .i64 a, .int .i64 b] w fun e w' => e = .returned (.int .i64 (gcdI a b)) ∧ Quiet w w' := by
  have HA := Lib.hid ha
  have HB := Lib.hid hb
  clear ha hb
  go_enter Try.func88, Try.ntmps88
  go_wp2
  go_loopw [0, 1] (fun s t wr => ∃ x y : Int, s = .int .i64 x ∧ t = .int .i64 y ∧ Hid (Mid x) ∧ Hid (Mid y) ∧ Hid (gcdI x y = gcdI a b) ∧ Quiet w wr) (fun _ t _ => (intOf t).natAbs)
  case atStart => exact ⟨a, b, rfl, rfl, HA, HB, Lib.hid rfl, Quiet.refl _⟩
  case round =>
    obtain ⟨x, y, rfl, rfl, HX, HY, HG, q, rfl⟩ := hrel
    obtain ⟨x1, x2⟩ := HX.out
    obtain ⟨y1, y2⟩ := HY.out
    by_cases hy : y = 0
    · subst hy
      have hg := Lib.hid (gcdI_zero x)
      go_wp2
      all_goals go_ret
      all_goals exact ⟨ret_int (by rw [← HG.out, hg.out]; omega), ⟨_, rfl⟩⟩
    · have hy' : (y != 0) = true := by simpa using hy
      have HM := Lib.hid (HX.out.tmod (y := y))
      have HS := Lib.hid (gcdI_step x y)
      have HT := Lib.hid (tmod_abs (a := x) hy)
      go_wp2
      go_roundw
      case rel => exact ⟨y, x.tmod y, rfl, rfl, HY, HM, Lib.hid (HS.out.trans HG.out), ⟨_, rfl⟩⟩
      case measure => have := HT.out; simpa [intOf] using this

set_option maxHeartbeats 400000 in
theorem lessOf_any (u d v e : Int) (w : World) (hu : -1000000000 ≤ u ∧ u ≤ 1000000000) (hv : -1000000000 ≤ v ∧ v ≤ 1000000000) (hd : 0 ≤ d ∧ d ≤ 1000000000) (he : 0 ≤ e ∧ e ≤ 1000000000) :
    Calls Try.prog 43 #[.agg #[.int .i64 u, .int .i64 d], .agg #[.int .i64 v, .int .i64 e]] w (Ret (.bool (lessB u d v e)) w) := by
  obtain ⟨p1, p2⟩ := less_bd hu he
  obtain ⟨p3, p4⟩ := less_bd hv hd
  have b0 := blk_old (blk_new w 39 #[.int .i64 u, .int .i64 d]) (.cells #[.int .i64 v, .int .i64 e] 39)
  have b1 := blk_new (w.alloc (.cells #[.int .i64 u, .int .i64 d] 39)) 39 #[.int .i64 v, .int .i64 e]
  have HB := Lib.hid (below_up (below_alloc w (.cells #[.int .i64 u, .int .i64 d] 39)) (below_alloc _ (.cells #[.int .i64 v, .int .i64 e] 39)))
  rw [World.size_alloc] at b1
  have c0 := blk_cell b0 (i := 0) rfl
  have c1 := blk_cell b0 (i := 1) rfl
  have c2 := blk_cell b1 (i := 0) rfl
  have c3 := blk_cell b1 (i := 1) rfl
  go_enter Try.func43, Try.ntmps43
  go_wp2
  go_ret
  exact ⟨rfl, HB.out⟩
set_option maxHeartbeats 1000000 in
theorem fracOfL_any (u d : Int) (w : World) (hu : Mid u) (hd : Mid d) (h1 : 1 ≤ d) :
    Calls Try.prog 30 #[.int .i64 u, .int .i64 d] w (Ret (frV u d) w) := by
  have HQ := Lib.hid (fun W => divisor_any u d W hu hd)
  have hg1 := gcdI_pos (a := u) (b := d) (by omega)
  have hg2 := gcdI_le (a := u) (b := d) (by omega)
  obtain ⟨u1, u2⟩ := hu
  obtain ⟨d1, d2⟩ := hd
  have hB := Lib.hid (below_alloc w (.cells #[.int .i64 0, .int .i64 0] 39))
  go_enter Try.func30, Try.ntmps30
  go_wp2_with fail
  refine (HQ.out _).mono ?_
  rintro e w2 ⟨rfl, hq⟩
  have HFU : Hid (frU u d = u.tdiv (gcdI u d)) := Lib.hid rfl
  have HFD : Hid (frD u d = d / gcdI u d) := Lib.hid (by unfold frD; rw [Int.tdiv_eq_ediv_of_nonneg (by omega)])
  have b0 := blk_quiet (blk_new w 39 #[.int .i64 0, .int .i64 0]) hq
  have HBW := Lib.hid (below_quiet hB.out hq)
  clear hq hB HQ
  generalize gcdI u d = g at *
  have c0 := blk_cell b0 (i := 0) rfl
  have c1 := blk_cell b0 (i := 1) rfl
  have f0 := blk_frozen b0 0
  have f1 := blk_frozen b0 1
  have g0 : (g == 0) = false := by simp; omega
  go_wp2
  go_region
  all_goals clear c0 c1 f0 f1
  all_goals go_wp2
  have B1 := blk_set (blk_set b0 0 (.int .i64 (u.tdiv g))) 1 (.int .i64 (d / g))
  have r0 := blk_cell B1 (i := 0) (v := .int .i64 (u.tdiv g)) rfl
  have r1 := blk_cell B1 (i := 1) (v := .int .i64 (d / g)) rfl
  have HBX := Lib.hid ((HBW.out.setCell (p := ⟨w.heap.size, 0, none⟩) (Nat.le_refl _) (.int .i64 (u.tdiv g))).setCell (p := ⟨w.heap.size, 1, none⟩) (Nat.le_refl _) (.int .i64 (d / g))).drew
  replace r0 : ((w2.setCell ⟨w.heap.size, 0, none⟩ (.int .i64 (u.tdiv g))).setCell ⟨w.heap.size, 1, none⟩ (.int .i64 (d / g))).drew.cell? ⟨w.heap.size, 0, none⟩ = some (.int .i64 (u.tdiv g)) := r0
  replace r1 : ((w2.setCell ⟨w.heap.size, 0, none⟩ (.int .i64 (u.tdiv g))).setCell ⟨w.heap.size, 1, none⟩ (.int .i64 (d / g))).drew.cell? ⟨w.heap.size, 1, none⟩ = some (.int .i64 (d / g)) := r1
  clear B1 b0 HBW
  generalize ((w2.setCell ⟨w.heap.size, 0, none⟩ (.int .i64 (u.tdiv g))).setCell ⟨w.heap.size, 1, none⟩ (.int .i64 (d / g))).drew = W3 at *
  refine bodyPost_ret (v := .agg #[.int .i64 (u.tdiv g), .int .i64 (d / g)]) (by simp [results, Try.results30, go_sem, r0, r1]) rfl ?_
  exact ⟨by rw [frV, HFU.out, HFD.out], HBX.out⟩
set_option maxHeartbeats 1000000 in
theorem plusOf_any (u d v e : Int) (w : World) (hu : -100000000 ≤ u ∧ u ≤ 100000000) (hv : -100000000 ≤ v ∧ v ≤ 100000000) (hd : 1 ≤ d ∧ d ≤ 10000000) (he : 1 ≤ e ∧ e ≤ 10000000) (hm : Mid (u * e + v * d)) :
    Calls Try.prog 31 #[.agg #[.int .i64 u, .int .i64 d], .agg #[.int .i64 v, .int .i64 e]] w (Ret (frV (u * e + v * d) (d * e)) w) := by
  obtain ⟨p1, p2⟩ := mulbd (x := u) (y := e) (A := 100000000) (B := 10000000) hu (by omega)
  obtain ⟨p3, p4⟩ := mulbd (x := v) (y := d) (A := 100000000) (B := 10000000) hv (by omega)
  obtain ⟨p5, p6⟩ := mulbd (x := d) (y := e) (A := 10000000) (B := 10000000) (by omega) (by omega)
  obtain ⟨p7, p8⟩ := mulbd (x := u) (y := v) (A := 100000000) (B := 100000000) hu hv
  have p9 : 1 ≤ d * e := by have h : 1 * 1 ≤ d * e := Int.mul_le_mul hd.1 he.1 (by omega) (by omega); omega
  have HC := Lib.hid (fun W => fracOfL_any (u * e + v * d) (d * e) W hm (by unfold Mid; omega) p9)
  have b0 := blk_old (blk_old (blk_new w 39 #[.int .i64 u, .int .i64 d]) (.cells #[.int .i64 v, .int .i64 e] 39)) (.cells #[.int .i64 0, .int .i64 0] 39)
  have b1 := blk_old (blk_new (w.alloc (.cells #[.int .i64 u, .int .i64 d] 39)) 39 #[.int .i64 v, .int .i64 e]) (.cells #[.int .i64 0, .int .i64 0] 39)
  have b2 := blk_new ((w.alloc (.cells #[.int .i64 u, .int .i64 d] 39)).alloc (.cells #[.int .i64 v, .int .i64 e] 39)) 39 #[.int .i64 0, .int .i64 0]
  have HB := Lib.hid (below_up (below_up (below_alloc w (.cells #[.int .i64 u, .int .i64 d] 39)) (below_alloc _ (.cells #[.int .i64 v, .int .i64 e] 39))) (below_alloc _ (.cells #[.int .i64 0, .int .i64 0] 39)))
  have HFV : Hid (frV (u * e + v * d) (d * e) = .agg #[.int .i64 (frU (u * e + v * d) (d * e)), .int .i64 (frD (u * e + v * d) (d * e))]) := Lib.hid rfl
  rw [HFV.out] at HC
  simp only [World.size_alloc] at b1 b2
  have c0 := blk_cell b0 (i := 0) rfl
  have c1 := blk_cell b0 (i := 1) rfl
  have c2 := blk_cell b1 (i := 0) rfl
  have c3 := blk_cell b1 (i := 1) rfl
  have HB2 := Lib.hid b2
  clear b0 b1 b2
  go_enter Try.func31, Try.ntmps31
  go_wp2_with fail
  clear c0 c1 c2 c3
  generalize ((w.alloc (.cells #[.int .i64 u, .int .i64 d] 39)).alloc (.cells #[.int .i64 v, .int .i64 e] 39)).alloc (.cells #[.int .i64 0, .int .i64 0] 39) = w1 at *
  refine (HC.out _).mono ?_
  rintro e w2 ⟨rfl, hb⟩
  have b0 := blk_below HB2.out hb
  have HBW := Lib.hid (below_up HB.out hb)
  clear hb HC HB HB2
  generalize frU (u * e + v * d) (d * e) = U at *
  generalize frD (u * e + v * d) (d * e) = D at *
  have c0 := blk_cell b0 (i := 0) rfl
  have c1 := blk_cell b0 (i := 1) rfl
  have f0 := blk_frozen b0 0
  have f1 := blk_frozen b0 1
  go_wp2
  clear c0 c1 f0 f1
  have B1 := blk_set (blk_set b0 0 (.int .i64 U)) 1 (.int .i64 D)
  have r0 := blk_cell B1 (i := 0) (v := .int .i64 U) rfl
  have r1 := blk_cell B1 (i := 1) (v := .int .i64 D) rfl
  have hle : w.heap.size ≤ w.heap.size + 1 + 1 := by omega
  have HBX := Lib.hid ((HBW.out.setCell (p := ⟨w.heap.size + 1 + 1, 0, none⟩) hle (.int .i64 U)).setCell (p := ⟨w.heap.size + 1 + 1, 1, none⟩) hle (.int .i64 D))
  clear B1 b0 HBW
  generalize (w2.setCell ⟨w.heap.size + 1 + 1, 0, none⟩ (.int .i64 U)).setCell ⟨w.heap.size + 1 + 1, 1, none⟩ (.int .i64 D) = WE at *
  refine bodyPost_ret (v := .agg #[.int .i64 U, .int .i64 D]) (by simp [results, Try.results31, go_sem, r0, r1]) rfl ?_
  exact ⟨by rw [HFV.out], HBX.out⟩
set_option maxHeartbeats 1000000 in
theorem timesOf_any (u d v e : Int) (w : World) (hu : -1000000 ≤ u ∧ u ≤ 1000000) (hv : -1000000 ≤ v ∧ v ≤ 1000000) (hd : 1 ≤ d ∧ d ≤ 1000000) (he : 1 ≤ e ∧ e ≤ 1000000) :
    Calls Try.prog 24 #[.agg #[.int .i64 u, .int .i64 d], .agg #[.int .i64 v, .int .i64 e]] w (Ret (frV (u * v) (d * e)) w) := by
  obtain ⟨p1, p2⟩ := mulbd (x := u) (y := e) (A := 1000000) (B := 1000000) hu (by omega)
  obtain ⟨p3, p4⟩ := mulbd (x := v) (y := d) (A := 1000000) (B := 1000000) hv (by omega)
  obtain ⟨p5, p6⟩ := mulbd (x := d) (y := e) (A := 1000000) (B := 1000000) (by omega) (by omega)
  obtain ⟨p7, p8⟩ := mulbd (x := u) (y := v) (A := 1000000) (B := 1000000) hu hv
  have p9 : 1 ≤ d * e := by have h : 1 * 1 ≤ d * e := Int.mul_le_mul hd.1 he.1 (by omega) (by omega); omega
  have HC := Lib.hid (fun W => fracOfL_any (u * v) (d * e) W (by unfold Mid; omega) (by unfold Mid; omega) p9)
  have b0 := blk_old (blk_old (blk_new w 39 #[.int .i64 u, .int .i64 d]) (.cells #[.int .i64 v, .int .i64 e] 39)) (.cells #[.int .i64 0, .int .i64 0] 39)
  have b1 := blk_old (blk_new (w.alloc (.cells #[.int .i64 u, .int .i64 d] 39)) 39 #[.int .i64 v, .int .i64 e]) (.cells #[.int .i64 0, .int .i64 0] 39)
  have b2 := blk_new ((w.alloc (.cells #[.int .i64 u, .int .i64 d] 39)).alloc (.cells #[.int .i64 v, .int .i64 e] 39)) 39 #[.int .i64 0, .int .i64 0]
  have HB := Lib.hid (below_up (below_up (below_alloc w (.cells #[.int .i64 u, .int .i64 d] 39)) (below_alloc _ (.cells #[.int .i64 v, .int .i64 e] 39))) (below_alloc _ (.cells #[.int .i64 0, .int .i64 0] 39)))
  have HFV : Hid (frV (u * v) (d * e) = .agg #[.int .i64 (frU (u * v) (d * e)), .int .i64 (frD (u * v) (d * e))]) := Lib.hid rfl
  rw [HFV.out] at HC
  simp only [World.size_alloc] at b1 b2
  have c0 := blk_cell b0 (i := 0) rfl
  have c1 := blk_cell b0 (i := 1) rfl
  have c2 := blk_cell b1 (i := 0) rfl
  have c3 := blk_cell b1 (i := 1) rfl
  have HB2 := Lib.hid b2
  clear b0 b1 b2
  go_enter Try.func24, Try.ntmps24
  go_wp2_with fail
  clear c0 c1 c2 c3
  generalize ((w.alloc (.cells #[.int .i64 u, .int .i64 d] 39)).alloc (.cells #[.int .i64 v, .int .i64 e] 39)).alloc (.cells #[.int .i64 0, .int .i64 0] 39) = w1 at *
  refine (HC.out _).mono ?_
  rintro e w2 ⟨rfl, hb⟩
  have b0 := blk_below HB2.out hb
  have HBW := Lib.hid (below_up HB.out hb)
  clear hb HC HB HB2
  generalize frU (u * v) (d * e) = U at *
  generalize frD (u * v) (d * e) = D at *
  have c0 := blk_cell b0 (i := 0) rfl
  have c1 := blk_cell b0 (i := 1) rfl
  have f0 := blk_frozen b0 0
  have f1 := blk_frozen b0 1
  go_wp2
  clear c0 c1 f0 f1
  have B1 := blk_set (blk_set b0 0 (.int .i64 U)) 1 (.int .i64 D)
  have r0 := blk_cell B1 (i := 0) (v := .int .i64 U) rfl
  have r1 := blk_cell B1 (i := 1) (v := .int .i64 D) rfl
  have hle : w.heap.size ≤ w.heap.size + 1 + 1 := by omega
  have HBX := Lib.hid ((HBW.out.setCell (p := ⟨w.heap.size + 1 + 1, 0, none⟩) hle (.int .i64 U)).setCell (p := ⟨w.heap.size + 1 + 1, 1, none⟩) hle (.int .i64 D))
  clear B1 b0 HBW
  generalize (w2.setCell ⟨w.heap.size + 1 + 1, 0, none⟩ (.int .i64 U)).setCell ⟨w.heap.size + 1 + 1, 1, none⟩ (.int .i64 D) = WE at *
  refine bodyPost_ret (v := .agg #[.int .i64 U, .int .i64 D]) (by simp [results, Try.results24, go_sem, r0, r1]) rfl ?_
  exact ⟨by rw [HFV.out], HBX.out⟩
/-- Whether a list has a number. -/
def HasN (xs : List Int) (x : Int) : Prop := ∃ k, k < xs.length ∧ gi xs k = x
set_option maxHeartbeats 400000 in
theorem isIn_any (A : Option Addr) (n c : Nat) (xs : List Int) (x : Int) (w : World) (hx : Ints w A n c xs) :
    Calls Try.prog 18 #[.slice A n c, .int .i64 x] w fun e w' => e = .returned (.bool (pb (HasN xs x))) ∧ Quiet w w' := by
  have hl := hx.max
  have HX := Lib.hid hx
  have HL := Lib.hid hx.len
  clear hx
  go_enter Try.func18, Try.ntmps18
  go_wp2
  go_loopw [5] (fun i wr => ∃ k : Nat, k ≤ n ∧ i = .int .i64 k ∧ Hid (∀ j, j < k → gi xs j ≠ x) ∧ Quiet w wr) (fun i _ => n - (intOf i).toNat)
  case atStart => exact ⟨0, Nat.zero_le _, rfl, Lib.hid (fun _ h => absurd h (by omega)), Quiet.refl _⟩
  case round =>
    obtain ⟨k, hk, rfl, HN, q, rfl⟩ := hrel
    by_cases hlt : k < n
    · obtain ⟨b, o, rfl, hc⟩ := HX.out.at_ (by omega)
      have c1 := hc k hlt
      clear hc
      by_cases he : gi xs k = x
      · have HR := Lib.hid (pb_true (p := HasN xs x) ⟨k, by rw [HL.out]; exact hlt, he⟩)
        have hd : (gi xs k == x) = true := by simpa using he
        clear he
        go_wp2
        go_ret
        exact ⟨ret_bool HR.out.symm, ⟨_, rfl⟩⟩
      · have HE := Lib.hid he
        have hd : (gi xs k == x) = false := by simpa using he
        clear he
        go_wp2
        go_roundw
        case rel => exact ⟨k + 1, by omega, by go_num, Lib.hid (fun j hj => by
          by_cases hjk : j < k
          · exact HN.out j hjk
          · obtain rfl : j = k := by omega
            exact HE.out), ⟨_, rfl⟩⟩
        case measure => simp [intOf]; omega
    · obtain rfl : k = n := by omega
      have HR := Lib.hid (pb_false (p := HasN xs x) (fun ⟨j, hj, e⟩ => HN.out j (by rw [← HL.out]; exact hj) e))
      go_wp2
      go_ret
      exact ⟨ret_bool HR.out.symm, ⟨_, rfl⟩⟩
set_option maxHeartbeats 400000 in
theorem equalInts_any (A B : Option Addr) (n c m d : Nat) (xs ys : List Int) (w : World) (hx : Ints w A n c xs) (hy : Ints w B m d ys) :
    Calls Try.prog 15 #[.slice A n c, .slice B m d] w fun e w' => e = .returned (.bool (eqI xs ys)) ∧ Quiet w w' := by
  obtain ⟨lx, cx, mx, _, hx⟩ := hx
  obtain ⟨ly, cy, my, _, hy⟩ := hy
  have Lx := Lib.hid lx
  have Ly := Lib.hid ly
  clear lx ly
  by_cases hnm : n = m
  · subst hnm
    go_enter Try.func15, Try.ntmps15
    go_wp2
    go_loopw [5] (fun i wr => ∃ k : Nat, k ≤ n ∧ i = .int .i64 k ∧ (∀ j, j < k → gi xs j = gi ys j) ∧ Quiet w wr) (fun i _ => n - (intOf i).toNat)
    case atStart => exact ⟨0, Nat.zero_le _, rfl, fun _ h => absurd h (by omega), Quiet.refl _⟩
    case round =>
      obtain ⟨k, hk, rfl, hall, q, rfl⟩ := hrel
      have HALL := Lib.hid hall
      clear hall
      by_cases hlt : k < n
      · obtain ⟨b, o, rfl, hcx⟩ := hx (by omega)
        obtain ⟨b2, o2, rfl, hcy⟩ := hy (by omega)
        have c1 := hcx k hlt
        have c2 := hcy k hlt
        clear hx hy hcx hcy
        by_cases he : gi xs k = gi ys k
        · have he' : (gi xs k != gi ys k) = false := by simp [he]
          have HE := Lib.hid he
          clear he
          go_wp2
          go_quiet (fail)
          go_wp2
          go_roundw
          case rel => exact ⟨k + 1, by omega, by go_num, fun j hj => by
            by_cases hjk : j < k
            · exact HALL.out j hjk
            · obtain rfl : j = k := by omega
              exact HE.out, ⟨_, rfl⟩⟩
          case measure => simp [intOf]; omega
        · have he' : (gi xs k != gi ys k) = true := by simpa using he
          go_wp2
          go_quiet (fail)
          go_wp2
          go_ret
          exact ⟨ret_bool (eqI_no he).symm, Quiet.two _ _ _⟩
      · obtain rfl : k = n := by omega
        go_wp2
        go_ret
        exact ⟨ret_bool (eqI_yes (by rw [Lx.out, Ly.out]) fun j hj => HALL.out j (by rw [Lx.out] at hj; exact hj)).symm, ⟨_, rfl⟩⟩
  · go_enter Try.func15, Try.ntmps15
    go_wp2
    go_ret
    exact ⟨ret_bool (eqI_len (by rw [Lx.out, Ly.out]; exact hnm)).symm, Quiet.refl _⟩

end Go.Proofs.Ytolnbkplgnpfjaa

/- Fractions with greater numbers, by the laws. -/
namespace Go.Proofs.Ytolnbkplgnpfjaa
open Go.RowKit

def Big (x : Int) : Prop := -100000000000000000 ≤ x ∧ x ≤ 100000000000000000
theorem Big.tmod {x y : Int} (h : Big x) : Big (x.tmod y) := by
  unfold Big at *
  have h1 := Int.natAbs_tmod x y
  have h2 : x.natAbs % y.natAbs ≤ x.natAbs := Nat.mod_le _ _
  omega
set_option maxHeartbeats 400000 in
theorem divisorG_any (a b : Int) (w : World) (ha : Big a) (hb : Big b) :
    Calls Try.prog 88 #[.int .i64 a, .int .i64 b] w fun e w' => e = .returned (.int .i64 (gcdI a b)) ∧ Quiet w w' := by
  have HA := Lib.hid ha
  have HB := Lib.hid hb
  clear ha hb
  go_enter Try.func88, Try.ntmps88
  go_wp2
  go_loopw [0, 1] (fun s t wr => ∃ x y : Int, s = .int .i64 x ∧ t = .int .i64 y ∧ Hid (Big x) ∧ Hid (Big y) ∧ Hid (gcdI x y = gcdI a b) ∧ Quiet w wr) (fun _ t _ => (intOf t).natAbs)
  case atStart => exact ⟨a, b, rfl, rfl, HA, HB, Lib.hid rfl, Quiet.refl _⟩
  case round =>
    obtain ⟨x, y, rfl, rfl, HX, HY, HG, q, rfl⟩ := hrel
    obtain ⟨x1, x2⟩ := HX.out
    obtain ⟨y1, y2⟩ := HY.out
    by_cases hy : y = 0
    · subst hy
      have hg := Lib.hid (gcdI_zero x)
      go_wp2
      all_goals go_ret
      all_goals exact ⟨ret_int (by rw [← HG.out, hg.out]; omega), ⟨_, rfl⟩⟩
    · have hy' : (y != 0) = true := by simpa using hy
      have HM := Lib.hid (HX.out.tmod (y := y))
      have HS := Lib.hid (gcdI_step x y)
      have HT := Lib.hid (tmod_abs (a := x) hy)
      go_wp2
      go_roundw
      case rel => exact ⟨y, x.tmod y, rfl, rfl, HY, HM, Lib.hid (HS.out.trans HG.out), ⟨_, rfl⟩⟩
      case measure => have := HT.out; simpa [intOf] using this

set_option maxHeartbeats 1000000 in
theorem fracOfG_any (u d : Int) (w : World) (hu : Big u) (hd : Big d) (h1 : 1 ≤ d) :
    Calls Try.prog 30 #[.int .i64 u, .int .i64 d] w (Ret (frV u d) w) := by
  have HQ := Lib.hid (fun W => divisorG_any u d W hu hd)
  have hg1 := gcdI_pos (a := u) (b := d) (by omega)
  have hg2 := gcdI_le (a := u) (b := d) (by omega)
  obtain ⟨u1, u2⟩ := hu
  obtain ⟨d1, d2⟩ := hd
  have hB := Lib.hid (below_alloc w (.cells #[.int .i64 0, .int .i64 0] 39))
  go_enter Try.func30, Try.ntmps30
  go_wp2_with fail
  refine (HQ.out _).mono ?_
  rintro e w2 ⟨rfl, hq⟩
  have HFU : Hid (frU u d = u.tdiv (gcdI u d)) := Lib.hid rfl
  have HFD : Hid (frD u d = d / gcdI u d) := Lib.hid (by unfold frD; rw [Int.tdiv_eq_ediv_of_nonneg (by omega)])
  have b0 := blk_quiet (blk_new w 39 #[.int .i64 0, .int .i64 0]) hq
  have HBW := Lib.hid (below_quiet hB.out hq)
  clear hq hB HQ
  generalize gcdI u d = g at *
  have c0 := blk_cell b0 (i := 0) rfl
  have c1 := blk_cell b0 (i := 1) rfl
  have f0 := blk_frozen b0 0
  have f1 := blk_frozen b0 1
  have g0 : (g == 0) = false := by simp; omega
  go_wp2
  go_region
  all_goals clear c0 c1 f0 f1
  all_goals go_wp2
  have B1 := blk_set (blk_set b0 0 (.int .i64 (u.tdiv g))) 1 (.int .i64 (d / g))
  have r0 := blk_cell B1 (i := 0) (v := .int .i64 (u.tdiv g)) rfl
  have r1 := blk_cell B1 (i := 1) (v := .int .i64 (d / g)) rfl
  have HBX := Lib.hid ((HBW.out.setCell (p := ⟨w.heap.size, 0, none⟩) (Nat.le_refl _) (.int .i64 (u.tdiv g))).setCell (p := ⟨w.heap.size, 1, none⟩) (Nat.le_refl _) (.int .i64 (d / g))).drew
  replace r0 : ((w2.setCell ⟨w.heap.size, 0, none⟩ (.int .i64 (u.tdiv g))).setCell ⟨w.heap.size, 1, none⟩ (.int .i64 (d / g))).drew.cell? ⟨w.heap.size, 0, none⟩ = some (.int .i64 (u.tdiv g)) := r0
  replace r1 : ((w2.setCell ⟨w.heap.size, 0, none⟩ (.int .i64 (u.tdiv g))).setCell ⟨w.heap.size, 1, none⟩ (.int .i64 (d / g))).drew.cell? ⟨w.heap.size, 1, none⟩ = some (.int .i64 (d / g)) := r1
  clear B1 b0 HBW
  generalize ((w2.setCell ⟨w.heap.size, 0, none⟩ (.int .i64 (u.tdiv g))).setCell ⟨w.heap.size, 1, none⟩ (.int .i64 (d / g))).drew = W3 at *
  refine bodyPost_ret (v := .agg #[.int .i64 (u.tdiv g), .int .i64 (d / g)]) (by simp [results, Try.results30, go_sem, r0, r1]) rfl ?_
  exact ⟨by rw [frV, HFU.out, HFD.out], HBX.out⟩
set_option maxHeartbeats 1000000 in
theorem plusOfG_any (u d v e : Int) (w : World) (hu : -100000000 ≤ u ∧ u ≤ 100000000) (hv : -100000000 ≤ v ∧ v ≤ 100000000) (hd : 1 ≤ d ∧ d ≤ 100000000) (he : 1 ≤ e ∧ e ≤ 100000000) (hm : Big (u * e + v * d)) :
    Calls Try.prog 31 #[.agg #[.int .i64 u, .int .i64 d], .agg #[.int .i64 v, .int .i64 e]] w (Ret (frV (u * e + v * d) (d * e)) w) := by
  obtain ⟨p1, p2⟩ := mulbd (x := u) (y := e) (A := 100000000) (B := 100000000) hu (by omega)
  obtain ⟨p3, p4⟩ := mulbd (x := v) (y := d) (A := 100000000) (B := 100000000) hv (by omega)
  obtain ⟨p5, p6⟩ := mulbd (x := d) (y := e) (A := 100000000) (B := 100000000) (by omega) (by omega)
  obtain ⟨p7, p8⟩ := mulbd (x := u) (y := v) (A := 100000000) (B := 100000000) hu hv
  have p9 : 1 ≤ d * e := by have h : 1 * 1 ≤ d * e := Int.mul_le_mul hd.1 he.1 (by omega) (by omega); omega
  have HC := Lib.hid (fun W => fracOfG_any (u * e + v * d) (d * e) W hm (by unfold Big; omega) p9)
  have b0 := blk_old (blk_old (blk_new w 39 #[.int .i64 u, .int .i64 d]) (.cells #[.int .i64 v, .int .i64 e] 39)) (.cells #[.int .i64 0, .int .i64 0] 39)
  have b1 := blk_old (blk_new (w.alloc (.cells #[.int .i64 u, .int .i64 d] 39)) 39 #[.int .i64 v, .int .i64 e]) (.cells #[.int .i64 0, .int .i64 0] 39)
  have b2 := blk_new ((w.alloc (.cells #[.int .i64 u, .int .i64 d] 39)).alloc (.cells #[.int .i64 v, .int .i64 e] 39)) 39 #[.int .i64 0, .int .i64 0]
  have HB := Lib.hid (below_up (below_up (below_alloc w (.cells #[.int .i64 u, .int .i64 d] 39)) (below_alloc _ (.cells #[.int .i64 v, .int .i64 e] 39))) (below_alloc _ (.cells #[.int .i64 0, .int .i64 0] 39)))
  have HFV : Hid (frV (u * e + v * d) (d * e) = .agg #[.int .i64 (frU (u * e + v * d) (d * e)), .int .i64 (frD (u * e + v * d) (d * e))]) := Lib.hid rfl
  rw [HFV.out] at HC
  simp only [World.size_alloc] at b1 b2
  have c0 := blk_cell b0 (i := 0) rfl
  have c1 := blk_cell b0 (i := 1) rfl
  have c2 := blk_cell b1 (i := 0) rfl
  have c3 := blk_cell b1 (i := 1) rfl
  have HB2 := Lib.hid b2
  clear b0 b1 b2
  go_enter Try.func31, Try.ntmps31
  go_wp2_with fail
  clear c0 c1 c2 c3
  generalize ((w.alloc (.cells #[.int .i64 u, .int .i64 d] 39)).alloc (.cells #[.int .i64 v, .int .i64 e] 39)).alloc (.cells #[.int .i64 0, .int .i64 0] 39) = w1 at *
  refine (HC.out _).mono ?_
  rintro e w2 ⟨rfl, hb⟩
  have b0 := blk_below HB2.out hb
  have HBW := Lib.hid (below_up HB.out hb)
  clear hb HC HB HB2
  generalize frU (u * e + v * d) (d * e) = U at *
  generalize frD (u * e + v * d) (d * e) = D at *
  have c0 := blk_cell b0 (i := 0) rfl
  have c1 := blk_cell b0 (i := 1) rfl
  have f0 := blk_frozen b0 0
  have f1 := blk_frozen b0 1
  go_wp2
  clear c0 c1 f0 f1
  have B1 := blk_set (blk_set b0 0 (.int .i64 U)) 1 (.int .i64 D)
  have r0 := blk_cell B1 (i := 0) (v := .int .i64 U) rfl
  have r1 := blk_cell B1 (i := 1) (v := .int .i64 D) rfl
  have hle : w.heap.size ≤ w.heap.size + 1 + 1 := by omega
  have HBX := Lib.hid ((HBW.out.setCell (p := ⟨w.heap.size + 1 + 1, 0, none⟩) hle (.int .i64 U)).setCell (p := ⟨w.heap.size + 1 + 1, 1, none⟩) hle (.int .i64 D))
  clear B1 b0 HBW
  generalize (w2.setCell ⟨w.heap.size + 1 + 1, 0, none⟩ (.int .i64 U)).setCell ⟨w.heap.size + 1 + 1, 1, none⟩ (.int .i64 D) = WE at *
  refine bodyPost_ret (v := .agg #[.int .i64 U, .int .i64 D]) (by simp [results, Try.results31, go_sem, r0, r1]) rfl ?_
  exact ⟨by rw [HFV.out], HBX.out⟩
set_option maxHeartbeats 100000000 in
theorem timesOfG_any (u d v e : Int) (w : World) (hu : -100000000 ≤ u ∧ u ≤ 100000000) (hv : -100000000 ≤ v ∧ v ≤ 100000000) (hd : 1 ≤ d ∧ d ≤ 100000000) (he : 1 ≤ e ∧ e ≤ 100000000) :
    Calls Try.prog 24 #[.agg #[.int .i64 u, .int .i64 d], .agg #[.int .i64 v, .int .i64 e]] w (Ret (frV (u * v) (d * e)) w) := by
  obtain ⟨p1, p2⟩ := mulbd (x := u) (y := e) (A := 100000000) (B := 100000000) hu (by omega)
  obtain ⟨p3, p4⟩ := mulbd (x := v) (y := d) (A := 100000000) (B := 100000000) hv (by omega)
  obtain ⟨p5, p6⟩ := mulbd (x := d) (y := e) (A := 100000000) (B := 100000000) (by omega) (by omega)
  obtain ⟨p7, p8⟩ := mulbd (x := u) (y := v) (A := 100000000) (B := 100000000) hu hv
  have p9 : 1 ≤ d * e := by have h : 1 * 1 ≤ d * e := Int.mul_le_mul hd.1 he.1 (by omega) (by omega); omega
  have HC := Lib.hid (fun W => fracOfG_any (u * v) (d * e) W (by unfold Big; omega) (by unfold Big; omega) p9)
  have b0 := blk_old (blk_old (blk_new w 39 #[.int .i64 u, .int .i64 d]) (.cells #[.int .i64 v, .int .i64 e] 39)) (.cells #[.int .i64 0, .int .i64 0] 39)
  have b1 := blk_old (blk_new (w.alloc (.cells #[.int .i64 u, .int .i64 d] 39)) 39 #[.int .i64 v, .int .i64 e]) (.cells #[.int .i64 0, .int .i64 0] 39)
  have b2 := blk_new ((w.alloc (.cells #[.int .i64 u, .int .i64 d] 39)).alloc (.cells #[.int .i64 v, .int .i64 e] 39)) 39 #[.int .i64 0, .int .i64 0]
  have HB := Lib.hid (below_up (below_up (below_alloc w (.cells #[.int .i64 u, .int .i64 d] 39)) (below_alloc _ (.cells #[.int .i64 v, .int .i64 e] 39))) (below_alloc _ (.cells #[.int .i64 0, .int .i64 0] 39)))
  have HFV : Hid (frV (u * v) (d * e) = .agg #[.int .i64 (frU (u * v) (d * e)), .int .i64 (frD (u * v) (d * e))]) := Lib.hid rfl
  rw [HFV.out] at HC
  simp only [World.size_alloc] at b1 b2
  have c0 := blk_cell b0 (i := 0) rfl
  have c1 := blk_cell b0 (i := 1) rfl
  have c2 := blk_cell b1 (i := 0) rfl
  have c3 := blk_cell b1 (i := 1) rfl
  have HB2 := Lib.hid b2
  clear b0 b1 b2
  go_enter Try.func24, Try.ntmps24
  go_wp2_with fail
  clear c0 c1 c2 c3
  generalize ((w.alloc (.cells #[.int .i64 u, .int .i64 d] 39)).alloc (.cells #[.int .i64 v, .int .i64 e] 39)).alloc (.cells #[.int .i64 0, .int .i64 0] 39) = w1 at *
  refine (HC.out _).mono ?_
  rintro e w2 ⟨rfl, hb⟩
  have b0 := blk_below HB2.out hb
  have HBW := Lib.hid (below_up HB.out hb)
  clear hb HC HB HB2
  generalize frU (u * v) (d * e) = U at *
  generalize frD (u * v) (d * e) = D at *
  have c0 := blk_cell b0 (i := 0) rfl
  have c1 := blk_cell b0 (i := 1) rfl
  have f0 := blk_frozen b0 0
  have f1 := blk_frozen b0 1
  go_wp2
  clear c0 c1 f0 f1
  have B1 := blk_set (blk_set b0 0 (.int .i64 U)) 1 (.int .i64 D)
  have r0 := blk_cell B1 (i := 0) (v := .int .i64 U) rfl
  have r1 := blk_cell B1 (i := 1) (v := .int .i64 D) rfl
  have hle : w.heap.size ≤ w.heap.size + 1 + 1 := by omega
  have HBX := Lib.hid ((HBW.out.setCell (p := ⟨w.heap.size + 1 + 1, 0, none⟩) hle (.int .i64 U)).setCell (p := ⟨w.heap.size + 1 + 1, 1, none⟩) hle (.int .i64 D))
  clear B1 b0 HBW
  generalize (w2.setCell ⟨w.heap.size + 1 + 1, 0, none⟩ (.int .i64 U)).setCell ⟨w.heap.size + 1 + 1, 1, none⟩ (.int .i64 D) = WE at *
  refine bodyPost_ret (v := .agg #[.int .i64 U, .int .i64 D]) (by simp [results, Try.results24, go_sem, r0, r1]) rfl ?_
  exact ⟨by rw [HFV.out], HBX.out⟩
end Go.Proofs.Ytolnbkplgnpfjaa

/- Fractions of greater numbers, by the model and by the laws. -/
namespace Go.Proofs.Ytolnbkplgnpfjaa
open Go.RowKit

def Hug (x : Int) : Prop := -4000000000000000000 ≤ x ∧ x ≤ 4000000000000000000
theorem Hug.tmod {x y : Int} (h : Hug x) : Hug (x.tmod y) := by
  unfold Hug at *
  have h1 := Int.natAbs_tmod x y
  have h2 : x.natAbs % y.natAbs ≤ x.natAbs := Nat.mod_le _ _
  omega
theorem hmul {x y : Int} (hx : -1200000000 ≤ x ∧ x ≤ 1200000000) (hy : -1200000000 ≤ y ∧ y ≤ 1200000000) : -1440000000000000000 ≤ x * y ∧ x * y ≤ 1440000000000000000 := mulbd (A := 1200000000) (B := 1200000000) hx hy
set_option maxHeartbeats 400000 in
theorem gcdH_any (a b : Int) (w : World) (ha : Hug a) (hb : Hug b) :
    Calls Try.prog 117 #[.int .i64 a, .int .i64 b] w fun e w' => e = .returned (.int .i64 (gcdI a b)) ∧ Quiet w w' := by
  have HA := Lib.hid ha
  have HB := Lib.hid hb
  clear ha hb
  go_enter Try.func117, Try.ntmps117
  go_wp2
  go_loopw [0, 1] (fun s t wr => ∃ x y : Int, s = .int .i64 x ∧ t = .int .i64 y ∧ Hid (Hug x) ∧ Hid (Hug y) ∧ Hid (gcdI x y = gcdI a b) ∧ Quiet w wr) (fun _ t _ => (intOf t).natAbs)
  case atStart => exact ⟨a, b, rfl, rfl, HA, HB, Lib.hid rfl, Quiet.refl _⟩
  case round =>
    obtain ⟨x, y, rfl, rfl, HX, HY, HG, q, rfl⟩ := hrel
    obtain ⟨x1, x2⟩ := HX.out
    obtain ⟨y1, y2⟩ := HY.out
    by_cases hy : y = 0
    · subst hy
      have hg := Lib.hid (gcdI_zero x)
      go_wp2
      all_goals go_ret
      all_goals exact ⟨ret_int (by rw [← HG.out, hg.out]; omega), ⟨_, rfl⟩⟩
    · have hy' : (y != 0) = true := by simpa using hy
      have HM := Lib.hid (HX.out.tmod (y := y))
      have HS := Lib.hid (gcdI_step x y)
      have HT := Lib.hid (tmod_abs (a := x) hy)
      go_wp2
      go_roundw
      case rel => exact ⟨y, x.tmod y, rfl, rfl, HY, HM, Lib.hid (HS.out.trans HG.out), ⟨_, rfl⟩⟩
      case measure => have := HT.out; simpa [intOf] using this
set_option maxHeartbeats 1000000 in
theorem fracH_any (u d : Int) (w : World) (hu : Hug u) (hd : Hug d) (h1 : 1 ≤ d) :
    Calls Try.prog 77 #[.int .i64 u, .int .i64 d] w (Ret (frV u d) w) := by
  have HQ := Lib.hid (fun W => gcdH_any u d W hu hd)
  have hg1 := gcdI_pos (a := u) (b := d) (by omega)
  have hg2 := gcdI_le (a := u) (b := d) (by omega)
  have HUB := Lib.hid (frU_bd (u := u) (d := d) (B := 4000000000000000000) (by omega) hu)
  have HDB := Lib.hid (frD_bd (u := u) (d := d) (B := 4000000000000000000) (by omega) hd.2)
  obtain ⟨u1, u2⟩ := hu
  obtain ⟨d1, d2⟩ := hd
  have hB := Lib.hid (below_alloc w (.cells #[.int .i64 0, .int .i64 0] 39))
  go_enter Try.func77, Try.ntmps77
  go_wp2_with fail
  refine (HQ.out _).mono ?_
  rintro e w2 ⟨rfl, q2, rfl⟩
  have HFU : Hid (frU u d = u.tdiv (gcdI u d)) := Lib.hid rfl
  have HFD : Hid (frD u d = d / gcdI u d) := Lib.hid (by unfold frD; rw [Int.tdiv_eq_ediv_of_nonneg (by omega)])
  generalize gcdI u d = g at *
  have b0 : Blk ((w.alloc (.cells #[.int .i64 0, .int .i64 0] 39)).drewN q2) w.heap.size 39 #[.int .i64 0, .int .i64 0] := blk_new w _ _
  have c0 := blk_cell b0 (i := 0) rfl
  have c1 := blk_cell b0 (i := 1) rfl
  have f0 := blk_frozen b0 0
  have f1 := blk_frozen b0 1
  have g0 : (g == 0) = false := by simp; omega
  go_wp2
  go_region
  all_goals clear c0 c1 f0 f1
  all_goals go_wp2
  have B1 := blk_set (blk_set (show Blk ((w.alloc (.cells #[.int .i64 0, .int .i64 0] 39)).drewN (q2 + 1)) w.heap.size 39 #[.int .i64 0, .int .i64 0] from blk_new w _ _) 0 (.int .i64 (u.tdiv g))) 1 (.int .i64 (d / g))
  have r0 := blk_cell B1 (i := 0) (v := .int .i64 (u.tdiv g)) rfl
  have r1 := blk_cell B1 (i := 1) (v := .int .i64 (d / g)) rfl
  have HBW := Lib.hid (((below_drewN hB.out (q2 + 1)).setCell (p := ⟨w.heap.size, 0, none⟩) (Nat.le_refl _) (.int .i64 (u.tdiv g))).setCell (p := ⟨w.heap.size, 1, none⟩) (Nat.le_refl _) (.int .i64 (d / g)))
  clear B1 b0
  generalize (((w.alloc (.cells #[.int .i64 0, .int .i64 0] 39)).drewN (q2 + 1)).setCell ⟨w.heap.size, 0, none⟩ (.int .i64 (u.tdiv g))).setCell ⟨w.heap.size, 1, none⟩ (.int .i64 (d / g)) = W3 at *
  refine bodyPost_ret (v := .agg #[.int .i64 (u.tdiv g), .int .i64 (d / g)]) (by simp [results, Try.results77, go_sem, r0, r1]) rfl ?_
  exact ⟨by rw [frV, HFU.out, HFD.out], HBW.out⟩
set_option maxHeartbeats 400000 in
theorem divisorH_any (a b : Int) (w : World) (ha : Hug a) (hb : Hug b) :
    Calls Try.prog 88 #[.int .i64 a, .int .i64 b] w fun e w' => e = .returned (.int .i64 (gcdI a b)) ∧ Quiet w w' := by
  have HA := Lib.hid ha
  have HB := Lib.hid hb
  clear ha hb
  go_enter Try.func88, Try.ntmps88
  go_wp2
  go_loopw [0, 1] (fun s t wr => ∃ x y : Int, s = .int .i64 x ∧ t = .int .i64 y ∧ Hid (Hug x) ∧ Hid (Hug y) ∧ Hid (gcdI x y = gcdI a b) ∧ Quiet w wr) (fun _ t _ => (intOf t).natAbs)
  case atStart => exact ⟨a, b, rfl, rfl, HA, HB, Lib.hid rfl, Quiet.refl _⟩
  case round =>
    obtain ⟨x, y, rfl, rfl, HX, HY, HG, q, rfl⟩ := hrel
    obtain ⟨x1, x2⟩ := HX.out
    obtain ⟨y1, y2⟩ := HY.out
    by_cases hy : y = 0
    · subst hy
      have hg := Lib.hid (gcdI_zero x)
      go_wp2
      all_goals go_ret
      all_goals exact ⟨ret_int (by rw [← HG.out, hg.out]; omega), ⟨_, rfl⟩⟩
    · have hy' : (y != 0) = true := by simpa using hy
      have HM := Lib.hid (HX.out.tmod (y := y))
      have HS := Lib.hid (gcdI_step x y)
      have HT := Lib.hid (tmod_abs (a := x) hy)
      go_wp2
      go_roundw
      case rel => exact ⟨y, x.tmod y, rfl, rfl, HY, HM, Lib.hid (HS.out.trans HG.out), ⟨_, rfl⟩⟩
      case measure => have := HT.out; simpa [intOf] using this
set_option maxHeartbeats 1000000 in
theorem fracOfH_any (u d : Int) (w : World) (hu : Hug u) (hd : Hug d) (h1 : 1 ≤ d) :
    Calls Try.prog 30 #[.int .i64 u, .int .i64 d] w (Ret (frV u d) w) := by
  have HQ := Lib.hid (fun W => divisorH_any u d W hu hd)
  have hg1 := gcdI_pos (a := u) (b := d) (by omega)
  have hg2 := gcdI_le (a := u) (b := d) (by omega)
  obtain ⟨u1, u2⟩ := hu
  obtain ⟨d1, d2⟩ := hd
  have hB := Lib.hid (below_alloc w (.cells #[.int .i64 0, .int .i64 0] 39))
  go_enter Try.func30, Try.ntmps30
  go_wp2_with fail
  refine (HQ.out _).mono ?_
  rintro e w2 ⟨rfl, hq⟩
  have HFU : Hid (frU u d = u.tdiv (gcdI u d)) := Lib.hid rfl
  have HFD : Hid (frD u d = d / gcdI u d) := Lib.hid (by unfold frD; rw [Int.tdiv_eq_ediv_of_nonneg (by omega)])
  have b0 := blk_quiet (blk_new w 39 #[.int .i64 0, .int .i64 0]) hq
  have HBW := Lib.hid (below_quiet hB.out hq)
  clear hq hB HQ
  generalize gcdI u d = g at *
  have c0 := blk_cell b0 (i := 0) rfl
  have c1 := blk_cell b0 (i := 1) rfl
  have f0 := blk_frozen b0 0
  have f1 := blk_frozen b0 1
  have g0 : (g == 0) = false := by simp; omega
  go_wp2
  go_region
  all_goals clear c0 c1 f0 f1
  all_goals go_wp2
  have B1 := blk_set (blk_set b0 0 (.int .i64 (u.tdiv g))) 1 (.int .i64 (d / g))
  have r0 := blk_cell B1 (i := 0) (v := .int .i64 (u.tdiv g)) rfl
  have r1 := blk_cell B1 (i := 1) (v := .int .i64 (d / g)) rfl
  have HBX := Lib.hid ((HBW.out.setCell (p := ⟨w.heap.size, 0, none⟩) (Nat.le_refl _) (.int .i64 (u.tdiv g))).setCell (p := ⟨w.heap.size, 1, none⟩) (Nat.le_refl _) (.int .i64 (d / g))).drew
  replace r0 : ((w2.setCell ⟨w.heap.size, 0, none⟩ (.int .i64 (u.tdiv g))).setCell ⟨w.heap.size, 1, none⟩ (.int .i64 (d / g))).drew.cell? ⟨w.heap.size, 0, none⟩ = some (.int .i64 (u.tdiv g)) := r0
  replace r1 : ((w2.setCell ⟨w.heap.size, 0, none⟩ (.int .i64 (u.tdiv g))).setCell ⟨w.heap.size, 1, none⟩ (.int .i64 (d / g))).drew.cell? ⟨w.heap.size, 1, none⟩ = some (.int .i64 (d / g)) := r1
  clear B1 b0 HBW
  generalize ((w2.setCell ⟨w.heap.size, 0, none⟩ (.int .i64 (u.tdiv g))).setCell ⟨w.heap.size, 1, none⟩ (.int .i64 (d / g))).drew = W3 at *
  refine bodyPost_ret (v := .agg #[.int .i64 (u.tdiv g), .int .i64 (d / g)]) (by simp [results, Try.results30, go_sem, r0, r1]) rfl ?_
  exact ⟨by rw [frV, HFU.out, HFD.out], HBX.out⟩
set_option maxHeartbeats 1000000 in
theorem plusOfH_any (u d v e : Int) (w : World) (hu : -1200000000 ≤ u ∧ u ≤ 1200000000) (hv : -1200000000 ≤ v ∧ v ≤ 1200000000) (hd : 1 ≤ d ∧ d ≤ 1200000000) (he : 1 ≤ e ∧ e ≤ 1200000000) :
    Calls Try.prog 31 #[.agg #[.int .i64 u, .int .i64 d], .agg #[.int .i64 v, .int .i64 e]] w (Ret (frV (u * e + v * d) (d * e)) w) := by
  obtain ⟨p1, p2⟩ := mulbd (x := u) (y := e) (A := 1200000000) (B := 1200000000) hu (by omega)
  obtain ⟨p3, p4⟩ := mulbd (x := v) (y := d) (A := 1200000000) (B := 1200000000) hv (by omega)
  obtain ⟨p5, p6⟩ := mulbd (x := d) (y := e) (A := 1200000000) (B := 1200000000) (by omega) (by omega)
  obtain ⟨p7, p8⟩ := mulbd (x := u) (y := v) (A := 1200000000) (B := 1200000000) hu hv
  have p9 : 1 ≤ d * e := by have h : 1 * 1 ≤ d * e := Int.mul_le_mul hd.1 he.1 (by omega) (by omega); omega
  have HC := Lib.hid (fun W => fracOfH_any (u * e + v * d) (d * e) W (by unfold Hug; omega) (by unfold Hug; omega) p9)
  have b0 := blk_old (blk_old (blk_new w 39 #[.int .i64 u, .int .i64 d]) (.cells #[.int .i64 v, .int .i64 e] 39)) (.cells #[.int .i64 0, .int .i64 0] 39)
  have b1 := blk_old (blk_new (w.alloc (.cells #[.int .i64 u, .int .i64 d] 39)) 39 #[.int .i64 v, .int .i64 e]) (.cells #[.int .i64 0, .int .i64 0] 39)
  have b2 := blk_new ((w.alloc (.cells #[.int .i64 u, .int .i64 d] 39)).alloc (.cells #[.int .i64 v, .int .i64 e] 39)) 39 #[.int .i64 0, .int .i64 0]
  have HB := Lib.hid (below_up (below_up (below_alloc w (.cells #[.int .i64 u, .int .i64 d] 39)) (below_alloc _ (.cells #[.int .i64 v, .int .i64 e] 39))) (below_alloc _ (.cells #[.int .i64 0, .int .i64 0] 39)))
  have HFV : Hid (frV (u * e + v * d) (d * e) = .agg #[.int .i64 (frU (u * e + v * d) (d * e)), .int .i64 (frD (u * e + v * d) (d * e))]) := Lib.hid rfl
  rw [HFV.out] at HC
  simp only [World.size_alloc] at b1 b2
  have c0 := blk_cell b0 (i := 0) rfl
  have c1 := blk_cell b0 (i := 1) rfl
  have c2 := blk_cell b1 (i := 0) rfl
  have c3 := blk_cell b1 (i := 1) rfl
  have HB2 := Lib.hid b2
  clear b0 b1 b2
  go_enter Try.func31, Try.ntmps31
  go_wp2_with fail
  clear c0 c1 c2 c3
  generalize ((w.alloc (.cells #[.int .i64 u, .int .i64 d] 39)).alloc (.cells #[.int .i64 v, .int .i64 e] 39)).alloc (.cells #[.int .i64 0, .int .i64 0] 39) = w1 at *
  refine (HC.out _).mono ?_
  rintro e w2 ⟨rfl, hb⟩
  have b0 := blk_below HB2.out hb
  have HBW := Lib.hid (below_up HB.out hb)
  clear hb HC HB HB2
  generalize frU (u * e + v * d) (d * e) = U at *
  generalize frD (u * e + v * d) (d * e) = D at *
  have c0 := blk_cell b0 (i := 0) rfl
  have c1 := blk_cell b0 (i := 1) rfl
  have f0 := blk_frozen b0 0
  have f1 := blk_frozen b0 1
  go_wp2
  clear c0 c1 f0 f1
  have B1 := blk_set (blk_set b0 0 (.int .i64 U)) 1 (.int .i64 D)
  have r0 := blk_cell B1 (i := 0) (v := .int .i64 U) rfl
  have r1 := blk_cell B1 (i := 1) (v := .int .i64 D) rfl
  have hle : w.heap.size ≤ w.heap.size + 1 + 1 := by omega
  have HBX := Lib.hid ((HBW.out.setCell (p := ⟨w.heap.size + 1 + 1, 0, none⟩) hle (.int .i64 U)).setCell (p := ⟨w.heap.size + 1 + 1, 1, none⟩) hle (.int .i64 D))
  clear B1 b0 HBW
  generalize (w2.setCell ⟨w.heap.size + 1 + 1, 0, none⟩ (.int .i64 U)).setCell ⟨w.heap.size + 1 + 1, 1, none⟩ (.int .i64 D) = WE at *
  refine bodyPost_ret (v := .agg #[.int .i64 U, .int .i64 D]) (by simp [results, Try.results31, go_sem, r0, r1]) rfl ?_
  exact ⟨by rw [HFV.out], HBX.out⟩
set_option maxHeartbeats 1000000 in
theorem timesOfH_any (u d v e : Int) (w : World) (hu : -1200000000 ≤ u ∧ u ≤ 1200000000) (hv : -1200000000 ≤ v ∧ v ≤ 1200000000) (hd : 1 ≤ d ∧ d ≤ 1200000000) (he : 1 ≤ e ∧ e ≤ 1200000000) :
    Calls Try.prog 24 #[.agg #[.int .i64 u, .int .i64 d], .agg #[.int .i64 v, .int .i64 e]] w (Ret (frV (u * v) (d * e)) w) := by
  obtain ⟨p1, p2⟩ := mulbd (x := u) (y := e) (A := 1200000000) (B := 1200000000) hu (by omega)
  obtain ⟨p3, p4⟩ := mulbd (x := v) (y := d) (A := 1200000000) (B := 1200000000) hv (by omega)
  obtain ⟨p5, p6⟩ := mulbd (x := d) (y := e) (A := 1200000000) (B := 1200000000) (by omega) (by omega)
  obtain ⟨p7, p8⟩ := mulbd (x := u) (y := v) (A := 1200000000) (B := 1200000000) hu hv
  have p9 : 1 ≤ d * e := by have h : 1 * 1 ≤ d * e := Int.mul_le_mul hd.1 he.1 (by omega) (by omega); omega
  have HC := Lib.hid (fun W => fracOfH_any (u * v) (d * e) W (by unfold Hug; omega) (by unfold Hug; omega) p9)
  have b0 := blk_old (blk_old (blk_new w 39 #[.int .i64 u, .int .i64 d]) (.cells #[.int .i64 v, .int .i64 e] 39)) (.cells #[.int .i64 0, .int .i64 0] 39)
  have b1 := blk_old (blk_new (w.alloc (.cells #[.int .i64 u, .int .i64 d] 39)) 39 #[.int .i64 v, .int .i64 e]) (.cells #[.int .i64 0, .int .i64 0] 39)
  have b2 := blk_new ((w.alloc (.cells #[.int .i64 u, .int .i64 d] 39)).alloc (.cells #[.int .i64 v, .int .i64 e] 39)) 39 #[.int .i64 0, .int .i64 0]
  have HB := Lib.hid (below_up (below_up (below_alloc w (.cells #[.int .i64 u, .int .i64 d] 39)) (below_alloc _ (.cells #[.int .i64 v, .int .i64 e] 39))) (below_alloc _ (.cells #[.int .i64 0, .int .i64 0] 39)))
  have HFV : Hid (frV (u * v) (d * e) = .agg #[.int .i64 (frU (u * v) (d * e)), .int .i64 (frD (u * v) (d * e))]) := Lib.hid rfl
  rw [HFV.out] at HC
  simp only [World.size_alloc] at b1 b2
  have c0 := blk_cell b0 (i := 0) rfl
  have c1 := blk_cell b0 (i := 1) rfl
  have c2 := blk_cell b1 (i := 0) rfl
  have c3 := blk_cell b1 (i := 1) rfl
  have HB2 := Lib.hid b2
  clear b0 b1 b2
  go_enter Try.func24, Try.ntmps24
  go_wp2_with fail
  clear c0 c1 c2 c3
  generalize ((w.alloc (.cells #[.int .i64 u, .int .i64 d] 39)).alloc (.cells #[.int .i64 v, .int .i64 e] 39)).alloc (.cells #[.int .i64 0, .int .i64 0] 39) = w1 at *
  refine (HC.out _).mono ?_
  rintro e w2 ⟨rfl, hb⟩
  have b0 := blk_below HB2.out hb
  have HBW := Lib.hid (below_up HB.out hb)
  clear hb HC HB HB2
  generalize frU (u * v) (d * e) = U at *
  generalize frD (u * v) (d * e) = D at *
  have c0 := blk_cell b0 (i := 0) rfl
  have c1 := blk_cell b0 (i := 1) rfl
  have f0 := blk_frozen b0 0
  have f1 := blk_frozen b0 1
  go_wp2
  clear c0 c1 f0 f1
  have B1 := blk_set (blk_set b0 0 (.int .i64 U)) 1 (.int .i64 D)
  have r0 := blk_cell B1 (i := 0) (v := .int .i64 U) rfl
  have r1 := blk_cell B1 (i := 1) (v := .int .i64 D) rfl
  have hle : w.heap.size ≤ w.heap.size + 1 + 1 := by omega
  have HBX := Lib.hid ((HBW.out.setCell (p := ⟨w.heap.size + 1 + 1, 0, none⟩) hle (.int .i64 U)).setCell (p := ⟨w.heap.size + 1 + 1, 1, none⟩) hle (.int .i64 D))
  clear B1 b0 HBW
  generalize (w2.setCell ⟨w.heap.size + 1 + 1, 0, none⟩ (.int .i64 U)).setCell ⟨w.heap.size + 1 + 1, 1, none⟩ (.int .i64 D) = WE at *
  refine bodyPost_ret (v := .agg #[.int .i64 U, .int .i64 D]) (by simp [results, Try.results24, go_sem, r0, r1]) rfl ?_
  exact ⟨by rw [HFV.out], HBX.out⟩
set_option maxHeartbeats 1000000 in
theorem plusH_any (u d v e : Int) (w : World) (hu : -1200000000 ≤ u ∧ u ≤ 1200000000) (hv : -1200000000 ≤ v ∧ v ≤ 1200000000) (hd : 1 ≤ d ∧ d ≤ 1200000000) (he : 1 ≤ e ∧ e ≤ 1200000000) :
    Calls Try.prog 95 #[.agg #[.int .i64 u, .int .i64 d], .agg #[.int .i64 v, .int .i64 e]] w (Ret (frV (u * e + v * d) (d * e)) w) := by
  obtain ⟨p1, p2⟩ := mulbd (x := u) (y := e) (A := 1200000000) (B := 1200000000) hu (by omega)
  obtain ⟨p3, p4⟩ := mulbd (x := v) (y := d) (A := 1200000000) (B := 1200000000) hv (by omega)
  obtain ⟨p5, p6⟩ := mulbd (x := d) (y := e) (A := 1200000000) (B := 1200000000) (by omega) (by omega)
  obtain ⟨p7, p8⟩ := mulbd (x := u) (y := v) (A := 1200000000) (B := 1200000000) hu hv
  have p9 : 1 ≤ d * e := by have h : 1 * 1 ≤ d * e := Int.mul_le_mul hd.1 he.1 (by omega) (by omega); omega
  have HC := Lib.hid (fun W => fracH_any (u * e + v * d) (d * e) W (by unfold Hug; omega) (by unfold Hug; omega) p9)
  have b0 := blk_old (blk_old (blk_new w 39 #[.int .i64 u, .int .i64 d]) (.cells #[.int .i64 v, .int .i64 e] 39)) (.cells #[.int .i64 0, .int .i64 0] 39)
  have b1 := blk_old (blk_new (w.alloc (.cells #[.int .i64 u, .int .i64 d] 39)) 39 #[.int .i64 v, .int .i64 e]) (.cells #[.int .i64 0, .int .i64 0] 39)
  have b2 := blk_new ((w.alloc (.cells #[.int .i64 u, .int .i64 d] 39)).alloc (.cells #[.int .i64 v, .int .i64 e] 39)) 39 #[.int .i64 0, .int .i64 0]
  have HB := Lib.hid (below_up (below_up (below_alloc w (.cells #[.int .i64 u, .int .i64 d] 39)) (below_alloc _ (.cells #[.int .i64 v, .int .i64 e] 39))) (below_alloc _ (.cells #[.int .i64 0, .int .i64 0] 39)))
  have HFV : Hid (frV (u * e + v * d) (d * e) = .agg #[.int .i64 (frU (u * e + v * d) (d * e)), .int .i64 (frD (u * e + v * d) (d * e))]) := Lib.hid rfl
  rw [HFV.out] at HC
  simp only [World.size_alloc] at b1 b2
  have c0 := blk_cell b0 (i := 0) rfl
  have c1 := blk_cell b0 (i := 1) rfl
  have c2 := blk_cell b1 (i := 0) rfl
  have c3 := blk_cell b1 (i := 1) rfl
  have HB2 := Lib.hid b2
  clear b0 b1 b2
  go_enter Try.func95, Try.ntmps95
  go_wp2_with fail
  clear c0 c1 c2 c3
  generalize ((w.alloc (.cells #[.int .i64 u, .int .i64 d] 39)).alloc (.cells #[.int .i64 v, .int .i64 e] 39)).alloc (.cells #[.int .i64 0, .int .i64 0] 39) = w1 at *
  refine (HC.out _).mono ?_
  rintro e w2 ⟨rfl, hb⟩
  have b0 := blk_below HB2.out hb
  have HBW := Lib.hid (below_up HB.out hb)
  clear hb HC HB HB2
  generalize frU (u * e + v * d) (d * e) = U at *
  generalize frD (u * e + v * d) (d * e) = D at *
  have c0 := blk_cell b0 (i := 0) rfl
  have c1 := blk_cell b0 (i := 1) rfl
  have f0 := blk_frozen b0 0
  have f1 := blk_frozen b0 1
  go_wp2
  clear c0 c1 f0 f1
  have B1 := blk_set (blk_set b0 0 (.int .i64 U)) 1 (.int .i64 D)
  have r0 := blk_cell B1 (i := 0) (v := .int .i64 U) rfl
  have r1 := blk_cell B1 (i := 1) (v := .int .i64 D) rfl
  have hle : w.heap.size ≤ w.heap.size + 1 + 1 := by omega
  have HBX := Lib.hid ((HBW.out.setCell (p := ⟨w.heap.size + 1 + 1, 0, none⟩) hle (.int .i64 U)).setCell (p := ⟨w.heap.size + 1 + 1, 1, none⟩) hle (.int .i64 D))
  clear B1 b0 HBW
  generalize (w2.setCell ⟨w.heap.size + 1 + 1, 0, none⟩ (.int .i64 U)).setCell ⟨w.heap.size + 1 + 1, 1, none⟩ (.int .i64 D) = WE at *
  refine bodyPost_ret (v := .agg #[.int .i64 U, .int .i64 D]) (by simp [results, Try.results95, go_sem, r0, r1]) rfl ?_
  exact ⟨by rw [HFV.out], HBX.out⟩
set_option maxHeartbeats 1000000 in
theorem timesH_any (u d v e : Int) (w : World) (hu : -1200000000 ≤ u ∧ u ≤ 1200000000) (hv : -1200000000 ≤ v ∧ v ≤ 1200000000) (hd : 1 ≤ d ∧ d ≤ 1200000000) (he : 1 ≤ e ∧ e ≤ 1200000000) :
    Calls Try.prog 96 #[.agg #[.int .i64 u, .int .i64 d], .agg #[.int .i64 v, .int .i64 e]] w (Ret (frV (u * v) (d * e)) w) := by
  obtain ⟨p1, p2⟩ := mulbd (x := u) (y := e) (A := 1200000000) (B := 1200000000) hu (by omega)
  obtain ⟨p3, p4⟩ := mulbd (x := v) (y := d) (A := 1200000000) (B := 1200000000) hv (by omega)
  obtain ⟨p5, p6⟩ := mulbd (x := d) (y := e) (A := 1200000000) (B := 1200000000) (by omega) (by omega)
  obtain ⟨p7, p8⟩ := mulbd (x := u) (y := v) (A := 1200000000) (B := 1200000000) hu hv
  have p9 : 1 ≤ d * e := by have h : 1 * 1 ≤ d * e := Int.mul_le_mul hd.1 he.1 (by omega) (by omega); omega
  have HC := Lib.hid (fun W => fracH_any (u * v) (d * e) W (by unfold Hug; omega) (by unfold Hug; omega) p9)
  have b0 := blk_old (blk_old (blk_new w 39 #[.int .i64 u, .int .i64 d]) (.cells #[.int .i64 v, .int .i64 e] 39)) (.cells #[.int .i64 0, .int .i64 0] 39)
  have b1 := blk_old (blk_new (w.alloc (.cells #[.int .i64 u, .int .i64 d] 39)) 39 #[.int .i64 v, .int .i64 e]) (.cells #[.int .i64 0, .int .i64 0] 39)
  have b2 := blk_new ((w.alloc (.cells #[.int .i64 u, .int .i64 d] 39)).alloc (.cells #[.int .i64 v, .int .i64 e] 39)) 39 #[.int .i64 0, .int .i64 0]
  have HB := Lib.hid (below_up (below_up (below_alloc w (.cells #[.int .i64 u, .int .i64 d] 39)) (below_alloc _ (.cells #[.int .i64 v, .int .i64 e] 39))) (below_alloc _ (.cells #[.int .i64 0, .int .i64 0] 39)))
  have HFV : Hid (frV (u * v) (d * e) = .agg #[.int .i64 (frU (u * v) (d * e)), .int .i64 (frD (u * v) (d * e))]) := Lib.hid rfl
  rw [HFV.out] at HC
  simp only [World.size_alloc] at b1 b2
  have c0 := blk_cell b0 (i := 0) rfl
  have c1 := blk_cell b0 (i := 1) rfl
  have c2 := blk_cell b1 (i := 0) rfl
  have c3 := blk_cell b1 (i := 1) rfl
  have HB2 := Lib.hid b2
  clear b0 b1 b2
  go_enter Try.func96, Try.ntmps96
  go_wp2_with fail
  clear c0 c1 c2 c3
  generalize ((w.alloc (.cells #[.int .i64 u, .int .i64 d] 39)).alloc (.cells #[.int .i64 v, .int .i64 e] 39)).alloc (.cells #[.int .i64 0, .int .i64 0] 39) = w1 at *
  refine (HC.out _).mono ?_
  rintro e w2 ⟨rfl, hb⟩
  have b0 := blk_below HB2.out hb
  have HBW := Lib.hid (below_up HB.out hb)
  clear hb HC HB HB2
  generalize frU (u * v) (d * e) = U at *
  generalize frD (u * v) (d * e) = D at *
  have c0 := blk_cell b0 (i := 0) rfl
  have c1 := blk_cell b0 (i := 1) rfl
  have f0 := blk_frozen b0 0
  have f1 := blk_frozen b0 1
  go_wp2
  clear c0 c1 f0 f1
  have B1 := blk_set (blk_set b0 0 (.int .i64 U)) 1 (.int .i64 D)
  have r0 := blk_cell B1 (i := 0) (v := .int .i64 U) rfl
  have r1 := blk_cell B1 (i := 1) (v := .int .i64 D) rfl
  have hle : w.heap.size ≤ w.heap.size + 1 + 1 := by omega
  have HBX := Lib.hid ((HBW.out.setCell (p := ⟨w.heap.size + 1 + 1, 0, none⟩) hle (.int .i64 U)).setCell (p := ⟨w.heap.size + 1 + 1, 1, none⟩) hle (.int .i64 D))
  clear B1 b0 HBW
  generalize (w2.setCell ⟨w.heap.size + 1 + 1, 0, none⟩ (.int .i64 U)).setCell ⟨w.heap.size + 1 + 1, 1, none⟩ (.int .i64 D) = WE at *
  refine bodyPost_ret (v := .agg #[.int .i64 U, .int .i64 D]) (by simp [results, Try.results96, go_sem, r0, r1]) rfl ?_
  exact ⟨by rw [HFV.out], HBX.out⟩
set_option maxHeartbeats 1000000 in
theorem minusH_any (u d v e : Int) (w : World) (hu : -1200000000 ≤ u ∧ u ≤ 1200000000) (hv : -1200000000 ≤ v ∧ v ≤ 1200000000) (hd : 1 ≤ d ∧ d ≤ 1200000000) (he : 1 ≤ e ∧ e ≤ 1200000000) :
    Calls Try.prog 76 #[.agg #[.int .i64 u, .int .i64 d], .agg #[.int .i64 v, .int .i64 e]] w (Ret (frV (u * e - v * d) (d * e)) w) := by
  obtain ⟨p1, p2⟩ := mulbd (x := u) (y := e) (A := 1200000000) (B := 1200000000) hu (by omega)
  obtain ⟨p3, p4⟩ := mulbd (x := v) (y := d) (A := 1200000000) (B := 1200000000) hv (by omega)
  obtain ⟨p5, p6⟩ := mulbd (x := d) (y := e) (A := 1200000000) (B := 1200000000) (by omega) (by omega)
  obtain ⟨p7, p8⟩ := mulbd (x := u) (y := v) (A := 1200000000) (B := 1200000000) hu hv
  have p9 : 1 ≤ d * e := by have h : 1 * 1 ≤ d * e := Int.mul_le_mul hd.1 he.1 (by omega) (by omega); omega
  have HC := Lib.hid (fun W => fracH_any (u * e - v * d) (d * e) W (by unfold Hug; omega) (by unfold Hug; omega) p9)
  have b0 := blk_old (blk_old (blk_new w 39 #[.int .i64 u, .int .i64 d]) (.cells #[.int .i64 v, .int .i64 e] 39)) (.cells #[.int .i64 0, .int .i64 0] 39)
  have b1 := blk_old (blk_new (w.alloc (.cells #[.int .i64 u, .int .i64 d] 39)) 39 #[.int .i64 v, .int .i64 e]) (.cells #[.int .i64 0, .int .i64 0] 39)
  have b2 := blk_new ((w.alloc (.cells #[.int .i64 u, .int .i64 d] 39)).alloc (.cells #[.int .i64 v, .int .i64 e] 39)) 39 #[.int .i64 0, .int .i64 0]
  have HB := Lib.hid (below_up (below_up (below_alloc w (.cells #[.int .i64 u, .int .i64 d] 39)) (below_alloc _ (.cells #[.int .i64 v, .int .i64 e] 39))) (below_alloc _ (.cells #[.int .i64 0, .int .i64 0] 39)))
  have HFV : Hid (frV (u * e - v * d) (d * e) = .agg #[.int .i64 (frU (u * e - v * d) (d * e)), .int .i64 (frD (u * e - v * d) (d * e))]) := Lib.hid rfl
  rw [HFV.out] at HC
  simp only [World.size_alloc] at b1 b2
  have c0 := blk_cell b0 (i := 0) rfl
  have c1 := blk_cell b0 (i := 1) rfl
  have c2 := blk_cell b1 (i := 0) rfl
  have c3 := blk_cell b1 (i := 1) rfl
  have HB2 := Lib.hid b2
  clear b0 b1 b2
  go_enter Try.func76, Try.ntmps76
  go_wp2_with fail
  clear c0 c1 c2 c3
  generalize ((w.alloc (.cells #[.int .i64 u, .int .i64 d] 39)).alloc (.cells #[.int .i64 v, .int .i64 e] 39)).alloc (.cells #[.int .i64 0, .int .i64 0] 39) = w1 at *
  refine (HC.out _).mono ?_
  rintro e w2 ⟨rfl, hb⟩
  have b0 := blk_below HB2.out hb
  have HBW := Lib.hid (below_up HB.out hb)
  clear hb HC HB HB2
  generalize frU (u * e - v * d) (d * e) = U at *
  generalize frD (u * e - v * d) (d * e) = D at *
  have c0 := blk_cell b0 (i := 0) rfl
  have c1 := blk_cell b0 (i := 1) rfl
  have f0 := blk_frozen b0 0
  have f1 := blk_frozen b0 1
  go_wp2
  clear c0 c1 f0 f1
  have B1 := blk_set (blk_set b0 0 (.int .i64 U)) 1 (.int .i64 D)
  have r0 := blk_cell B1 (i := 0) (v := .int .i64 U) rfl
  have r1 := blk_cell B1 (i := 1) (v := .int .i64 D) rfl
  have hle : w.heap.size ≤ w.heap.size + 1 + 1 := by omega
  have HBX := Lib.hid ((HBW.out.setCell (p := ⟨w.heap.size + 1 + 1, 0, none⟩) hle (.int .i64 U)).setCell (p := ⟨w.heap.size + 1 + 1, 1, none⟩) hle (.int .i64 D))
  clear B1 b0 HBW
  generalize (w2.setCell ⟨w.heap.size + 1 + 1, 0, none⟩ (.int .i64 U)).setCell ⟨w.heap.size + 1 + 1, 1, none⟩ (.int .i64 D) = WE at *
  refine bodyPost_ret (v := .agg #[.int .i64 U, .int .i64 D]) (by simp [results, Try.results76, go_sem, r0, r1]) rfl ?_
  exact ⟨by rw [HFV.out], HBX.out⟩
set_option maxHeartbeats 400000 in
theorem lessOfH_any (u d v e : Int) (w : World) (hu : -1200000000 ≤ u ∧ u ≤ 1200000000) (hv : -1200000000 ≤ v ∧ v ≤ 1200000000) (hd : 0 ≤ d ∧ d ≤ 1200000000) (he : 0 ≤ e ∧ e ≤ 1200000000) :
    Calls Try.prog 43 #[.agg #[.int .i64 u, .int .i64 d], .agg #[.int .i64 v, .int .i64 e]] w (Ret (.bool (lessB u d v e)) w) := by
  obtain ⟨p1, p2⟩ := hmul (x := u) (y := e) hu (by omega)
  obtain ⟨p3, p4⟩ := hmul (x := v) (y := d) hv (by omega)
  have b0 := blk_old (blk_new w 39 #[.int .i64 u, .int .i64 d]) (.cells #[.int .i64 v, .int .i64 e] 39)
  have b1 := blk_new (w.alloc (.cells #[.int .i64 u, .int .i64 d] 39)) 39 #[.int .i64 v, .int .i64 e]
  have HB := Lib.hid (below_up (below_alloc w (.cells #[.int .i64 u, .int .i64 d] 39)) (below_alloc _ (.cells #[.int .i64 v, .int .i64 e] 39)))
  rw [World.size_alloc] at b1
  have c0 := blk_cell b0 (i := 0) rfl
  have c1 := blk_cell b0 (i := 1) rfl
  have c2 := blk_cell b1 (i := 0) rfl
  have c3 := blk_cell b1 (i := 1) rfl
  go_enter Try.func43, Try.ntmps43
  go_wp2
  go_ret
  exact ⟨rfl, HB.out⟩
end Go.Proofs.Ytolnbkplgnpfjaa

/- The result's box, untouched, and a fraction's box beside it. -/
namespace Go.Proofs.Ytolnbkplgnpfjaa
open Go.RowKit

/-- The result's box, untouched, and a fraction's box at r. -/
structure PX (w : World) (r : Nat) (U D : Int) (W : World) : Prop where
  p : PF w W
  b : Blk W r 39 #[.int .i64 U, .int .i64 D]
  lt : w.heap.size < r
theorem PX.next {w r U D W W'} (h : PX w r U D W) (k : Below W.heap.size W W') : PX w r U D W' := ⟨h.p.up k, blk_below h.b k, h.lt⟩
theorem PX.drew {w r U D W} (h : PX w r U D W) : PX w r U D W.drew := h.next (Quiet.below ⟨1, rfl⟩)
theorem PX.set {w r U D W} (h : PX w r U D W) (U' D' : Int) : PX w r U' D' ((W.setCell ⟨r, 0, none⟩ (.int .i64 U')).setCell ⟨r, 1, none⟩ (.int .i64 D')) := by
  have hl := h.lt
  have h1 : w.heap.size ≠ r := by omega
  have h2 : w.heap.size ≤ r := by omega
  exact ⟨⟨blk_other (blk_other h.p.box (p := ⟨r, 0, none⟩) h1 _) (p := ⟨r, 1, none⟩) h1 _, (h.p.below.setCell (p := ⟨r, 0, none⟩) h2 (.int .i64 U')).setCell (p := ⟨r, 1, none⟩) h2 (.int .i64 D')⟩, blk_set (blk_set h.b 0 (.int .i64 U')) 1 (.int .i64 D'), h.lt⟩
end Go.Proofs.Ytolnbkplgnpfjaa

/- How much more weight a set has behind one step, by the model. -/
namespace Go.Proofs.Ytolnbkplgnpfjaa
open Go.RowKit

theorem nb_all : ((List.range 6).all fun n => (List.range (2 ^ n)).all fun s => memL s n == memL s 5) = true := by decide +kernel
theorem nb_n {g : List Int} (hi : InG g) (h5 : g.length ≤ 5) {v : Nat} (hv : v < g.length) : memL (gi g v).toNat g.length = nb g v := by
  have t := nb_all
  simp only [List.all_eq_true, List.mem_range, beq_iff_eq] at t
  have h1 := hi v hv
  unfold InR at h1
  have h6 : ((2 ^ g.length : Nat) : Int) = (2 : Int) ^ g.length := by simp
  exact t g.length (by omega) (gi g v).toNat (by omega)
set_option maxHeartbeats 800000 in
theorem degree_any (A : Option Addr) (n c : Nat) (g : List Int) (v : Nat) (w : World) (hx : Ints w A n c g) (h : GB g) (hv : v < g.length) :
    Calls Try.prog 94 #[.slice A n c, .int .i64 v] w fun e w' => e = .returned (.int .i64 (dg g v : Nat)) ∧ w = w' := by
  have HX := Lib.hid hx
  have hl := hx.len
  have hn5 : n ≤ 5 := by rw [← hl]; exact h.n5
  obtain ⟨hg1, hg2⟩ := h.nat hv
  have HDG := Lib.hid (show dg g v = (memL (gi g v).toNat n).length by rw [← hl, nb_n h.inn h.n5 hv]; rfl)
  have HBT := Lib.hid (fun u => show bt g v u = (gi g v).toNat / 2 ^ u % 2 from rfl)
  have hvn : v < n := by rw [← hl]; exact hv
  obtain ⟨b, o, rfl, hc⟩ := HX.out.at_ (by omega)
  have c1 := hc v hvn
  rw [hg1] at c1
  have HS0 : Hid ((memL (gi g v).toNat 0).length = 0) := Lib.hid rfl
  clear hx h hl hc hg1 hv HX
  generalize (gi g v).toNat = s at *
  go_enter Try.func94, Try.ntmps94
  go_wp2
  go_loop [5, 6] (fun x i => ∃ k : Nat, k ≤ n ∧ i = .int .i64 k ∧ x = .int .i64 ((memL s k).length : Nat)) (fun _ i => n - (intOf i).toNat)
  case atStart => exact ⟨0, Nat.zero_le _, rfl, by rw [HS0.out]; rfl⟩
  case round =>
    obtain ⟨k, hk, rfl, rfl⟩ := hrel
    have hml := memL_le s k
    by_cases hlt : k < n
    · have HB := Lib.hid (fun W => bit_any s k W (by omega) (by omega))
      by_cases hb : s / 2 ^ k % 2 = 1
      · have HE := Lib.hid (show (memL s (k + 1)).length = (memL s k).length + 1 by rw [memL_yes hb]; simp)
        rw [hb] at HB
        clear hb
        generalize (memL s k).length = m at *
        go_wp2_with (go_at_call 122; refine (HB.out _).mono ?_; rintro e w' ⟨rfl, rfl⟩)
        go_round
        case rel => exact ⟨k + 1, by omega, by go_num, by rw [HE.out]; go_num⟩
        case measure => simp [intOf]; omega
      · have HE := Lib.hid (show (memL s (k + 1)).length = (memL s k).length by rw [memL_no hb])
        have hb0 : s / 2 ^ k % 2 = 0 := by omega
        rw [hb0] at HB
        clear hb hb0
        generalize (memL s k).length = m at *
        go_wp2_with (go_at_call 122; refine (HB.out _).mono ?_; rintro e w' ⟨rfl, rfl⟩)
        go_round
        case rel => exact ⟨k + 1, by omega, by go_num, by rw [HE.out]⟩
        case measure => simp [intOf]; omega
    · obtain rfl : k = n := by omega
      rw [← HDG.out]
      go_wp2
      go_ret
      exact ⟨rfl, rfl⟩
theorem set_nat {g : List Int} {s : Int} (h5 : g.length ≤ 5) (h : InR s 0 (2 ^ g.length - 1)) : s = (s.toNat : Int) ∧ s.toNat < 32 := by
  unfold InR at h
  have h6 : ((2 ^ g.length : Nat) : Int) = (2 : Int) ^ g.length := by simp
  have h7 : 2 ^ g.length ≤ 2 ^ 5 := Nat.pow_le_pow_right (by omega) h5
  omega
set_option maxRecDepth 100000 in
set_option maxHeartbeats 6400000 in
theorem drift_any (A C : Option Addr) (n k m kc : Nat) (g c : List Int) (s : Int) (b : Bool) (w : World) (hx : Ints w A n k g) (hc : Ints w C m kc c) (h : WQ g c s) :
    Calls Try.prog 87 #[.slice A n k, .slice C m kc, .int .i64 s, .bool b] w (Ret (frV (dAll g c s b) (12 * (n : Int))) w) := by
  have HX := Lib.hid hx
  have HC := Lib.hid hc
  have hl := hx.len
  have hm : m = n := by rw [← hl, ← hc.len, h.len]
  subst hm
  have HW := Lib.hid h
  have HL := Lib.hid hl
  have h5 : m ≤ 5 := by rw [← hl]; exact h.gr.b.n5
  have h2 : 2 ≤ m := by rw [← hl]; exact h.gr.b.n2
  have HG := Lib.hid (fun v (hv : v < m) => h.gr.b.nat (v := v) (by rw [hl]; exact hv))
  have HDD := Lib.hid (fun v (hv : v < m) => show 1 ≤ dg g v ∧ dg g v ≤ 4 from have q := h.gr.deg (v := v) (by rw [hl]; exact hv); ⟨q.1, q.2.1⟩)
  have HGB := Lib.hid h.gr.b
  have HWT := Lib.hid (fun u (hu : u < m) => show 0 ≤ gi c u ∧ gi c u ≤ 1000 from h.wt u (by rw [h.len, hl]; exact hu))
  obtain ⟨hs1, hs2⟩ := set_nat h.gr.b.n5 h.set
  have HSB := Lib.hid (fun v => show sb s v = ((s.toNat / 2 ^ v % 2 : Nat) : Int) from rfl)
  have HAB := Lib.hid (fun v (hv : v ≤ m) => dA_bd (b := b) h (v := v) (by rw [hl]; exact hv))
  have HRB := Lib.hid (fun v u (hu : u ≤ m) => dR_bd (b := b) h (v := v) (u := u) (by rw [hl]; exact hu))
  have HAS := Lib.hid (fun v => show dA g c s b (v + 1) = dA g c s b v + dR g c s b v m by rw [← hl]; rfl)
  have HRS := Lib.hid (fun v u => show dR g c s b v (u + 1) = dR g c s b v u + dT g c s b v u from rfl)
  have HRZ : Hid (∀ v, dR g c s b v 0 = 0) := Lib.hid (fun _ => rfl)
  have HEND := Lib.hid (show dAll g c s b = dA g c s b m by rw [← hl]; rfl)
  have HBTL := Lib.hid (fun v u => bt_lt g v u)
  have HDT := Lib.hid (fun v u => show dT g c s b v u = if bt g v u = 1 then ((12 / byN g b v u : Nat) : Int) * (gi c u * (sb s v - sb s u)) else 0 from rfl)
  have HBY := Lib.hid (fun v u => show byN g b v u = if b then dg g v else dg g u from rfl)
  have HZ := Lib.hid (show frV 0 1 = .agg #[.int .i64 (frU 0 (12 * (m : Int))), .int .i64 (frD 0 (12 * (m : Int)))] by
    have e := fr_zero (D := 12 * (m : Int)) (by omega); rw [e.1, e.2]; rfl)
  have HFD := Lib.hid (show frU 0 (12 * (m : Int)) = 0 ∧ frD 0 (12 * (m : Int)) = 1 from fr_zero (by omega))
  have HF0 := Lib.hid (fun W => fracH_any 0 1 W (by unfold Hug; omega) (by unfold Hug; omega) (by omega))
  have HE0 : Hid (frV 0 1 = .agg #[.int .i64 0, .int .i64 1]) := Lib.hid (by have e := fr_zero (D := 1) (by omega); rw [frV, e.1, e.2])
  rw [HE0.out] at HF0
  have HA0 : Hid (dA g c s b 0 = 0) := Lib.hid rfl
  have HPF := Lib.hid (PF.start w)
  rw [show (Value.int .i64 s) = .int .i64 (s.toNat : Int) by rw [← hs1]]
  clear hx hc hl h HZ HE0 hs1
  generalize s.toNat = t at *
  go_enter Try.func87, Try.ntmps87
  go_wp2_with fail
  refine (HF0.out _).mono ?_
  rintro e w1 ⟨rfl, hb⟩
  have HP1 := Lib.hid (HPF.out.up hb)
  clear hb HF0 HPF
  have HW0 := Lib.hid (show PX w w1.heap.size (frU (dA g c s b 0) (12 * (m : Int))) (frD (dA g c s b 0) (12 * (m : Int))) (w1.alloc (.cells #[.int .i64 0, .int .i64 1] 39)) from ⟨HP1.out.up (below_alloc _ _), by
    rw [HA0.out, HFD.out.1, HFD.out.2]; exact blk_new _ _ _, blk_lt HP1.out.box⟩)
  clear HP1
  go_wp2
  generalize w1.alloc (.cells #[.int .i64 0, .int .i64 1] 39) = W0 at *
  generalize w1.heap.size = r at *
  go_loopw [10] (fun i wr => ∃ v : Nat, v ≤ m ∧ i = .int .i64 v ∧ Hid (PX w r (frU (dA g c s b v) (12 * (m : Int))) (frD (dA g c s b v) (12 * (m : Int))) wr)) (fun i _ => m - (intOf i).toNat)
  case atStart => exact ⟨0, Nat.zero_le _, rfl, HW0⟩
  case round =>
    clear HW0 HA0 HFD
    obtain ⟨v, hv, rfl, HP⟩ := hrel
    by_cases hlt : v < m
    · have HP0 := Lib.hid (show PX w r (frU (dA g c s b v + dR g c s b v 0) (12 * (m : Int))) (frD (dA g c s b v + dR g c s b v 0) (12 * (m : Int))) wr by rw [HRZ.out, Int.add_zero]; exact HP.out)
      clear HP
      go_wp2
      go_loopw [11] (fun i wi => ∃ u : Nat, u ≤ m ∧ i = .int .i64 u ∧ Hid (PX w r (frU (dA g c s b v + dR g c s b v u) (12 * (m : Int))) (frD (dA g c s b v + dR g c s b v u) (12 * (m : Int))) wi)) (fun i _ => m - (intOf i).toNat)
      case atStart => exact ⟨0, Nat.zero_le _, rfl, HP0⟩
      case round =>
        clear HP0
        obtain ⟨u, hu, rfl, HP⟩ := hrel
        by_cases hul : u < m
        · obtain ⟨ba, oa, rfl, hca⟩ := (HX.out.keep HP.out.p.keep).at_ (by omega)
          have c1 := hca v hlt
          obtain ⟨hg1, hg2⟩ := HG.out v hlt
          have HB1 := Lib.hid (fun W => bit_any (gi g v).toNat u W (by omega) (by omega))
          have HB2 := Lib.hid (fun W => bit_any t v W (by omega) (by omega))
          have HB3 := Lib.hid (fun W => bit_any t u W (by omega) (by omega))
          rw [show (gi g v).toNat / 2 ^ u % 2 = bt g v u from rfl] at HB1
          rw [hg1] at c1
          have hbt := HBTL.out v u
          have HD := HDT.out v u
          have hsv := HSB.out v
          have hsu := HSB.out u
          have HR1 := HRS.out v u
          clear hca hg1 hg2
          generalize (gi g v).toNat = gv at *
          by_cases hb1 : bt g v u = 1
          · rw [hb1] at HB1
            rw [if_pos hb1] at HD
            by_cases hsd : t / 2 ^ v % 2 = t / 2 ^ u % 2
            · have hdz : dT g c s b v u = 0 := by rw [HD, hsv, hsu, hsd, Int.sub_self, Int.mul_zero, Int.mul_zero]
              rw [hsd] at HB2
              clear HD
              have HD := hdz
              clear hdz hsd hb1
              have HP2 := Lib.hid (show PX w r (frU (dA g c s b v + dR g c s b v (u + 1)) (12 * (m : Int))) (frD (dA g c s b v + dR g c s b v (u + 1)) (12 * (m : Int))) wr by rw [HR1, HD, Int.add_zero]; exact HP.out)
              clear HP HD HR1 hsv hsu
              generalize t / 2 ^ u % 2 = su at *
              go_wp2_with (first | (go_at_call 122; (with_reducible refine (HB1.out _).mono ?_); rintro e w' ⟨rfl, rfl⟩) | (go_at_call 122; (with_reducible refine (HB2.out _).mono ?_); rintro e w' ⟨rfl, rfl⟩) | (go_at_call 122; (with_reducible refine (HB3.out _).mono ?_); rintro e w' ⟨rfl, rfl⟩))
              go_roundw
              case rel => exact ⟨u + 1, by omega, by go_num, HP2⟩
              case measure => simp [intOf]; omega
            · have hlu : t / 2 ^ u % 2 < 2 := Nat.mod_lt _ (by decide)
              have hlv : t / 2 ^ v % 2 < 2 := Nat.mod_lt _ (by decide)
              by_cases hs1v : t / 2 ^ v % 2 = 1
              · have e1 : t / 2 ^ v % 2 = 1 := by omega
                have e2 : t / 2 ^ u % 2 = 0 := by omega
                rw [e1] at HB2 hsv
                rw [e2] at HB3 hsu
                obtain ⟨w1, w2⟩ := HWT.out u hul
                obtain ⟨bc, oc, rfl, hcc⟩ := (HC.out.keep HP.out.p.keep).at_ (by omega)
                have c2 := hcc u hul
                clear hcc e1 e2 hsd
                have HG1 : Hid (gi c u * (sb s v - sb s u) = gi c u) := Lib.hid (by rw [hsv, hsu]; simp)
                rw [HG1.out] at HD
                clear HG1 hsv hsu
                have HG := Lib.hid (show 0 ≤ gi c u ∧ gi c u ≤ 1000 from ⟨w1, w2⟩)
                have HDV := Lib.hid (degree_any (some ⟨ba, oa, none⟩) m k g v wr (HX.out.keep HP.out.p.keep) HGB.out (by rw [HL.out]; exact hlt))
                have HDU := Lib.hid (degree_any (some ⟨ba, oa, none⟩) m k g u wr (HX.out.keep HP.out.p.keep) HGB.out (by rw [HL.out]; exact hul))
                have hNb := HAB.out v hv
                have hRb := HRB.out v u hu
                have hRb1 := HRB.out v (u + 1) hul
                cases b
                · have HK : Hid (byN g false v u = dg g u) := Lib.hid (by rw [HBY.out]; rfl)
                  rw [HK.out] at HD
                  clear HK
                  obtain ⟨d1, d2⟩ := HDD.out u (by omega)
                  obtain ⟨d3, d4⟩ := HDD.out v (by omega)
                  generalize dg g u = dd at *
                  generalize dg g v = de at *
                  have hkk : dd = 1 ∨ dd = 2 ∨ dd = 3 ∨ dd = 4 := by omega
                  have HST := Lib.hid (dr_step (N := dA g c s false v + dR g c s false v u) (G := gi c u) (n := m) (by omega) hkk)
                  rw [show dA g c s false v + dR g c s false v u + ((12 / dd : Nat) : Int) * gi c u = dA g c s false v + dR g c s false v (u + 1) by rw [HR1, HD, Int.add_assoc]] at HST
                  clear HD HR1
                  have hmk : (m : Int) * (dd : Int) ≤ 20 ∧ 1 ≤ (m : Int) * (dd : Int) := by rcases hkk with rfl | rfl | rfl | rfl <;> omega
                  clear hkk
                  have HN := Lib.hid (show -600000 ≤ dA g c s false v + dR g c s false v u ∧ dA g c s false v + dR g c s false v u ≤ 600000 by omega)
                  have HN1 := Lib.hid (show -600000 ≤ dA g c s false v + dR g c s false v (u + 1) ∧ dA g c s false v + dR g c s false v (u + 1) ≤ 600000 by omega)
                  clear hNb hRb hRb1
                  generalize dA g c s false v + dR g c s false v u = N at *
                  generalize hN1 : dA g c s false v + dR g c s false v (u + 1) = N1 at *
                  have HN1E := Lib.hid hN1
                  clear hN1
                  generalize gi c u = x at *
                  have hmk2 : IntKind.i64.wrap ((m : Int) * (dd : Int)) = (m : Int) * (dd : Int) := wrapIn (by omega)
                  have HB5 := Lib.hid (frU_bd (u := N) (d := 12 * (m : Int)) (B := 600000) (by omega) HN.out)
                  have HB6 := Lib.hid (frD_bd (u := N) (d := 12 * (m : Int)) (B := 60) (by omega) (by omega))
                  have HB7 := Lib.hid (frU_bd (u := x) (d := (m : Int) * (dd : Int)) (B := 1000) (by omega) (by have := HG.out; omega))
                  have HB8 := Lib.hid (frD_bd (u := x) (d := (m : Int) * (dd : Int)) (B := 20) (by omega) (by omega))
                  have HFR := Lib.hid (fun W => fracH_any (x) ((m : Int) * (dd : Int)) W (by unfold Hug; omega) (by unfold Hug; omega) (by omega))
                  have HFV : Hid (frV (x) ((m : Int) * (dd : Int)) = .agg #[.int .i64 (frU (x) ((m : Int) * (dd : Int))), .int .i64 (frD (x) ((m : Int) * (dd : Int)))]) := Lib.hid rfl
                  rw [HFV.out] at HFR
                  clear HFV
                  have HPL := Lib.hid (fun W => plusH_any (frU N (12 * (m : Int))) (frD N (12 * (m : Int))) (frU (x) ((m : Int) * (dd : Int))) (frD (x) ((m : Int) * (dd : Int))) W (by have := HB5.out; omega) (by have := HB7.out; omega) (by have := HB6.out; omega) (by have := HB8.out; omega))
                  rw [frV, HST.out.1, HST.out.2] at HPL
                  clear HST HB5 HB6 HB7 HB8 HN HN1
                  generalize frU (x) ((m : Int) * (dd : Int)) = GU at *
                  generalize frD (x) ((m : Int) * (dd : Int)) = GD at *
                  generalize hNU : frU N1 (12 * (m : Int)) = NU at *
                  generalize hND : frD N1 (12 * (m : Int)) = ND at *
                  have HNE := Lib.hid (And.intro hNU hND)
                  clear hNU hND
                  generalize frU N (12 * (m : Int)) = OU at *
                  generalize frD N (12 * (m : Int)) = OD at *
                  have y0 := blk_cell HP.out.b (i := 0) rfl
                  have y1 := blk_cell HP.out.b (i := 1) rfl
                  go_wp2_with (first | (first | (go_at_call 122; (with_reducible refine (HB1.out _).mono ?_); rintro e w' ⟨rfl, rfl⟩) | (go_at_call 122; (with_reducible refine (HB2.out _).mono ?_); rintro e w' ⟨rfl, rfl⟩) | (go_at_call 122; (with_reducible refine (HB3.out _).mono ?_); rintro e w' ⟨rfl, rfl⟩)) | (go_at_call 94; (with_reducible refine HDV.out.mono ?_); rintro e w' ⟨rfl, rfl⟩) | (go_at_call 94; (with_reducible refine HDU.out.mono ?_); rintro e w' ⟨rfl, rfl⟩))
                  apply region_once (F := fun v => Hid (PX w r NU ND v))
                  · go_region_law ((first
                      | (go_simp; go_at_call 77; (with_reducible refine (HFR.out _).mono ?_); rintro e v1 ⟨rfl, hb⟩; have DX := Lib.hid (HP.out.drew.next hb); have y0 := blk_cell DX.out.b (i := 0) rfl; have y1 := blk_cell DX.out.b (i := 1) rfl; clear hb)
                      | (go_simp; go_at_call 95; (with_reducible refine (HPL.out _).mono ?_); rintro e v2 ⟨rfl, hb⟩; have DX := Lib.hid (DX.out.next hb); have y0 := blk_cell DX.out.b (i := 0) rfl; have y1 := blk_cell DX.out.b (i := 1) rfl; have f0 := blk_frozen DX.out.b 0; have f1 := blk_frozen DX.out.b 1; clear hb)
                      | fail))
                    all_goals exact OnceQ.mk rfl (Lib.hid (DX.out.set NU ND))
                  · rintro w7 HP2
                    clear y0 y1 HFR HPL HP
                    go_wp2
                    go_roundw
                    case rel => exact ⟨u + 1, by omega, by go_num, Lib.hid (by rw [HN1E.out, HNE.out.1, HNE.out.2]; exact HP2.out)⟩
                    case measure => simp [intOf]; omega
                · have HK : Hid (byN g true v u = dg g v) := Lib.hid (by rw [HBY.out]; rfl)
                  rw [HK.out] at HD
                  clear HK
                  obtain ⟨d1, d2⟩ := HDD.out v (by omega)
                  skip
                  generalize dg g v = dd at *
                  have hkk : dd = 1 ∨ dd = 2 ∨ dd = 3 ∨ dd = 4 := by omega
                  have HST := Lib.hid (dr_step (N := dA g c s true v + dR g c s true v u) (G := gi c u) (n := m) (by omega) hkk)
                  rw [show dA g c s true v + dR g c s true v u + ((12 / dd : Nat) : Int) * gi c u = dA g c s true v + dR g c s true v (u + 1) by rw [HR1, HD, Int.add_assoc]] at HST
                  clear HD HR1
                  have hmk : (m : Int) * (dd : Int) ≤ 20 ∧ 1 ≤ (m : Int) * (dd : Int) := by rcases hkk with rfl | rfl | rfl | rfl <;> omega
                  clear hkk
                  have HN := Lib.hid (show -600000 ≤ dA g c s true v + dR g c s true v u ∧ dA g c s true v + dR g c s true v u ≤ 600000 by omega)
                  have HN1 := Lib.hid (show -600000 ≤ dA g c s true v + dR g c s true v (u + 1) ∧ dA g c s true v + dR g c s true v (u + 1) ≤ 600000 by omega)
                  clear hNb hRb hRb1
                  generalize dA g c s true v + dR g c s true v u = N at *
                  generalize hN1 : dA g c s true v + dR g c s true v (u + 1) = N1 at *
                  have HN1E := Lib.hid hN1
                  clear hN1
                  generalize gi c u = x at *
                  have hmk2 : IntKind.i64.wrap ((m : Int) * (dd : Int)) = (m : Int) * (dd : Int) := wrapIn (by omega)
                  have HB5 := Lib.hid (frU_bd (u := N) (d := 12 * (m : Int)) (B := 600000) (by omega) HN.out)
                  have HB6 := Lib.hid (frD_bd (u := N) (d := 12 * (m : Int)) (B := 60) (by omega) (by omega))
                  have HB7 := Lib.hid (frU_bd (u := x) (d := (m : Int) * (dd : Int)) (B := 1000) (by omega) (by have := HG.out; omega))
                  have HB8 := Lib.hid (frD_bd (u := x) (d := (m : Int) * (dd : Int)) (B := 20) (by omega) (by omega))
                  have HFR := Lib.hid (fun W => fracH_any (x) ((m : Int) * (dd : Int)) W (by unfold Hug; omega) (by unfold Hug; omega) (by omega))
                  have HFV : Hid (frV (x) ((m : Int) * (dd : Int)) = .agg #[.int .i64 (frU (x) ((m : Int) * (dd : Int))), .int .i64 (frD (x) ((m : Int) * (dd : Int)))]) := Lib.hid rfl
                  rw [HFV.out] at HFR
                  clear HFV
                  have HPL := Lib.hid (fun W => plusH_any (frU N (12 * (m : Int))) (frD N (12 * (m : Int))) (frU (x) ((m : Int) * (dd : Int))) (frD (x) ((m : Int) * (dd : Int))) W (by have := HB5.out; omega) (by have := HB7.out; omega) (by have := HB6.out; omega) (by have := HB8.out; omega))
                  rw [frV, HST.out.1, HST.out.2] at HPL
                  clear HST HB5 HB6 HB7 HB8 HN HN1
                  generalize frU (x) ((m : Int) * (dd : Int)) = GU at *
                  generalize frD (x) ((m : Int) * (dd : Int)) = GD at *
                  generalize hNU : frU N1 (12 * (m : Int)) = NU at *
                  generalize hND : frD N1 (12 * (m : Int)) = ND at *
                  have HNE := Lib.hid (And.intro hNU hND)
                  clear hNU hND
                  generalize frU N (12 * (m : Int)) = OU at *
                  generalize frD N (12 * (m : Int)) = OD at *
                  have y0 := blk_cell HP.out.b (i := 0) rfl
                  have y1 := blk_cell HP.out.b (i := 1) rfl
                  go_wp2_with (first | (first | (go_at_call 122; (with_reducible refine (HB1.out _).mono ?_); rintro e w' ⟨rfl, rfl⟩) | (go_at_call 122; (with_reducible refine (HB2.out _).mono ?_); rintro e w' ⟨rfl, rfl⟩) | (go_at_call 122; (with_reducible refine (HB3.out _).mono ?_); rintro e w' ⟨rfl, rfl⟩)) | (go_at_call 94; (with_reducible refine HDV.out.mono ?_); rintro e w' ⟨rfl, rfl⟩) | (go_at_call 94; (with_reducible refine HDU.out.mono ?_); rintro e w' ⟨rfl, rfl⟩))
                  apply region_once (F := fun v => Hid (PX w r NU ND v))
                  · go_region_law ((first
                      | (go_simp; go_at_call 77; (with_reducible refine (HFR.out _).mono ?_); rintro e v1 ⟨rfl, hb⟩; have DX := Lib.hid (HP.out.drew.next hb); have y0 := blk_cell DX.out.b (i := 0) rfl; have y1 := blk_cell DX.out.b (i := 1) rfl; clear hb)
                      | (go_simp; go_at_call 95; (with_reducible refine (HPL.out _).mono ?_); rintro e v2 ⟨rfl, hb⟩; have DX := Lib.hid (DX.out.next hb); have y0 := blk_cell DX.out.b (i := 0) rfl; have y1 := blk_cell DX.out.b (i := 1) rfl; have f0 := blk_frozen DX.out.b 0; have f1 := blk_frozen DX.out.b 1; clear hb)
                      | fail))
                    all_goals exact OnceQ.mk rfl (Lib.hid (DX.out.set NU ND))
                  · rintro w7 HP2
                    clear y0 y1 HFR HPL HP
                    go_wp2
                    go_roundw
                    case rel => exact ⟨u + 1, by omega, by go_num, Lib.hid (by rw [HN1E.out, HNE.out.1, HNE.out.2]; exact HP2.out)⟩
                    case measure => simp [intOf]; omega
              · have e1 : t / 2 ^ v % 2 = 0 := by omega
                have e2 : t / 2 ^ u % 2 = 1 := by omega
                rw [e1] at HB2 hsv
                rw [e2] at HB3 hsu
                obtain ⟨w1, w2⟩ := HWT.out u hul
                obtain ⟨bc, oc, rfl, hcc⟩ := (HC.out.keep HP.out.p.keep).at_ (by omega)
                have c2 := hcc u hul
                clear hcc e1 e2 hsd
                have HG1 : Hid (gi c u * (sb s v - sb s u) = -(gi c u)) := Lib.hid (by rw [hsv, hsu]; simp)
                rw [HG1.out] at HD
                clear HG1 hsv hsu
                have HG := Lib.hid (show 0 ≤ gi c u ∧ gi c u ≤ 1000 from ⟨w1, w2⟩)
                have HDV := Lib.hid (degree_any (some ⟨ba, oa, none⟩) m k g v wr (HX.out.keep HP.out.p.keep) HGB.out (by rw [HL.out]; exact hlt))
                have HDU := Lib.hid (degree_any (some ⟨ba, oa, none⟩) m k g u wr (HX.out.keep HP.out.p.keep) HGB.out (by rw [HL.out]; exact hul))
                have hNb := HAB.out v hv
                have hRb := HRB.out v u hu
                have hRb1 := HRB.out v (u + 1) hul
                cases b
                · have HK : Hid (byN g false v u = dg g u) := Lib.hid (by rw [HBY.out]; rfl)
                  rw [HK.out] at HD
                  clear HK
                  obtain ⟨d1, d2⟩ := HDD.out u (by omega)
                  obtain ⟨d3, d4⟩ := HDD.out v (by omega)
                  generalize dg g u = dd at *
                  generalize dg g v = de at *
                  have hkk : dd = 1 ∨ dd = 2 ∨ dd = 3 ∨ dd = 4 := by omega
                  have HST := Lib.hid (dr_step (N := dA g c s false v + dR g c s false v u) (G := (-(gi c u))) (n := m) (by omega) hkk)
                  rw [show dA g c s false v + dR g c s false v u + ((12 / dd : Nat) : Int) * (-(gi c u)) = dA g c s false v + dR g c s false v (u + 1) by rw [HR1, HD, Int.add_assoc]] at HST
                  clear HD HR1
                  have hmk : (m : Int) * (dd : Int) ≤ 20 ∧ 1 ≤ (m : Int) * (dd : Int) := by rcases hkk with rfl | rfl | rfl | rfl <;> omega
                  clear hkk
                  have HN := Lib.hid (show -600000 ≤ dA g c s false v + dR g c s false v u ∧ dA g c s false v + dR g c s false v u ≤ 600000 by omega)
                  have HN1 := Lib.hid (show -600000 ≤ dA g c s false v + dR g c s false v (u + 1) ∧ dA g c s false v + dR g c s false v (u + 1) ≤ 600000 by omega)
                  clear hNb hRb hRb1
                  generalize dA g c s false v + dR g c s false v u = N at *
                  generalize hN1 : dA g c s false v + dR g c s false v (u + 1) = N1 at *
                  have HN1E := Lib.hid hN1
                  clear hN1
                  generalize gi c u = x at *
                  have hmk2 : IntKind.i64.wrap ((m : Int) * (dd : Int)) = (m : Int) * (dd : Int) := wrapIn (by omega)
                  have HB5 := Lib.hid (frU_bd (u := N) (d := 12 * (m : Int)) (B := 600000) (by omega) HN.out)
                  have HB6 := Lib.hid (frD_bd (u := N) (d := 12 * (m : Int)) (B := 60) (by omega) (by omega))
                  have HB7 := Lib.hid (frU_bd (u := -x) (d := (m : Int) * (dd : Int)) (B := 1000) (by omega) (by have := HG.out; omega))
                  have HB8 := Lib.hid (frD_bd (u := -x) (d := (m : Int) * (dd : Int)) (B := 20) (by omega) (by omega))
                  have HFR := Lib.hid (fun W => fracH_any (-x) ((m : Int) * (dd : Int)) W (by unfold Hug; omega) (by unfold Hug; omega) (by omega))
                  have HFV : Hid (frV (-x) ((m : Int) * (dd : Int)) = .agg #[.int .i64 (frU (-x) ((m : Int) * (dd : Int))), .int .i64 (frD (-x) ((m : Int) * (dd : Int)))]) := Lib.hid rfl
                  rw [HFV.out] at HFR
                  clear HFV
                  have HPL := Lib.hid (fun W => plusH_any (frU N (12 * (m : Int))) (frD N (12 * (m : Int))) (frU (-x) ((m : Int) * (dd : Int))) (frD (-x) ((m : Int) * (dd : Int))) W (by have := HB5.out; omega) (by have := HB7.out; omega) (by have := HB6.out; omega) (by have := HB8.out; omega))
                  rw [frV, HST.out.1, HST.out.2] at HPL
                  clear HST HB5 HB6 HB7 HB8 HN HN1
                  generalize frU (-x) ((m : Int) * (dd : Int)) = GU at *
                  generalize frD (-x) ((m : Int) * (dd : Int)) = GD at *
                  generalize hNU : frU N1 (12 * (m : Int)) = NU at *
                  generalize hND : frD N1 (12 * (m : Int)) = ND at *
                  have HNE := Lib.hid (And.intro hNU hND)
                  clear hNU hND
                  generalize frU N (12 * (m : Int)) = OU at *
                  generalize frD N (12 * (m : Int)) = OD at *
                  have y0 := blk_cell HP.out.b (i := 0) rfl
                  have y1 := blk_cell HP.out.b (i := 1) rfl
                  go_wp2_with (first | (first | (go_at_call 122; (with_reducible refine (HB1.out _).mono ?_); rintro e w' ⟨rfl, rfl⟩) | (go_at_call 122; (with_reducible refine (HB2.out _).mono ?_); rintro e w' ⟨rfl, rfl⟩) | (go_at_call 122; (with_reducible refine (HB3.out _).mono ?_); rintro e w' ⟨rfl, rfl⟩)) | (go_at_call 94; (with_reducible refine HDV.out.mono ?_); rintro e w' ⟨rfl, rfl⟩) | (go_at_call 94; (with_reducible refine HDU.out.mono ?_); rintro e w' ⟨rfl, rfl⟩))
                  apply region_once (F := fun v => Hid (PX w r NU ND v))
                  · go_region_law ((first
                      | (go_simp; go_at_call 77; (with_reducible refine (HFR.out _).mono ?_); rintro e v1 ⟨rfl, hb⟩; have DX := Lib.hid (HP.out.drew.next hb); have y0 := blk_cell DX.out.b (i := 0) rfl; have y1 := blk_cell DX.out.b (i := 1) rfl; clear hb)
                      | (go_simp; go_at_call 95; (with_reducible refine (HPL.out _).mono ?_); rintro e v2 ⟨rfl, hb⟩; have DX := Lib.hid (DX.out.next hb); have y0 := blk_cell DX.out.b (i := 0) rfl; have y1 := blk_cell DX.out.b (i := 1) rfl; have f0 := blk_frozen DX.out.b 0; have f1 := blk_frozen DX.out.b 1; clear hb)
                      | fail))
                    all_goals exact OnceQ.mk rfl (Lib.hid (DX.out.set NU ND))
                  · rintro w7 HP2
                    clear y0 y1 HFR HPL HP
                    go_wp2
                    go_roundw
                    case rel => exact ⟨u + 1, by omega, by go_num, Lib.hid (by rw [HN1E.out, HNE.out.1, HNE.out.2]; exact HP2.out)⟩
                    case measure => simp [intOf]; omega
                · have HK : Hid (byN g true v u = dg g v) := Lib.hid (by rw [HBY.out]; rfl)
                  rw [HK.out] at HD
                  clear HK
                  obtain ⟨d1, d2⟩ := HDD.out v (by omega)
                  skip
                  generalize dg g v = dd at *
                  have hkk : dd = 1 ∨ dd = 2 ∨ dd = 3 ∨ dd = 4 := by omega
                  have HST := Lib.hid (dr_step (N := dA g c s true v + dR g c s true v u) (G := (-(gi c u))) (n := m) (by omega) hkk)
                  rw [show dA g c s true v + dR g c s true v u + ((12 / dd : Nat) : Int) * (-(gi c u)) = dA g c s true v + dR g c s true v (u + 1) by rw [HR1, HD, Int.add_assoc]] at HST
                  clear HD HR1
                  have hmk : (m : Int) * (dd : Int) ≤ 20 ∧ 1 ≤ (m : Int) * (dd : Int) := by rcases hkk with rfl | rfl | rfl | rfl <;> omega
                  clear hkk
                  have HN := Lib.hid (show -600000 ≤ dA g c s true v + dR g c s true v u ∧ dA g c s true v + dR g c s true v u ≤ 600000 by omega)
                  have HN1 := Lib.hid (show -600000 ≤ dA g c s true v + dR g c s true v (u + 1) ∧ dA g c s true v + dR g c s true v (u + 1) ≤ 600000 by omega)
                  clear hNb hRb hRb1
                  generalize dA g c s true v + dR g c s true v u = N at *
                  generalize hN1 : dA g c s true v + dR g c s true v (u + 1) = N1 at *
                  have HN1E := Lib.hid hN1
                  clear hN1
                  generalize gi c u = x at *
                  have hmk2 : IntKind.i64.wrap ((m : Int) * (dd : Int)) = (m : Int) * (dd : Int) := wrapIn (by omega)
                  have HB5 := Lib.hid (frU_bd (u := N) (d := 12 * (m : Int)) (B := 600000) (by omega) HN.out)
                  have HB6 := Lib.hid (frD_bd (u := N) (d := 12 * (m : Int)) (B := 60) (by omega) (by omega))
                  have HB7 := Lib.hid (frU_bd (u := -x) (d := (m : Int) * (dd : Int)) (B := 1000) (by omega) (by have := HG.out; omega))
                  have HB8 := Lib.hid (frD_bd (u := -x) (d := (m : Int) * (dd : Int)) (B := 20) (by omega) (by omega))
                  have HFR := Lib.hid (fun W => fracH_any (-x) ((m : Int) * (dd : Int)) W (by unfold Hug; omega) (by unfold Hug; omega) (by omega))
                  have HFV : Hid (frV (-x) ((m : Int) * (dd : Int)) = .agg #[.int .i64 (frU (-x) ((m : Int) * (dd : Int))), .int .i64 (frD (-x) ((m : Int) * (dd : Int)))]) := Lib.hid rfl
                  rw [HFV.out] at HFR
                  clear HFV
                  have HPL := Lib.hid (fun W => plusH_any (frU N (12 * (m : Int))) (frD N (12 * (m : Int))) (frU (-x) ((m : Int) * (dd : Int))) (frD (-x) ((m : Int) * (dd : Int))) W (by have := HB5.out; omega) (by have := HB7.out; omega) (by have := HB6.out; omega) (by have := HB8.out; omega))
                  rw [frV, HST.out.1, HST.out.2] at HPL
                  clear HST HB5 HB6 HB7 HB8 HN HN1
                  generalize frU (-x) ((m : Int) * (dd : Int)) = GU at *
                  generalize frD (-x) ((m : Int) * (dd : Int)) = GD at *
                  generalize hNU : frU N1 (12 * (m : Int)) = NU at *
                  generalize hND : frD N1 (12 * (m : Int)) = ND at *
                  have HNE := Lib.hid (And.intro hNU hND)
                  clear hNU hND
                  generalize frU N (12 * (m : Int)) = OU at *
                  generalize frD N (12 * (m : Int)) = OD at *
                  have y0 := blk_cell HP.out.b (i := 0) rfl
                  have y1 := blk_cell HP.out.b (i := 1) rfl
                  go_wp2_with (first | (first | (go_at_call 122; (with_reducible refine (HB1.out _).mono ?_); rintro e w' ⟨rfl, rfl⟩) | (go_at_call 122; (with_reducible refine (HB2.out _).mono ?_); rintro e w' ⟨rfl, rfl⟩) | (go_at_call 122; (with_reducible refine (HB3.out _).mono ?_); rintro e w' ⟨rfl, rfl⟩)) | (go_at_call 94; (with_reducible refine HDV.out.mono ?_); rintro e w' ⟨rfl, rfl⟩) | (go_at_call 94; (with_reducible refine HDU.out.mono ?_); rintro e w' ⟨rfl, rfl⟩))
                  apply region_once (F := fun v => Hid (PX w r NU ND v))
                  · go_region_law ((first
                      | (go_simp; go_at_call 77; (with_reducible refine (HFR.out _).mono ?_); rintro e v1 ⟨rfl, hb⟩; have DX := Lib.hid (HP.out.drew.next hb); have y0 := blk_cell DX.out.b (i := 0) rfl; have y1 := blk_cell DX.out.b (i := 1) rfl; clear hb)
                      | (go_simp; go_at_call 95; (with_reducible refine (HPL.out _).mono ?_); rintro e v2 ⟨rfl, hb⟩; have DX := Lib.hid (DX.out.next hb); have y0 := blk_cell DX.out.b (i := 0) rfl; have y1 := blk_cell DX.out.b (i := 1) rfl; have f0 := blk_frozen DX.out.b 0; have f1 := blk_frozen DX.out.b 1; clear hb)
                      | fail))
                    all_goals exact OnceQ.mk rfl (Lib.hid (DX.out.set NU ND))
                  · rintro w7 HP2
                    clear y0 y1 HFR HPL HP
                    go_wp2
                    go_roundw
                    case rel => exact ⟨u + 1, by omega, by go_num, Lib.hid (by rw [HN1E.out, HNE.out.1, HNE.out.2]; exact HP2.out)⟩
                    case measure => simp [intOf]; omega
          · have hb0 : bt g v u = 0 := by omega
            rw [hb0] at HB1
            rw [if_neg hb1] at HD
            clear hb0 hb1
            have HP2 := Lib.hid (show PX w r (frU (dA g c s b v + dR g c s b v (u + 1)) (12 * (m : Int))) (frD (dA g c s b v + dR g c s b v (u + 1)) (12 * (m : Int))) wr by rw [HR1, HD, Int.add_zero]; exact HP.out)
            clear HP HD HR1 hsv hsu
            go_wp2_with (first | (go_at_call 122; (with_reducible refine (HB1.out _).mono ?_); rintro e w' ⟨rfl, rfl⟩) | (go_at_call 122; (with_reducible refine (HB2.out _).mono ?_); rintro e w' ⟨rfl, rfl⟩) | (go_at_call 122; (with_reducible refine (HB3.out _).mono ?_); rintro e w' ⟨rfl, rfl⟩))
            go_roundw
            case rel => exact ⟨u + 1, by omega, by go_num, HP2⟩
            case measure => simp [intOf]; omega
        · obtain rfl : u = m := by omega
          have HP1 := Lib.hid (show PX w r (frU (dA g c s b (v + 1)) (12 * (u : Int))) (frD (dA g c s b (v + 1)) (12 * (u : Int))) wr by rw [HAS.out]; exact HP.out)
          clear HP
          go_wp2
          go_roundw
          case rel => exact ⟨v + 1, by omega, by go_num, HP1⟩
          case measure => simp [intOf]; omega
    · obtain rfl : v = m := by omega
      have HFE : Hid (frV (dA g c s b v) (12 * (v : Int)) = .agg #[.int .i64 (frU (dA g c s b v) (12 * (v : Int))), .int .i64 (frD (dA g c s b v) (12 * (v : Int)))]) := Lib.hid rfl
      have HPF := Lib.hid HP.out.p
      have q0 := blk_cell HP.out.b (i := 0) rfl
      have q1 := blk_cell HP.out.b (i := 1) rfl
      clear HP
      generalize frU (dA g c s b v) (12 * (v : Int)) = U at *
      generalize frD (dA g c s b v) (12 * (v : Int)) = D at *
      have c0 := blk_cell HPF.out.box (i := 0) rfl
      have c1 := blk_cell HPF.out.box (i := 1) rfl
      have f0 := blk_frozen HPF.out.box 0
      have f1 := blk_frozen HPF.out.box 1
      go_wp2
      clear c0 c1 f0 f1 q0 q1
      have B1 := blk_set (blk_set HPF.out.box 0 (.int .i64 U)) 1 (.int .i64 D)
      have r0 := blk_cell B1 (i := 0) (v := .int .i64 U) rfl
      have r1 := blk_cell B1 (i := 1) (v := .int .i64 D) rfl
      have HBX := Lib.hid ((HPF.out.below.setCell (p := ⟨w.heap.size, 0, none⟩) (Nat.le_refl _) (.int .i64 U)).setCell (p := ⟨w.heap.size, 1, none⟩) (Nat.le_refl _) (.int .i64 D))
      clear B1 HPF
      generalize (wr.setCell ⟨w.heap.size, 0, none⟩ (.int .i64 U)).setCell ⟨w.heap.size, 1, none⟩ (.int .i64 D) = WE at *
      refine bodyPost_ret (v := .agg #[.int .i64 U, .int .i64 D]) (by simp [results, Try.results87, go_sem, r0, r1]) rfl ?_
      exact ⟨by rw [HEND.out, HFE.out], HBX.out⟩
end Go.Proofs.Ytolnbkplgnpfjaa

