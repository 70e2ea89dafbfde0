/- Texts merged: N9 N10. -/
import Derived.Test.YtnbkifpmoegaaaaQ10
import Derived.BigRegion
/- Places with weights and sides, by the program. -/
namespace Go.Proofs.Ytnbkifpmoegaaaa
open Go.RowKit

theorem mn_iff {xs : List Int} {z : Int} : ∀ {k : Nat}, z ≤ mn xs k ↔ ∀ j, j ≤ k → z ≤ gi xs j
  | 0 => ⟨fun h j hj => by obtain rfl : j = 0 := by omega
                           exact h, fun h => h 0 (Nat.le_refl _)⟩
  | k + 1 => by
    show z ≤ min (mn xs k) (gi xs (k + 1)) ↔ _
    constructor
    · intro h j hj
      by_cases e : j = k + 1
      · subst e; omega
      · exact (mn_iff (k := k)).1 (by omega) j (by omega)
    · intro h
      have h1 := (mn_iff (k := k)).2 fun j hj => h j (by omega)
      have h2 := h (k + 1) (Nat.le_refl _)
      omega
theorem wt_iff {c : List Int} (h0 : 0 < c.length) : (∀ i, i < c.length → InR (gi c i) 0 1000) ↔ 0 ≤ lst c ∧ mxl c ≤ 1000 := by
  constructor
  · intro h
    refine ⟨mn_iff.2 fun j hj => (h j (by omega)).1, ?_⟩
    obtain ⟨j, hj, e⟩ := mx_at c (c.length - 1)
    unfold mxl; rw [← e]
    exact (h j (by omega)).2
  · rintro ⟨h1, h2⟩ i hi
    exact ⟨mn_iff.1 h1 i (by omega), Int.le_trans (mx_ge c (k := c.length - 1) (by omega)) h2⟩
theorem PLr.set {B n L s c R W} (h : PLr B n L s c R W) {i : Nat} (hi : i < n) (x y : Int) :
    PLr B n L (upd s i y) (upd c i x) R ((W.setCell ⟨B + 1 + i, 2, none⟩ (.int .i64 x)).setCell ⟨B + 1 + i, 1, none⟩ (.int .i64 y)) := by
  have hs := h.sz
  refine ⟨by simpa [World.setCell] using hs, (h.row.setOther (by show B ≠ B + 1 + i; omega) _).setOther (by show B ≠ B + 1 + i; omega) _, fun v hv => ?_, fun v hv => ?_, h.far⟩
  · by_cases e : v = i
    · subst e
      rw [upd_same, upd_same]
      exact blk_set (blk_set (h.bl v hv) 2 _) 1 _
    · rw [upd_other _ _ e, upd_other _ _ e]
      exact blk_other (blk_other (h.bl v hv) (by show B + 1 + v ≠ B + 1 + i; omega) _) (by show B + 1 + v ≠ B + 1 + i; omega) _
  · exact ownsRow_setCell_below (ownsRow_setCell_below (h.own v hv) (by show B + 1 + i < B + 1 + n; omega) _) (by show B + 1 + i < B + 1 + n; omega) _
theorem PW.set {w n L s c W} (h : PW w n L s c W) {i : Nat} (hi : i < n) (x y : Int) :
    PW w n L (upd s i y) (upd c i x) ((W.setCell ⟨w.heap.size + 1 + i, 2, none⟩ (.int .i64 x)).setCell ⟨w.heap.size + 1 + i, 1, none⟩ (.int .i64 y)) :=
  ⟨(h.up.setCell (by show w.heap.size ≤ w.heap.size + 1 + i; omega) _).setCell (by show w.heap.size ≤ w.heap.size + 1 + i; omega) _, let ⟨R, q⟩ := h.ex; ⟨R, q.set hi x y⟩⟩
/-- Weights and sides of the first i places. -/
def wS (s : Int) (i : Nat) : Nat → Int := fun v => if v < i then sb s v else 0
def wC (c : List Int) (i : Nat) : Nat → Int := fun v => if v < i then gi c v else 0
theorem wS_next (s : Int) (i v : Nat) : upd (wS s i) i (sb s i) v = wS s (i + 1) v := by
  by_cases e : v = i
  · subst e; rw [upd_same]; unfold wS; rw [if_pos (by omega)]
  · rw [upd_other _ _ e]; unfold wS
    by_cases h : v < i
    · rw [if_pos h, if_pos (by omega)]
    · rw [if_neg h, if_neg (by omega)]
theorem wC_next (c : List Int) (i v : Nat) : upd (wC c i) i (gi c i) v = wC c (i + 1) v := by
  by_cases e : v = i
  · subst e; rw [upd_same]; unfold wC; rw [if_pos (by omega)]
  · rw [upd_other _ _ e]; unfold wC
    by_cases h : v < i
    · rw [if_pos h, if_pos (by omega)]
    · rw [if_neg h, if_neg (by omega)]
theorem sh_side : ∀ s, s < 32 → ∀ i, i < 5 → bits BinOp.and IntKind.i64 (((s : Nat) : Int) / 2 ^ i) 1 = ((s / 2 ^ i % 2 : Nat) : Int) := by decide +kernel
def NewWp (w : World) (n : Nat) (L : Nat → List Nat) (s c : Nat → Int) (e : Ending) (w' : World) : Prop := e = .returned (.slice (some ⟨w.heap.size, 0, none⟩) n n) ∧ PW w n L s c w'
set_option maxRecDepth 100000 in
set_option maxHeartbeats 1600000 in
theorem weighedPlaces_any (A C : Option Addr) (n k m kc : Nat) (g c : List Int) (s : Int) (w : World) (hx : Ints w A n k g) (hc : Ints w C m kc c) (h : WQ g c s) :
    Calls Try.prog 63 #[.slice A n k, .slice C m kc, .int .i64 s] w (NewWp w n (nn g) (sb s) (gi c)) := by
  have HC := Lib.hid hc
  have hl := hx.len
  have hm : m = n := by rw [← hl, ← hc.len, h.len]
  subst hm
  have h5 : m ≤ 5 := by rw [← hl]; exact h.gr.b.n5
  have HPL := Lib.hid (placesOf_any A m k g w hx h.gr.b.inn h5)
  obtain ⟨hs1, hs2⟩ : s = (s.toNat : Int) ∧ s.toNat < 32 := by
    have h1 := h.set
    unfold InR at h1
    have h6 : ((2 ^ g.length : Nat) : Int) = (2 : Int) ^ g.length := by simp
    have h7 : 2 ^ g.length ≤ 2 ^ 5 := Nat.pow_le_pow_right (by omega) (by omega)
    omega
  have HSB := Lib.hid (fun v => show sb s v = ((s.toNat / 2 ^ v % 2 : Nat) : Int) from rfl)
  rw [show (Value.int .i64 s) = .int .i64 (s.toNat : Int) by rw [← hs1]]
  clear hx hc hl h hs1
  generalize s.toNat = t at *
  have HSH := Lib.hid (sh_side t hs2)
  go_enter Try.func63, Try.ntmps63
  go_wp2_with fail
  refine HPL.out.mono ?_
  rintro e w1 ⟨rfl, hpw⟩
  have HW0 := Lib.hid (show PW w m (nn g) (wS s 0) (wC c 0) w1 from hpw.congr (fun _ _ => rfl) (fun v _ => by unfold wS; rw [if_neg (by omega)]) (fun v _ => by unfold wC; rw [if_neg (by omega)]))
  clear HPL hpw
  go_wp2
  go_loopw [14] (fun i wr => ∃ v : Nat, v ≤ m ∧ i = .int .i64 v ∧ Hid (PW w m (nn g) (wS s v) (wC c v) wr)) (fun i _ => m - (intOf i).toNat)
  case atStart => exact ⟨0, Nat.zero_le _, rfl, HW0⟩
  case round =>
    clear HW0
    obtain ⟨v, hv, rfl, HP⟩ := hrel
    by_cases hlt : v < m
    · obtain ⟨b, o, rfl, hcc⟩ := (HC.out.keep (Keep.below HP.out.up)).at_ (by omega)
      have c2 := hcc v hlt
      obtain ⟨R, hpl⟩ := HP.out.ex
      have c1 : wr.cell? ⟨w.heap.size, v, none⟩ = some (.pointer (some ⟨w.heap.size + 1 + v, 0, none⟩)) := hpl.row.cell hlt
      have B0 := hpl.bl v hlt
      have c3 := blk_cell B0 (i := 2) rfl
      have f3 := blk_frozen B0 2
      have B1 := blk_set B0 2 (.int .i64 (gi c v))
      have c4 := blk_cell B1 (i := 1) rfl
      have f4 := blk_frozen B1 1
      have hbt := HSH.out v (by omega)
      have HN := Lib.hid (show PW w m (nn g) (wS s (v + 1)) (wC c (v + 1)) ((wr.setCell ⟨w.heap.size + 1 + v, 2, none⟩ (.int .i64 (gi c v))).setCell ⟨w.heap.size + 1 + v, 1, none⟩ (.int .i64 ((t / 2 ^ v % 2 : Nat) : Int))) from by
        rw [← HSB.out v]
        exact (HP.out.set hlt (gi c v) (sb s v)).congr (fun _ _ => rfl) (fun x _ => wS_next s v x) (fun x _ => wC_next c v x))
      clear hcc hpl B0 B1 HP
      generalize gi c v = x at *
      go_wp2
      go_roundw
      case rel => exact ⟨v + 1, by omega, by go_num, HN⟩
      case measure => simp [intOf]; omega
    · obtain rfl : v = m := by omega
      have HE := Lib.hid (show PW w v (nn g) (sb s) (gi c) wr from HP.out.congr (fun _ _ => rfl) (fun x hx => by unfold wS; rw [if_pos hx]) (fun x hx => by unfold wC; rw [if_pos hx]))
      clear HP
      go_wp2
      go_ret
      exact ⟨rfl, HE.out⟩
set_option maxRecDepth 100000 in
set_option maxHeartbeats 800000 in
theorem gainFrom_any (B n : Nat) (L : Nat → List Nat) (s c : Nat → Int) (R : Nat → Value) (w : World) (h : PLr B n L s c R w) (v u : Nat) (hv : v < n) (hu : u < n)
    (h1 : ∀ x, x < n → 0 ≤ s x ∧ s x ≤ 1) (h2 : ∀ x, x < n → 0 ≤ c x ∧ c x ≤ 1000) :
    Calls Try.prog 65 #[.pointer (some ⟨B + 1 + v, 0, none⟩), .pointer (some ⟨B + 1 + u, 0, none⟩)] w fun e w' => e = .returned (.int .i64 (c v * (s u - s v))) ∧ Quiet w w' := by
  have c1 := blk_cell (h.bl v hv) (i := 2) rfl
  have c2 := blk_cell (h.bl v hv) (i := 1) rfl
  have c3 := blk_cell (h.bl u hu) (i := 1) rfl
  obtain ⟨a1, a2⟩ := h1 v hv
  obtain ⟨a3, a4⟩ := h1 u hu
  obtain ⟨a5, a6⟩ := h2 v hv
  obtain ⟨m1, m2⟩ := mulbd (x := c v) (y := s u - s v) (A := 1000) (B := 1) (by omega) (by omega)
  clear h h1 h2
  generalize c v = x at *
  generalize s v = y at *
  generalize s u = z at *
  have e1 : IntKind.i64.wrap (z - y) = z - y := wrapIn (by omega)
  have e2 : IntKind.i64.wrap (x * (z - y)) = x * (z - y) := wrapIn (by omega)
  go_enter Try.func65, Try.ntmps65
  go_wp2
  go_quiet (fail)
  go_wp2
  go_ret
  exact ⟨rfl, ⟨_, rfl⟩⟩
set_option maxRecDepth 100000 in
set_option maxHeartbeats 400000 in
theorem chanceOfEach_any (B n : Nat) (L : Nat → List Nat) (s c : Nat → Int) (R : Nat → Value) (w : World) (h : PLr B n L s c R w) (v : Nat) (hv : v < n) (h1 : 1 ≤ (L v).length ∧ (L v).length ≤ 4) :
    Calls Try.prog 64 #[.pointer (some ⟨B + 1 + v, 0, none⟩)] w fun e w' => e = .returned (.int .i64 ((12 / (L v).length : Nat) : Int)) ∧ w = w' := by
  obtain ⟨A, k, hR, _⟩ := h.near hv
  have c1 := blk_cell (h.bl v hv) (i := 0) rfl
  rw [hR] at c1
  clear hR h
  generalize (L v).length = d at *
  have hd : d = 1 ∨ d = 2 ∨ d = 3 ∨ d = 4 := by omega
  clear h1
  rcases hd with rfl | rfl | rfl | rfl
  all_goals
    go_enter Try.func64, Try.ntmps64
    go_wp2
    go_ret
    exact ⟨by first | rfl | simp, rfl⟩
set_option maxRecDepth 100000 in
set_option maxHeartbeats 1600000 in
theorem isWeighed_any (A C : Option Addr) (n k m kc : Nat) (g c : List Int) (s : Int) (w : World) (hx : Ints w A n k g) (hc : Ints w C m kc c) :
    Calls Try.prog 62 #[.slice A n k, .slice C m kc, .int .i64 s] w (Ret (.bool (pb (WQ g c s))) w) := by
  have HLC := Lib.hid hc.len
  have HLG := Lib.hid hx.len
  have HCC := Lib.hid hc
  have HV := Lib.hid (ValidGraph_impl A n k g w hx)
  clear hx hc
  by_cases hg : GR g
  · rw [pb_true hg] at HV
    have HG := Lib.hid hg
    have h5 : n ≤ 5 := by rw [← HLG.out]; exact hg.b.n5
    have h2 : 2 ≤ n := by rw [← HLG.out]; exact hg.b.n2
    clear hg
    by_cases hl : m = n
    · subst hl
      have hle : ((m : Int) != (m : Int)) = false := by simp
      by_cases hs : InR s 0 (2 ^ m - 1)
      · have HS := Lib.hid (fun W => pb_true hs ▸ isSetOf_any m s W h5)
        have HE : Hid (pb (WQ g c s) = pb (0 ≤ lst c ∧ mxl c ≤ 1000)) := Lib.hid (pb_congr ⟨fun h => (wt_iff (by rw [HLC.out]; omega)).1 h.wt, fun h => ⟨HG.out, by rw [HLC.out, HLG.out], (wt_iff (by rw [HLC.out]; omega)).2 h, by rw [HLG.out]; exact hs⟩⟩)
        have HMN := Lib.hid (fun W K => Min_any C m kc c W (HCC.out.keep K) (by omega))
        have HMX := Lib.hid (fun W K => Max_any C m kc c W (HCC.out.keep K) (by omega))
        clear hs
        generalize lst c = x at *
        generalize mxl c = y at *
        by_cases h0 : 0 ≤ x
        · have d0 : decide (0 ≤ x) = true := decide_eq_true h0
          have HR : Hid (decide (y ≤ 1000) = pb (WQ g c s)) := Lib.hid (by
            rw [HE.out]
            by_cases h : y ≤ 1000
            · rw [pb_true ⟨h0, h⟩, decide_eq_true h]
            · rw [pb_false (fun k => h k.2), decide_eq_false h])
          clear HE
          go_enter Try.func62, Try.ntmps62
          go_wp2_with fail
          refine HV.out.mono ?_
          rintro e w1 ⟨rfl, hb⟩
          have HB := Lib.hid hb
          clear hb HV
          go_wp2_with fail
          refine (HS.out _).mono ?_
          rintro e w2 ⟨rfl, rfl⟩
          clear HS
          go_wp2_with fail
          refine (HMN.out _ (Keep.below HB.out)).mono ?_
          rintro e w3 ⟨rfl, hq⟩
          have HB3 := Lib.hid (below_quiet HB.out hq)
          clear hq HMN HB
          go_wp2_with fail
          refine (HMX.out _ (Keep.below HB3.out)).mono ?_
          rintro e w4 ⟨rfl, hq⟩
          have HB4 := Lib.hid (below_quiet HB3.out hq)
          clear hq HMX HB3
          go_wp2
          go_ret
          exact ⟨ret_bool HR.out, HB4.out⟩
        · have d0 : decide (0 ≤ x) = false := decide_eq_false h0
          have HR : Hid (pb (WQ g c s) = false) := Lib.hid (by rw [HE.out]; exact pb_false fun k => h0 k.1)
          clear HE HMX
          go_enter Try.func62, Try.ntmps62
          go_wp2_with fail
          refine HV.out.mono ?_
          rintro e w1 ⟨rfl, hb⟩
          have HB := Lib.hid hb
          clear hb HV
          go_wp2_with fail
          refine (HS.out _).mono ?_
          rintro e w2 ⟨rfl, rfl⟩
          clear HS
          go_wp2_with fail
          refine (HMN.out _ (Keep.below HB.out)).mono ?_
          rintro e w3 ⟨rfl, hq⟩
          have HB3 := Lib.hid (below_quiet HB.out hq)
          clear hq HMN HB
          go_wp2
          go_ret
          exact ⟨ret_bool HR.out.symm, HB3.out⟩
      · have HS := Lib.hid (fun W => pb_false hs ▸ isSetOf_any m s W h5)
        have HE := Lib.hid (show pb (WQ g c s) = false from pb_false fun k => hs (by have := k.set; rwa [HLG.out] at this))
        clear hs
        go_enter Try.func62, Try.ntmps62
        go_wp2_with fail
        refine HV.out.mono ?_
        rintro e w1 ⟨rfl, hb⟩
        have HB := Lib.hid hb
        clear hb HV
        go_wp2_with fail
        refine (HS.out _).mono ?_
        rintro e w2 ⟨rfl, rfl⟩
        clear HS
        go_wp2
        go_ret
        exact ⟨ret_bool HE.out.symm, HB.out⟩
    · have hle : ((m : Int) != (n : Int)) = true := by simp; omega
      have HE := Lib.hid (show pb (WQ g c s) = false from pb_false fun k => hl (by have := k.len; rw [HLC.out, HLG.out] at this; exact this))
      clear hl
      go_enter Try.func62, Try.ntmps62
      go_wp2_with fail
      refine HV.out.mono ?_
      rintro e w1 ⟨rfl, hb⟩
      have HB := Lib.hid hb
      clear hb HV
      go_wp2
      go_ret
      exact ⟨ret_bool HE.out.symm, HB.out⟩
  · rw [pb_false hg] at HV
    have HE := Lib.hid (show pb (WQ g c s) = false from pb_false fun k => hg k.gr)
    clear hg
    go_enter Try.func62, Try.ntmps62
    go_wp2_with fail
    refine HV.out.mono ?_
    rintro e w1 ⟨rfl, hb⟩
    have HB := Lib.hid hb
    clear hb HV
    go_wp2
    go_ret
    exact ⟨ret_bool HE.out.symm, HB.out⟩

end Go.Proofs.Ytnbkifpmoegaaaa

/- BirthDrift and DeathDrift, by the program. -/
namespace Go.Proofs.Ytnbkifpmoegaaaa
open Go.RowKit

theorem nb_all9 : ((List.range 6).all fun n => (List.range (2 ^ n)).all fun s => memL s n == memL s 5) = true := by decide +kernel
theorem nb_n9 {g : List Int} (hi : InG g) (h5 : g.length ≤ 5) {v : Nat} (hv : v < g.length) : memL (gi g v).toNat g.length = nb g v := by
  have t := nb_all9
  simp only [List.all_eq_true, List.mem_range, beq_iff_eq] at t
  have h1 := hi v hv
  unfold InR at h1
  have h6 : ((2 ^ g.length : Nat) : Int) = (2 : Int) ^ g.length := by simp
  exact t g.length (by omega) (gi g v).toNat (by omega)
/-- One neighbour's part, by the program. -/
def iT (g c : List Int) (s : Int) (b : Bool) (v u : Nat) : Int := ((12 / dg g v : Nat) : Int) * (if b then gi c u * (sb s v - sb s u) else gi c v * (sb s u - sb s v))
def iR (g c : List Int) (s : Int) (b : Bool) (v : Nat) : Nat → Int := lS (iT g c s b v) (nn g v)
def iA (g c : List Int) (s : Int) (b : Bool) : Nat → Int := sU (fun v => iR g c s b v (dg g v))
theorem iR_all {g c : List Int} {s : Int} {b : Bool} (h : WQ g c s) {v : Nat} (hv : v < g.length) : iR g c s b v (dg g v) = sU (fun u => if bt g v u = 1 then iT g c s b v u else 0) g.length := by
  have e := lS_mem (iT g c s b v) (gi g v).toNat g.length
  rw [nb_n9 h.gr.b.inn h.gr.b.n5 hv] at e
  exact e
theorem iA_all {g c : List Int} {s : Int} {b : Bool} (h : WQ g c s) : iA g c s b g.length = dAll g c s b := by
  have e : iA g c s b g.length = sU (fun v => sU (fun u => if bt g v u = 1 then iT g c s b v u else 0) g.length) g.length := sU_congr fun v hv => iR_all h hv
  cases b
  · rw [e, sU_swap]
    refine sU_congr fun u hu => sU_congr fun v hv => ?_
    have hs : bt g v u = bt g u v := by
      rcases Nat.lt_trichotomy u v with h1 | h1 | h1
      · exact (h.gr.b.sym v hv).2 u h1
      · rw [h1]
      · exact ((h.gr.b.sym u hu).2 v h1).symm
    unfold dT iT byN
    rw [hs]
    simp
  · rw [e]
    refine sU_congr fun v hv => sU_congr fun u hu => ?_
    unfold dT iT byN
    simp
theorem iT_bd {g c : List Int} {s : Int} {b : Bool} (h : WQ g c s) {v u : Nat} (hv : v < g.length) (hu : u < g.length) : -12000 ≤ iT g c s b v u ∧ iT g c s b v u ≤ 12000 := by
  have h1 : 12 / dg g v ≤ 12 := Nat.div_le_self _ _
  have h2 := h.wt u (by rw [h.len]; exact hu)
  have h2' := h.wt v (by rw [h.len]; exact hv)
  unfold InR at h2 h2'
  have h3 : -1000 ≤ (if b then gi c u * (sb s v - sb s u) else gi c v * (sb s u - sb s v)) ∧ (if b then gi c u * (sb s v - sb s u) else gi c v * (sb s u - sb s v)) ≤ 1000 := by
    cases b <;> rcases sb_01 s v with e | e <;> rcases sb_01 s u with e2 | e2 <;> rw [e, e2] <;> simp <;> omega
  unfold iT
  generalize 12 / dg g v = k at *
  have h4 := mulbd (x := (k : Int)) (y := if b then gi c u * (sb s v - sb s u) else gi c v * (sb s u - sb s v)) (A := 12) (B := 1000) (by omega) h3
  omega
theorem lS_bd {f : Nat → Int} {l : List Nat} {B : Int} : ∀ {j : Nat}, j ≤ l.length → (∀ u, u ∈ l → -B ≤ f u ∧ f u ≤ B) → -((j : Int) * B) ≤ lS f l j ∧ lS f l j ≤ (j : Int) * B
  | 0, _, _ => by simp [lS]
  | j + 1, hj, h => by
    have h1 := lS_bd (j := j) (by omega) h
    have h2 := h _ (getD_mem (l := l) (j := j) (by omega))
    have e : ((j + 1 : Nat) : Int) * B = (j : Int) * B + B := by rw [Int.natCast_add, Int.add_mul]; simp
    rw [e, lS]; omega
theorem iR_bd {g c : List Int} {s : Int} {b : Bool} (h : WQ g c s) {v j : Nat} (hv : v < g.length) (hj : j ≤ dg g v) : -60000 ≤ iR g c s b v j ∧ iR g c s b v j ≤ 60000 := by
  have hd := h.gr.deg hv
  have := lS_bd (f := iT g c s b v) (l := nn g v) (B := 12000) (j := j) (by rw [nn_len]; exact hj) fun u hu => iT_bd h hv (bt_in h.gr.b.inn hv (mem_nn.1 hu).2)
  unfold iR; omega
theorem iA_bd {g c : List Int} {s : Int} {b : Bool} (h : WQ g c s) {v : Nat} (hv : v ≤ g.length) : -300000 ≤ iA g c s b v ∧ iA g c s b v ≤ 300000 := by
  have h5 := h.gr.b.n5
  have := sU_bd (f := fun v => iR g c s b v (dg g v)) (B := 60000) (m := v) fun k hk => iR_bd h (by omega) (Nat.le_refl _)
  unfold iA; omega
set_option maxRecDepth 100000 in
set_option maxHeartbeats 1600000 in
theorem BirthDrift_impl (A : Option Addr) (n k : Nat) (g : List Int) (C : Option Addr) (m kc : Nat) (c : List Int) (s : Int) (w : World) (hx : Ints w A n k g) (hc : Ints w C m kc c) (_ : Fit s) :
    Calls Try.prog 28 #[.slice A n k, .slice C m kc, .int .i64 s] w (Ret (.tuple #[dfV g c s true, .bool (pb (WQ g c s))]) w) := by
  have HPF := Lib.hid (PF.start w)
  have HX := Lib.hid (hx.keep HPF.out.keep)
  have HC := Lib.hid (hc.keep HPF.out.keep)
  have HLG := Lib.hid hx.len
  clear hx hc
  by_cases hw : WQ g c s
  · have HV := Lib.hid (pb_true hw ▸ isWeighed_any A C n k m kc g c s _ HX.out HC.out)
    have HFV : Hid (dfV g c s true = .agg #[.int .i64 (frU (dAll g c s true) (12 * (n : Int))), .int .i64 (frD (dAll g c s true) (12 * (n : Int)))]) := Lib.hid (by rw [df_yes hw, HLG.out]; rfl)
    have HFR : Hid (frV (dAll g c s true) (12 * (n : Int)) = .agg #[.int .i64 (frU (dAll g c s true) (12 * (n : Int))), .int .i64 (frD (dAll g c s true) (12 * (n : Int)))]) := Lib.hid rfl
    have HDB := Lib.hid (show -300000 ≤ dAll g c s true ∧ dAll g c s true ≤ 300000 from dA_bd hw (Nat.le_refl _))
    have hn2 : 2 ≤ n := by rw [← HLG.out]; exact hw.gr.b.n2
    have hn5 : n ≤ 5 := by rw [← HLG.out]; exact hw.gr.b.n5
    have HD := Lib.hid (fun W => HFR.out ▸ fracOf_any (dAll g c s true) (12 * (n : Int)) W (by have := HDB.out; unfold Mid; omega) (by unfold Mid; omega) (by omega))
    have HWP := Lib.hid (fun W a b => weighedPlaces_any A C n k m kc g c s W a b hw)
    have HP := Lib.hid (pb_true hw)
    have HEND := Lib.hid (show iA g c s true n = dAll g c s true by rw [← HLG.out]; exact iA_all hw)
    have HAB := Lib.hid (fun v (hv : v ≤ n) => iA_bd (b := true) hw (v := v) (by rw [HLG.out]; exact hv))
    have HRB := Lib.hid (fun v j (hv : v < n) (hj : j ≤ dg g v) => iR_bd (b := true) hw (v := v) (j := j) (by rw [HLG.out]; exact hv) hj)
    have HAS := Lib.hid (fun v => show iA g c s true (v + 1) = iA g c s true v + iR g c s true v (dg g v) from rfl)
    have HRS := Lib.hid (fun v j => show iR g c s true v (j + 1) = iR g c s true v j + iT g c s true v ((nn g v).getD j 0) from rfl)
    have HRZ : Hid (∀ v, iR g c s true v 0 = 0) := Lib.hid (fun _ => rfl)
    have HTT := Lib.hid (fun v u => show iT g c s true v u = ((12 / dg g v : Nat) : Int) * (gi c u * (sb s v - sb s u)) from rfl)
    have HTB := Lib.hid (fun v u (hv : v < n) (hu : u < n) => iT_bd (b := true) hw (v := v) (u := u) (by rw [HLG.out]; exact hv) (by rw [HLG.out]; exact hu))
    have HDG := Lib.hid (fun v (hv : v < n) => show 1 ≤ dg g v ∧ dg g v ≤ 4 from have q := hw.gr.deg (v := v) (by rw [HLG.out]; exact hv); ⟨q.1, q.2.1⟩)
    have HNL := Lib.hid (fun v => show (nn g v).length = dg g v from nn_len g v)
    have HNM := Lib.hid (fun v (hv : v < n) u (hu : u ∈ nn g v) => show u < n by rw [← HLG.out]; exact bt_in hw.gr.b.inn (by rw [HLG.out]; exact hv) (mem_nn.1 hu).2)
    have HS1 := Lib.hid (fun x (_ : x < n) => show 0 ≤ sb s x ∧ sb s x ≤ 1 by rcases sb_01 s x with e | e <;> rw [e] <;> omega)
    have HC1 := Lib.hid (fun x (hx : x < n) => show 0 ≤ gi c x ∧ gi c x ≤ 1000 from hw.wt x (by rw [hw.len, HLG.out]; exact hx))
    have HA0 : Hid (iA g c s true 0 = 0) := Lib.hid rfl
    clear hw HFR HDB
    generalize frU (dAll g c s true) (12 * (n : Int)) = U at *
    generalize frD (dAll g c s true) (12 * (n : Int)) = D at *
    generalize dAll g c s true = dall at *
    go_enter Try.func28, Try.ntmps28
    go_wp2_with fail
    refine HV.out.mono ?_
    rintro e w1 ⟨rfl, hb⟩
    have HP1 := Lib.hid (HPF.out.up hb)
    have HWC := Lib.hid (HWP.out w1 (HX.out.keep (Keep.below hb)) (HC.out.keep (Keep.below hb)))
    clear hb HV HPF HWP
    go_wp2_with fail
    refine HWC.out.mono ?_
    rintro e w2 ⟨rfl, hpw⟩
    have HP2 := Lib.hid (HP1.out.up hpw.up)
    obtain ⟨R, hpl⟩ := hpw.ex
    have HPL := Lib.hid hpl
    clear hpw hpl HWC HP1
    generalize w1.heap.size = BB at *
    go_wp2
    go_loopw [8, 24] (fun x i wr => ∃ v : Nat, v ≤ n ∧ i = .int .i64 v ∧ x = .int .i64 (iA g c s true v) ∧ Quiet w2 wr) (fun _ i _ => n - (intOf i).toNat)
    case atStart => exact ⟨0, Nat.zero_le _, rfl, by rw [HA0.out], Quiet.refl _⟩
    case round =>
      obtain ⟨v, hv, rfl, rfl, q, rfl⟩ := hrel
      by_cases hlt : v < n
      · have c1 : w2.cell? ⟨BB, v, none⟩ = some (.pointer (some ⟨BB + 1 + v, 0, none⟩)) := HPL.out.row.cell hlt
        obtain ⟨An, kn, hR, hN⟩ := HPL.out.near hlt
        have HN := Lib.hid hN
        have c2 := blk_cell (HPL.out.bl v hlt) (i := 0) rfl
        rw [hR, HNL.out] at c2
        obtain ⟨d1, d2⟩ := HDG.out v hlt
        have HR0 : Hid (iA g c s true v = iA g c s true v + iR g c s true v 0) := Lib.hid (by rw [HRZ.out, Int.add_zero])
        have hab := HAB.out v hv
        rw [HR0.out]
        clear hR hN HR0
        generalize hd : dg g v = dd at *
        have HDD := Lib.hid hd
        clear hd
        go_wp2
        go_loopw [8, 33] (fun x i wi => ∃ j : Nat, j ≤ dd ∧ i = .int .i64 j ∧ x = .int .i64 (iA g c s true v + iR g c s true v j) ∧ Quiet w2 wi) (fun _ i _ => dd - (intOf i).toNat)
        case atStart => exact ⟨0, Nat.zero_le _, rfl, rfl, ⟨_, rfl⟩⟩
        case round =>
          clear c1 c2
          obtain ⟨j, hj, rfl, rfl, q2, rfl⟩ := hrel
          by_cases hjl : j < dd
          · obtain ⟨bn, rfl, hcn⟩ := HN.out.at_ (by rw [HNL.out, HDD.out]; omega)
            have c3 := hcn j (by rw [HNL.out, HDD.out]; exact hjl)
            have hun := HNM.out v hlt _ (getD_mem (l := nn g v) (j := j) (by rw [HNL.out, HDD.out]; exact hjl))
            have hrs := HRS.out v j
            have hrb := HRB.out v j hlt (by rw [HDD.out]; exact hj)
            have hrb1 := HRB.out v (j + 1) hlt (by rw [HDD.out]; exact hjl)
            clear hcn
            generalize (nn g v).getD j 0 = u at *
            have htt := HTT.out v u
            rw [HDD.out] at htt
            have htb := HTB.out v u hlt hun
            have HCH := Lib.hid (HDD.out ▸ HNL.out v ▸ chanceOfEach_any BB n (nn g) (sb s) (gi c) R (w2.drewN q2) (HPL.out.quiet ⟨_, rfl⟩) v hlt (by rw [HNL.out, HDD.out]; exact ⟨d1, d2⟩))
            have HGF := Lib.hid (gainFrom_any BB n (nn g) (sb s) (gi c) R (w2.drewN q2) (HPL.out.quiet ⟨_, rfl⟩) u v hun hlt HS1.out HC1.out)
            rw [htt] at hrs htb
            clear htt
            have hg3 : -1000 ≤ gi c u * (sb s v - sb s u) ∧ gi c u * (sb s v - sb s u) ≤ 1000 := by
              obtain ⟨a1, a2⟩ := HS1.out v hlt
              obtain ⟨a3, a4⟩ := HS1.out u hun
              obtain ⟨a5, a6⟩ := HC1.out u hun
              have := mulbd (x := gi c u) (y := sb s v - sb s u) (A := 1000) (B := 1) (by omega) (by omega)
              omega
            generalize gi c u * (sb s v - sb s u) = gn at *
            have hk12 : 12 / dd ≤ 12 := Nat.div_le_self _ _
            generalize 12 / dd = ch at *
            generalize hN1 : iR g c s true v (j + 1) = r1 at *
            have HN1 := Lib.hid hN1
            clear hN1
            generalize iA g c s true v = a0 at *
            generalize iR g c s true v j = r0 at *
            obtain ⟨g1, g2⟩ := hg3
            go_wp2_with fail
            refine HCH.out.mono ?_
            rintro e w3 ⟨rfl, rfl⟩
            clear HCH
            go_wp2_with fail
            refine HGF.out.mono ?_
            rintro e w4 ⟨rfl, q3, rfl⟩
            clear HGF
            have hsum : a0 + r1 = a0 + r0 + (ch : Int) * gn := by rw [hrs, Int.add_assoc]
            have HSUM := Lib.hid hsum
            clear hrs hsum
            generalize hmul : (ch : Int) * gn = pr at *
            have HMUL := Lib.hid hmul
            have hws : IntKind.i64.wrap ((ch : Int) * gn) = pr := by rw [hmul, wrapIn (by omega)]
            clear hmul
            go_wp2
            go_roundw
            case rel => exact ⟨j + 1, by omega, by go_num, by rw [HN1.out, HSUM.out], ⟨_, rfl⟩⟩
            case measure => simp [intOf]; omega
          · obtain rfl : j = dd := by omega
            have HE := Lib.hid (show iA g c s true (v + 1) = iA g c s true v + iR g c s true v j by rw [HAS.out, HDD.out])
            go_wp2
            go_roundw
            case rel => exact ⟨v + 1, by omega, by go_num, by rw [HE.out], ⟨_, rfl⟩⟩
            case measure => simp [intOf]; omega
      · obtain rfl : v = n := by omega
        rw [HEND.out]
        have HP3 := Lib.hid (HP2.out.up (Quiet.below ⟨q, rfl⟩))
        have hn12 : IntKind.i64.wrap (12 * (v : Int)) = 12 * (v : Int) := wrapIn (by omega)
        go_wp2_with fail
        refine (HD.out _).mono ?_
        rintro e w5 ⟨rfl, hb⟩
        have HPF := Lib.hid (HP3.out.up hb)
        clear hb HD HP2 HP3 HPL
        have c0 := blk_cell HPF.out.box (i := 0) rfl
        have c1 := blk_cell HPF.out.box (i := 1) rfl
        have f0 := blk_frozen HPF.out.box 0
        have f1 := blk_frozen HPF.out.box 1
        go_wp2
        clear c0 c1 f0 f1
        have B1 := blk_set (blk_set HPF.out.box 0 (.int .i64 U)) 1 (.int .i64 D)
        have r0 := blk_cell B1 (i := 0) (v := .int .i64 U) rfl
        have r1 := blk_cell B1 (i := 1) (v := .int .i64 D) rfl
        have HBX := Lib.hid ((HPF.out.below.setCell (p := ⟨w.heap.size, 0, none⟩) (Nat.le_refl _) (.int .i64 U)).setCell (p := ⟨w.heap.size, 1, none⟩) (Nat.le_refl _) (.int .i64 D))
        clear B1 HPF
        generalize (w5.setCell ⟨w.heap.size, 0, none⟩ (.int .i64 U)).setCell ⟨w.heap.size, 1, none⟩ (.int .i64 D) = WE at *
        refine bodyPost_ret (v := .tuple #[.agg #[.int .i64 U, .int .i64 D], .bool true]) (by simp [results, Try.results28, go_sem, r0, r1]) rfl ?_
        exact ⟨by rw [HFV.out, HP.out], HBX.out⟩
  · have HV := Lib.hid (pb_false hw ▸ isWeighed_any A C n k m kc g c s _ HX.out HC.out)
    have HFV := Lib.hid (df_no (b := true) hw)
    have HP := Lib.hid (pb_false hw)
    clear hw
    go_enter Try.func28, Try.ntmps28
    go_wp2_with fail
    refine HV.out.mono ?_
    rintro e w1 ⟨rfl, hb⟩
    have HP1 := Lib.hid (HPF.out.up hb)
    clear hb HV HPF
    have HPF := HP1
    clear HP1
    have c0 := blk_cell HPF.out.box (i := 0) rfl
    have c1 := blk_cell HPF.out.box (i := 1) rfl
    have f0 := blk_frozen HPF.out.box 0
    have f1 := blk_frozen HPF.out.box 1
    go_wp2
    clear c0 c1 f0 f1
    have B1 := blk_set (blk_set HPF.out.box 0 (.int .i64 0)) 1 (.int .i64 0)
    have r0 := blk_cell B1 (i := 0) (v := .int .i64 0) rfl
    have r1 := blk_cell B1 (i := 1) (v := .int .i64 0) rfl
    have HBX := Lib.hid ((HPF.out.below.setCell (p := ⟨w.heap.size, 0, none⟩) (Nat.le_refl _) (.int .i64 0)).setCell (p := ⟨w.heap.size, 1, none⟩) (Nat.le_refl _) (.int .i64 0))
    clear B1 HPF
    generalize (w1.setCell ⟨w.heap.size, 0, none⟩ (.int .i64 0)).setCell ⟨w.heap.size, 1, none⟩ (.int .i64 0) = WE at *
    refine bodyPost_ret (v := .tuple #[.agg #[.int .i64 0, .int .i64 0], .bool false]) (by simp [results, Try.results28, go_sem, r0, r1]) rfl ?_
    exact ⟨by rw [HFV.out, HP.out], HBX.out⟩
set_option maxRecDepth 100000 in
set_option maxHeartbeats 1600000 in
theorem DeathDrift_impl (A : Option Addr) (n k : Nat) (g : List Int) (C : Option Addr) (m kc : Nat) (c : List Int) (s : Int) (w : World) (hx : Ints w A n k g) (hc : Ints w C m kc c) (_ : Fit s) :
    Calls Try.prog 31 #[.slice A n k, .slice C m kc, .int .i64 s] w (Ret (.tuple #[dfV g c s false, .bool (pb (WQ g c s))]) w) := by
  have HPF := Lib.hid (PF.start w)
  have HX := Lib.hid (hx.keep HPF.out.keep)
  have HC := Lib.hid (hc.keep HPF.out.keep)
  have HLG := Lib.hid hx.len
  clear hx hc
  by_cases hw : WQ g c s
  · have HV := Lib.hid (pb_true hw ▸ isWeighed_any A C n k m kc g c s _ HX.out HC.out)
    have HFV : Hid (dfV g c s false = .agg #[.int .i64 (frU (dAll g c s false) (12 * (n : Int))), .int .i64 (frD (dAll g c s false) (12 * (n : Int)))]) := Lib.hid (by rw [df_yes hw, HLG.out]; rfl)
    have HFR : Hid (frV (dAll g c s false) (12 * (n : Int)) = .agg #[.int .i64 (frU (dAll g c s false) (12 * (n : Int))), .int .i64 (frD (dAll g c s false) (12 * (n : Int)))]) := Lib.hid rfl
    have HDB := Lib.hid (show -300000 ≤ dAll g c s false ∧ dAll g c s false ≤ 300000 from dA_bd hw (Nat.le_refl _))
    have hn2 : 2 ≤ n := by rw [← HLG.out]; exact hw.gr.b.n2
    have hn5 : n ≤ 5 := by rw [← HLG.out]; exact hw.gr.b.n5
    have HD := Lib.hid (fun W => HFR.out ▸ fracOf_any (dAll g c s false) (12 * (n : Int)) W (by have := HDB.out; unfold Mid; omega) (by unfold Mid; omega) (by omega))
    have HWP := Lib.hid (fun W a b => weighedPlaces_any A C n k m kc g c s W a b hw)
    have HP := Lib.hid (pb_true hw)
    have HEND := Lib.hid (show iA g c s false n = dAll g c s false by rw [← HLG.out]; exact iA_all hw)
    have HAB := Lib.hid (fun v (hv : v ≤ n) => iA_bd (b := false) hw (v := v) (by rw [HLG.out]; exact hv))
    have HRB := Lib.hid (fun v j (hv : v < n) (hj : j ≤ dg g v) => iR_bd (b := false) hw (v := v) (j := j) (by rw [HLG.out]; exact hv) hj)
    have HAS := Lib.hid (fun v => show iA g c s false (v + 1) = iA g c s false v + iR g c s false v (dg g v) from rfl)
    have HRS := Lib.hid (fun v j => show iR g c s false v (j + 1) = iR g c s false v j + iT g c s false v ((nn g v).getD j 0) from rfl)
    have HRZ : Hid (∀ v, iR g c s false v 0 = 0) := Lib.hid (fun _ => rfl)
    have HTT := Lib.hid (fun v u => show iT g c s false v u = ((12 / dg g v : Nat) : Int) * (gi c v * (sb s u - sb s v)) from rfl)
    have HTB := Lib.hid (fun v u (hv : v < n) (hu : u < n) => iT_bd (b := false) hw (v := v) (u := u) (by rw [HLG.out]; exact hv) (by rw [HLG.out]; exact hu))
    have HDG := Lib.hid (fun v (hv : v < n) => show 1 ≤ dg g v ∧ dg g v ≤ 4 from have q := hw.gr.deg (v := v) (by rw [HLG.out]; exact hv); ⟨q.1, q.2.1⟩)
    have HNL := Lib.hid (fun v => show (nn g v).length = dg g v from nn_len g v)
    have HNM := Lib.hid (fun v (hv : v < n) u (hu : u ∈ nn g v) => show u < n by rw [← HLG.out]; exact bt_in hw.gr.b.inn (by rw [HLG.out]; exact hv) (mem_nn.1 hu).2)
    have HS1 := Lib.hid (fun x (_ : x < n) => show 0 ≤ sb s x ∧ sb s x ≤ 1 by rcases sb_01 s x with e | e <;> rw [e] <;> omega)
    have HC1 := Lib.hid (fun x (hx : x < n) => show 0 ≤ gi c x ∧ gi c x ≤ 1000 from hw.wt x (by rw [hw.len, HLG.out]; exact hx))
    have HA0 : Hid (iA g c s false 0 = 0) := Lib.hid rfl
    clear hw HFR HDB
    generalize frU (dAll g c s false) (12 * (n : Int)) = U at *
    generalize frD (dAll g c s false) (12 * (n : Int)) = D at *
    generalize dAll g c s false = dall at *
    go_enter Try.func31, Try.ntmps31
    go_wp2_with fail
    refine HV.out.mono ?_
    rintro e w1 ⟨rfl, hb⟩
    have HP1 := Lib.hid (HPF.out.up hb)
    have HWC := Lib.hid (HWP.out w1 (HX.out.keep (Keep.below hb)) (HC.out.keep (Keep.below hb)))
    clear hb HV HPF HWP
    go_wp2_with fail
    refine HWC.out.mono ?_
    rintro e w2 ⟨rfl, hpw⟩
    have HP2 := Lib.hid (HP1.out.up hpw.up)
    obtain ⟨R, hpl⟩ := hpw.ex
    have HPL := Lib.hid hpl
    clear hpw hpl HWC HP1
    generalize w1.heap.size = BB at *
    go_wp2
    go_loopw [8, 24] (fun x i wr => ∃ v : Nat, v ≤ n ∧ i = .int .i64 v ∧ x = .int .i64 (iA g c s false v) ∧ Quiet w2 wr) (fun _ i _ => n - (intOf i).toNat)
    case atStart => exact ⟨0, Nat.zero_le _, rfl, by rw [HA0.out], Quiet.refl _⟩
    case round =>
      obtain ⟨v, hv, rfl, rfl, q, rfl⟩ := hrel
      by_cases hlt : v < n
      · have c1 : w2.cell? ⟨BB, v, none⟩ = some (.pointer (some ⟨BB + 1 + v, 0, none⟩)) := HPL.out.row.cell hlt
        obtain ⟨An, kn, hR, hN⟩ := HPL.out.near hlt
        have HN := Lib.hid hN
        have c2 := blk_cell (HPL.out.bl v hlt) (i := 0) rfl
        rw [hR, HNL.out] at c2
        obtain ⟨d1, d2⟩ := HDG.out v hlt
        have HR0 : Hid (iA g c s false v = iA g c s false v + iR g c s false v 0) := Lib.hid (by rw [HRZ.out, Int.add_zero])
        have hab := HAB.out v hv
        rw [HR0.out]
        clear hR hN HR0
        generalize hd : dg g v = dd at *
        have HDD := Lib.hid hd
        clear hd
        go_wp2
        go_loopw [8, 33] (fun x i wi => ∃ j : Nat, j ≤ dd ∧ i = .int .i64 j ∧ x = .int .i64 (iA g c s false v + iR g c s false v j) ∧ Quiet w2 wi) (fun _ i _ => dd - (intOf i).toNat)
        case atStart => exact ⟨0, Nat.zero_le _, rfl, rfl, ⟨_, rfl⟩⟩
        case round =>
          clear c1 c2
          obtain ⟨j, hj, rfl, rfl, q2, rfl⟩ := hrel
          by_cases hjl : j < dd
          · obtain ⟨bn, rfl, hcn⟩ := HN.out.at_ (by rw [HNL.out, HDD.out]; omega)
            have c3 := hcn j (by rw [HNL.out, HDD.out]; exact hjl)
            have hun := HNM.out v hlt _ (getD_mem (l := nn g v) (j := j) (by rw [HNL.out, HDD.out]; exact hjl))
            have hrs := HRS.out v j
            have hrb := HRB.out v j hlt (by rw [HDD.out]; exact hj)
            have hrb1 := HRB.out v (j + 1) hlt (by rw [HDD.out]; exact hjl)
            clear hcn
            generalize (nn g v).getD j 0 = u at *
            have htt := HTT.out v u
            rw [HDD.out] at htt
            have htb := HTB.out v u hlt hun
            have HCH := Lib.hid (HDD.out ▸ HNL.out v ▸ chanceOfEach_any BB n (nn g) (sb s) (gi c) R (w2.drewN q2) (HPL.out.quiet ⟨_, rfl⟩) v hlt (by rw [HNL.out, HDD.out]; exact ⟨d1, d2⟩))
            have HGF := Lib.hid (gainFrom_any BB n (nn g) (sb s) (gi c) R (w2.drewN q2) (HPL.out.quiet ⟨_, rfl⟩) v u hlt hun HS1.out HC1.out)
            rw [htt] at hrs htb
            clear htt
            have hg3 : -1000 ≤ gi c v * (sb s u - sb s v) ∧ gi c v * (sb s u - sb s v) ≤ 1000 := by
              obtain ⟨a1, a2⟩ := HS1.out v hlt
              obtain ⟨a3, a4⟩ := HS1.out u hun
              obtain ⟨a5, a6⟩ := HC1.out v hlt
              have := mulbd (x := gi c v) (y := sb s u - sb s v) (A := 1000) (B := 1) (by omega) (by omega)
              omega
            generalize gi c v * (sb s u - sb s v) = gn at *
            have hk12 : 12 / dd ≤ 12 := Nat.div_le_self _ _
            generalize 12 / dd = ch at *
            generalize hN1 : iR g c s false v (j + 1) = r1 at *
            have HN1 := Lib.hid hN1
            clear hN1
            generalize iA g c s false v = a0 at *
            generalize iR g c s false v j = r0 at *
            obtain ⟨g1, g2⟩ := hg3
            go_wp2_with fail
            refine HCH.out.mono ?_
            rintro e w3 ⟨rfl, rfl⟩
            clear HCH
            go_wp2_with fail
            refine HGF.out.mono ?_
            rintro e w4 ⟨rfl, q3, rfl⟩
            clear HGF
            have hsum : a0 + r1 = a0 + r0 + (ch : Int) * gn := by rw [hrs, Int.add_assoc]
            have HSUM := Lib.hid hsum
            clear hrs hsum
            generalize hmul : (ch : Int) * gn = pr at *
            have HMUL := Lib.hid hmul
            have hws : IntKind.i64.wrap ((ch : Int) * gn) = pr := by rw [hmul, wrapIn (by omega)]
            clear hmul
            go_wp2
            go_roundw
            case rel => exact ⟨j + 1, by omega, by go_num, by rw [HN1.out, HSUM.out], ⟨_, rfl⟩⟩
            case measure => simp [intOf]; omega
          · obtain rfl : j = dd := by omega
            have HE := Lib.hid (show iA g c s false (v + 1) = iA g c s false v + iR g c s false v j by rw [HAS.out, HDD.out])
            go_wp2
            go_roundw
            case rel => exact ⟨v + 1, by omega, by go_num, by rw [HE.out], ⟨_, rfl⟩⟩
            case measure => simp [intOf]; omega
      · obtain rfl : v = n := by omega
        rw [HEND.out]
        have HP3 := Lib.hid (HP2.out.up (Quiet.below ⟨q, rfl⟩))
        have hn12 : IntKind.i64.wrap (12 * (v : Int)) = 12 * (v : Int) := wrapIn (by omega)
        go_wp2_with fail
        refine (HD.out _).mono ?_
        rintro e w5 ⟨rfl, hb⟩
        have HPF := Lib.hid (HP3.out.up hb)
        clear hb HD HP2 HP3 HPL
        have c0 := blk_cell HPF.out.box (i := 0) rfl
        have c1 := blk_cell HPF.out.box (i := 1) rfl
        have f0 := blk_frozen HPF.out.box 0
        have f1 := blk_frozen HPF.out.box 1
        go_wp2
        clear c0 c1 f0 f1
        have B1 := blk_set (blk_set HPF.out.box 0 (.int .i64 U)) 1 (.int .i64 D)
        have r0 := blk_cell B1 (i := 0) (v := .int .i64 U) rfl
        have r1 := blk_cell B1 (i := 1) (v := .int .i64 D) rfl
        have HBX := Lib.hid ((HPF.out.below.setCell (p := ⟨w.heap.size, 0, none⟩) (Nat.le_refl _) (.int .i64 U)).setCell (p := ⟨w.heap.size, 1, none⟩) (Nat.le_refl _) (.int .i64 D))
        clear B1 HPF
        generalize (w5.setCell ⟨w.heap.size, 0, none⟩ (.int .i64 U)).setCell ⟨w.heap.size, 1, none⟩ (.int .i64 D) = WE at *
        refine bodyPost_ret (v := .tuple #[.agg #[.int .i64 U, .int .i64 D], .bool true]) (by simp [results, Try.results31, go_sem, r0, r1]) rfl ?_
        exact ⟨by rw [HFV.out, HP.out], HBX.out⟩
  · have HV := Lib.hid (pb_false hw ▸ isWeighed_any A C n k m kc g c s _ HX.out HC.out)
    have HFV := Lib.hid (df_no (b := false) hw)
    have HP := Lib.hid (pb_false hw)
    clear hw
    go_enter Try.func31, Try.ntmps31
    go_wp2_with fail
    refine HV.out.mono ?_
    rintro e w1 ⟨rfl, hb⟩
    have HP1 := Lib.hid (HPF.out.up hb)
    clear hb HV HPF
    have HPF := HP1
    clear HP1
    have c0 := blk_cell HPF.out.box (i := 0) rfl
    have c1 := blk_cell HPF.out.box (i := 1) rfl
    have f0 := blk_frozen HPF.out.box 0
    have f1 := blk_frozen HPF.out.box 1
    go_wp2
    clear c0 c1 f0 f1
    have B1 := blk_set (blk_set HPF.out.box 0 (.int .i64 0)) 1 (.int .i64 0)
    have r0 := blk_cell B1 (i := 0) (v := .int .i64 0) rfl
    have r1 := blk_cell B1 (i := 1) (v := .int .i64 0) rfl
    have HBX := Lib.hid ((HPF.out.below.setCell (p := ⟨w.heap.size, 0, none⟩) (Nat.le_refl _) (.int .i64 0)).setCell (p := ⟨w.heap.size, 1, none⟩) (Nat.le_refl _) (.int .i64 0))
    clear B1 HPF
    generalize (w1.setCell ⟨w.heap.size, 0, none⟩ (.int .i64 0)).setCell ⟨w.heap.size, 1, none⟩ (.int .i64 0) = WE at *
    refine bodyPost_ret (v := .tuple #[.agg #[.int .i64 0, .int .i64 0], .bool false]) (by simp [results, Try.results31, go_sem, r0, r1]) rfl ?_
    exact ⟨by rw [HFV.out, HP.out], HBX.out⟩

end Go.Proofs.Ytnbkifpmoegaaaa

