/- Texts merged: N9 N10 Ones F1 FU Mix Math52 N11. -/
import Derived.Test.YtnbkifpmoegaaaaQ10
import Derived.BigRegion
/- Places with weights and sides, by the program. -/
namespace Go.Proofs.Ytnbkifpmoegaaaa
open Go.RowKit

theorem mn_iff {xs : List Int} {z : Int} : ∀ {k : Nat}, z ≤ mn xs k ↔ ∀ j, j ≤ k → z ≤ gi xs j
  | 0 => ⟨fun h j hj => by obtain rfl : j = 0 := by omega
                           exact h, fun h => h 0 (Nat.le_refl _)⟩
  | k + 1 => by
    show z ≤ min (mn xs k) (gi xs (k + 1)) ↔ _
    constructor
    · intro h j hj
      by_cases e : j = k + 1
      · subst e; omega
      · exact (mn_iff (k := k)).1 (by omega) j (by omega)
    · intro h
      have h1 := (mn_iff (k := k)).2 fun j hj => h j (by omega)
      have h2 := h (k + 1) (Nat.le_refl _)
      omega
theorem wt_iff {c : List Int} (h0 : 0 < c.length) : (∀ i, i < c.length → InR (gi c i) 0 1000) ↔ 0 ≤ lst c ∧ mxl c ≤ 1000 := by
  constructor
  · intro h
    refine ⟨mn_iff.2 fun j hj => (h j (by omega)).1, ?_⟩
    obtain ⟨j, hj, e⟩ := mx_at c (c.length - 1)
    unfold mxl; rw [← e]
    exact (h j (by omega)).2
  · rintro ⟨h1, h2⟩ i hi
    exact ⟨mn_iff.1 h1 i (by omega), Int.le_trans (mx_ge c (k := c.length - 1) (by omega)) h2⟩
theorem PLr.set {B n L s c R W} (h : PLr B n L s c R W) {i : Nat} (hi : i < n) (x y : Int) :
    PLr B n L (upd s i y) (upd c i x) R ((W.setCell ⟨B + 1 + i, 2, none⟩ (.int .i64 x)).setCell ⟨B + 1 + i, 1, none⟩ (.int .i64 y)) := by
  have hs := h.sz
  refine ⟨by simpa [World.setCell] using hs, (h.row.setOther (by show B ≠ B + 1 + i; omega) _).setOther (by show B ≠ B + 1 + i; omega) _, fun v hv => ?_, fun v hv => ?_, h.far⟩
  · by_cases e : v = i
    · subst e
      rw [upd_same, upd_same]
      exact blk_set (blk_set (h.bl v hv) 2 _) 1 _
    · rw [upd_other _ _ e, upd_other _ _ e]
      exact blk_other (blk_other (h.bl v hv) (by show B + 1 + v ≠ B + 1 + i; omega) _) (by show B + 1 + v ≠ B + 1 + i; omega) _
  · exact ownsRow_setCell_below (ownsRow_setCell_below (h.own v hv) (by show B + 1 + i < B + 1 + n; omega) _) (by show B + 1 + i < B + 1 + n; omega) _
theorem PW.set {w n L s c W} (h : PW w n L s c W) {i : Nat} (hi : i < n) (x y : Int) :
    PW w n L (upd s i y) (upd c i x) ((W.setCell ⟨w.heap.size + 1 + i, 2, none⟩ (.int .i64 x)).setCell ⟨w.heap.size + 1 + i, 1, none⟩ (.int .i64 y)) :=
  ⟨(h.up.setCell (by show w.heap.size ≤ w.heap.size + 1 + i; omega) _).setCell (by show w.heap.size ≤ w.heap.size + 1 + i; omega) _, let ⟨R, q⟩ := h.ex; ⟨R, q.set hi x y⟩⟩
/-- Weights and sides of the first i places. -/
def wS (s : Int) (i : Nat) : Nat → Int := fun v => if v < i then sb s v else 0
def wC (c : List Int) (i : Nat) : Nat → Int := fun v => if v < i then gi c v else 0
theorem wS_next (s : Int) (i v : Nat) : upd (wS s i) i (sb s i) v = wS s (i + 1) v := by
  by_cases e : v = i
  · subst e; rw [upd_same]; unfold wS; rw [if_pos (by omega)]
  · rw [upd_other _ _ e]; unfold wS
    by_cases h : v < i
    · rw [if_pos h, if_pos (by omega)]
    · rw [if_neg h, if_neg (by omega)]
theorem wC_next (c : List Int) (i v : Nat) : upd (wC c i) i (gi c i) v = wC c (i + 1) v := by
  by_cases e : v = i
  · subst e; rw [upd_same]; unfold wC; rw [if_pos (by omega)]
  · rw [upd_other _ _ e]; unfold wC
    by_cases h : v < i
    · rw [if_pos h, if_pos (by omega)]
    · rw [if_neg h, if_neg (by omega)]
theorem sh_side : ∀ s, s < 32 → ∀ i, i < 5 → bits BinOp.and IntKind.i64 (((s : Nat) : Int) / 2 ^ i) 1 = ((s / 2 ^ i % 2 : Nat) : Int) := by decide +kernel
def NewWp (w : World) (n : Nat) (L : Nat → List Nat) (s c : Nat → Int) (e : Ending) (w' : World) : Prop := e = .returned (.slice (some ⟨w.heap.size, 0, none⟩) n n) ∧ PW w n L s c w'
set_option maxRecDepth 100000 in
set_option maxHeartbeats 1600000 in
theorem weighedPlaces_any (A C : Option Addr) (n k m kc : Nat) (g c : List Int) (s : Int) (w : World) (hx : Ints w A n k g) (hc : Ints w C m kc c) (h : WQ g c s) :
    Calls Try.prog 63 #[.slice A n k, .slice C m kc, .int .i64 s] w (NewWp w n (nn g) (sb s) (gi c)) := by
  have HC := Lib.hid hc
  have hl := hx.len
  have hm : m = n := by rw [← hl, ← hc.len, h.len]
  subst hm
  have h5 : m ≤ 5 := by rw [← hl]; exact h.gr.b.n5
  have HPL := Lib.hid (placesOf_any A m k g w hx h.gr.b.inn h5)
  obtain ⟨hs1, hs2⟩ : s = (s.toNat : Int) ∧ s.toNat < 32 := by
    have h1 := h.set
    unfold InR at h1
    have h6 : ((2 ^ g.length : Nat) : Int) = (2 : Int) ^ g.length := by simp
    have h7 : 2 ^ g.length ≤ 2 ^ 5 := Nat.pow_le_pow_right (by omega) (by omega)
    omega
  have HSB := Lib.hid (fun v => show sb s v = ((s.toNat / 2 ^ v % 2 : Nat) : Int) from rfl)
  rw [show (Value.int .i64 s) = .int .i64 (s.toNat : Int) by rw [← hs1]]
  clear hx hc hl h hs1
  generalize s.toNat = t at *
  have HSH := Lib.hid (sh_side t hs2)
  go_enter Try.func63, Try.ntmps63
  go_wp2_with fail
  refine HPL.out.mono ?_
  rintro e w1 ⟨rfl, hpw⟩
  have HW0 := Lib.hid (show PW w m (nn g) (wS s 0) (wC c 0) w1 from hpw.congr (fun _ _ => rfl) (fun v _ => by unfold wS; rw [if_neg (by omega)]) (fun v _ => by unfold wC; rw [if_neg (by omega)]))
  clear HPL hpw
  go_wp2
  go_loopw [14] (fun i wr => ∃ v : Nat, v ≤ m ∧ i = .int .i64 v ∧ Hid (PW w m (nn g) (wS s v) (wC c v) wr)) (fun i _ => m - (intOf i).toNat)
  case atStart => exact ⟨0, Nat.zero_le _, rfl, HW0⟩
  case round =>
    clear HW0
    obtain ⟨v, hv, rfl, HP⟩ := hrel
    by_cases hlt : v < m
    · obtain ⟨b, o, rfl, hcc⟩ := (HC.out.keep (Keep.below HP.out.up)).at_ (by omega)
      have c2 := hcc v hlt
      obtain ⟨R, hpl⟩ := HP.out.ex
      have c1 : wr.cell? ⟨w.heap.size, v, none⟩ = some (.pointer (some ⟨w.heap.size + 1 + v, 0, none⟩)) := hpl.row.cell hlt
      have B0 := hpl.bl v hlt
      have c3 := blk_cell B0 (i := 2) rfl
      have f3 := blk_frozen B0 2
      have B1 := blk_set B0 2 (.int .i64 (gi c v))
      have c4 := blk_cell B1 (i := 1) rfl
      have f4 := blk_frozen B1 1
      have hbt := HSH.out v (by omega)
      have HN := Lib.hid (show PW w m (nn g) (wS s (v + 1)) (wC c (v + 1)) ((wr.setCell ⟨w.heap.size + 1 + v, 2, none⟩ (.int .i64 (gi c v))).setCell ⟨w.heap.size + 1 + v, 1, none⟩ (.int .i64 ((t / 2 ^ v % 2 : Nat) : Int))) from by
        rw [← HSB.out v]
        exact (HP.out.set hlt (gi c v) (sb s v)).congr (fun _ _ => rfl) (fun x _ => wS_next s v x) (fun x _ => wC_next c v x))
      clear hcc hpl B0 B1 HP
      generalize gi c v = x at *
      go_wp2
      go_roundw
      case rel => exact ⟨v + 1, by omega, by go_num, HN⟩
      case measure => simp [intOf]; omega
    · obtain rfl : v = m := by omega
      have HE := Lib.hid (show PW w v (nn g) (sb s) (gi c) wr from HP.out.congr (fun _ _ => rfl) (fun x hx => by unfold wS; rw [if_pos hx]) (fun x hx => by unfold wC; rw [if_pos hx]))
      clear HP
      go_wp2
      go_ret
      exact ⟨rfl, HE.out⟩
set_option maxRecDepth 100000 in
set_option maxHeartbeats 800000 in
theorem gainFrom_any (B n : Nat) (L : Nat → List Nat) (s c : Nat → Int) (R : Nat → Value) (w : World) (h : PLr B n L s c R w) (v u : Nat) (hv : v < n) (hu : u < n)
    (h1 : ∀ x, x < n → 0 ≤ s x ∧ s x ≤ 1) (h2 : ∀ x, x < n → 0 ≤ c x ∧ c x ≤ 1000) :
    Calls Try.prog 65 #[.pointer (some ⟨B + 1 + v, 0, none⟩), .pointer (some ⟨B + 1 + u, 0, none⟩)] w fun e w' => e = .returned (.int .i64 (c v * (s u - s v))) ∧ Quiet w w' := by
  have c1 := blk_cell (h.bl v hv) (i := 2) rfl
  have c2 := blk_cell (h.bl v hv) (i := 1) rfl
  have c3 := blk_cell (h.bl u hu) (i := 1) rfl
  obtain ⟨a1, a2⟩ := h1 v hv
  obtain ⟨a3, a4⟩ := h1 u hu
  obtain ⟨a5, a6⟩ := h2 v hv
  obtain ⟨m1, m2⟩ := mulbd (x := c v) (y := s u - s v) (A := 1000) (B := 1) (by omega) (by omega)
  clear h h1 h2
  generalize c v = x at *
  generalize s v = y at *
  generalize s u = z at *
  have e1 : IntKind.i64.wrap (z - y) = z - y := wrapIn (by omega)
  have e2 : IntKind.i64.wrap (x * (z - y)) = x * (z - y) := wrapIn (by omega)
  go_enter Try.func65, Try.ntmps65
  go_wp2
  go_quiet (fail)
  go_wp2
  go_ret
  exact ⟨rfl, ⟨_, rfl⟩⟩
set_option maxRecDepth 100000 in
set_option maxHeartbeats 400000 in
theorem chanceOfEach_any (B n : Nat) (L : Nat → List Nat) (s c : Nat → Int) (R : Nat → Value) (w : World) (h : PLr B n L s c R w) (v : Nat) (hv : v < n) (h1 : 1 ≤ (L v).length ∧ (L v).length ≤ 4) :
    Calls Try.prog 64 #[.pointer (some ⟨B + 1 + v, 0, none⟩)] w fun e w' => e = .returned (.int .i64 ((12 / (L v).length : Nat) : Int)) ∧ w = w' := by
  obtain ⟨A, k, hR, _⟩ := h.near hv
  have c1 := blk_cell (h.bl v hv) (i := 0) rfl
  rw [hR] at c1
  clear hR h
  generalize (L v).length = d at *
  have hd : d = 1 ∨ d = 2 ∨ d = 3 ∨ d = 4 := by omega
  clear h1
  rcases hd with rfl | rfl | rfl | rfl
  all_goals
    go_enter Try.func64, Try.ntmps64
    go_wp2
    go_ret
    exact ⟨by first | rfl | simp, rfl⟩
set_option maxRecDepth 100000 in
set_option maxHeartbeats 1600000 in
theorem isWeighed_any (A C : Option Addr) (n k m kc : Nat) (g c : List Int) (s : Int) (w : World) (hx : Ints w A n k g) (hc : Ints w C m kc c) :
    Calls Try.prog 62 #[.slice A n k, .slice C m kc, .int .i64 s] w (Ret (.bool (pb (WQ g c s))) w) := by
  have HLC := Lib.hid hc.len
  have HLG := Lib.hid hx.len
  have HCC := Lib.hid hc
  have HV := Lib.hid (ValidGraph_impl A n k g w hx)
  clear hx hc
  by_cases hg : GR g
  · rw [pb_true hg] at HV
    have HG := Lib.hid hg
    have h5 : n ≤ 5 := by rw [← HLG.out]; exact hg.b.n5
    have h2 : 2 ≤ n := by rw [← HLG.out]; exact hg.b.n2
    clear hg
    by_cases hl : m = n
    · subst hl
      have hle : ((m : Int) != (m : Int)) = false := by simp
      by_cases hs : InR s 0 (2 ^ m - 1)
      · have HS := Lib.hid (fun W => pb_true hs ▸ isSetOf_any m s W h5)
        have HE : Hid (pb (WQ g c s) = pb (0 ≤ lst c ∧ mxl c ≤ 1000)) := Lib.hid (pb_congr ⟨fun h => (wt_iff (by rw [HLC.out]; omega)).1 h.wt, fun h => ⟨HG.out, by rw [HLC.out, HLG.out], (wt_iff (by rw [HLC.out]; omega)).2 h, by rw [HLG.out]; exact hs⟩⟩)
        have HMN := Lib.hid (fun W K => Min_any C m kc c W (HCC.out.keep K) (by omega))
        have HMX := Lib.hid (fun W K => Max_any C m kc c W (HCC.out.keep K) (by omega))
        clear hs
        generalize lst c = x at *
        generalize mxl c = y at *
        by_cases h0 : 0 ≤ x
        · have d0 : decide (0 ≤ x) = true := decide_eq_true h0
          have HR : Hid (decide (y ≤ 1000) = pb (WQ g c s)) := Lib.hid (by
            rw [HE.out]
            by_cases h : y ≤ 1000
            · rw [pb_true ⟨h0, h⟩, decide_eq_true h]
            · rw [pb_false (fun k => h k.2), decide_eq_false h])
          clear HE
          go_enter Try.func62, Try.ntmps62
          go_wp2_with fail
          refine HV.out.mono ?_
          rintro e w1 ⟨rfl, hb⟩
          have HB := Lib.hid hb
          clear hb HV
          go_wp2_with fail
          refine (HS.out _).mono ?_
          rintro e w2 ⟨rfl, rfl⟩
          clear HS
          go_wp2_with fail
          refine (HMN.out _ (Keep.below HB.out)).mono ?_
          rintro e w3 ⟨rfl, hq⟩
          have HB3 := Lib.hid (below_quiet HB.out hq)
          clear hq HMN HB
          go_wp2_with fail
          refine (HMX.out _ (Keep.below HB3.out)).mono ?_
          rintro e w4 ⟨rfl, hq⟩
          have HB4 := Lib.hid (below_quiet HB3.out hq)
          clear hq HMX HB3
          go_wp2
          go_ret
          exact ⟨ret_bool HR.out, HB4.out⟩
        · have d0 : decide (0 ≤ x) = false := decide_eq_false h0
          have HR : Hid (pb (WQ g c s) = false) := Lib.hid (by rw [HE.out]; exact pb_false fun k => h0 k.1)
          clear HE HMX
          go_enter Try.func62, Try.ntmps62
          go_wp2_with fail
          refine HV.out.mono ?_
          rintro e w1 ⟨rfl, hb⟩
          have HB := Lib.hid hb
          clear hb HV
          go_wp2_with fail
          refine (HS.out _).mono ?_
          rintro e w2 ⟨rfl, rfl⟩
          clear HS
          go_wp2_with fail
          refine (HMN.out _ (Keep.below HB.out)).mono ?_
          rintro e w3 ⟨rfl, hq⟩
          have HB3 := Lib.hid (below_quiet HB.out hq)
          clear hq HMN HB
          go_wp2
          go_ret
          exact ⟨ret_bool HR.out.symm, HB3.out⟩
      · have HS := Lib.hid (fun W => pb_false hs ▸ isSetOf_any m s W h5)
        have HE := Lib.hid (show pb (WQ g c s) = false from pb_false fun k => hs (by have := k.set; rwa [HLG.out] at this))
        clear hs
        go_enter Try.func62, Try.ntmps62
        go_wp2_with fail
        refine HV.out.mono ?_
        rintro e w1 ⟨rfl, hb⟩
        have HB := Lib.hid hb
        clear hb HV
        go_wp2_with fail
        refine (HS.out _).mono ?_
        rintro e w2 ⟨rfl, rfl⟩
        clear HS
        go_wp2
        go_ret
        exact ⟨ret_bool HE.out.symm, HB.out⟩
    · have hle : ((m : Int) != (n : Int)) = true := by simp; omega
      have HE := Lib.hid (show pb (WQ g c s) = false from pb_false fun k => hl (by have := k.len; rw [HLC.out, HLG.out] at this; exact this))
      clear hl
      go_enter Try.func62, Try.ntmps62
      go_wp2_with fail
      refine HV.out.mono ?_
      rintro e w1 ⟨rfl, hb⟩
      have HB := Lib.hid hb
      clear hb HV
      go_wp2
      go_ret
      exact ⟨ret_bool HE.out.symm, HB.out⟩
  · rw [pb_false hg] at HV
    have HE := Lib.hid (show pb (WQ g c s) = false from pb_false fun k => hg k.gr)
    clear hg
    go_enter Try.func62, Try.ntmps62
    go_wp2_with fail
    refine HV.out.mono ?_
    rintro e w1 ⟨rfl, hb⟩
    have HB := Lib.hid hb
    clear hb HV
    go_wp2
    go_ret
    exact ⟨ret_bool HE.out.symm, HB.out⟩

end Go.Proofs.Ytnbkifpmoegaaaa

/- BirthDrift and DeathDrift, by the program. -/
namespace Go.Proofs.Ytnbkifpmoegaaaa
open Go.RowKit

theorem nb_all9 : ((List.range 6).all fun n => (List.range (2 ^ n)).all fun s => memL s n == memL s 5) = true := by decide +kernel
theorem nb_n9 {g : List Int} (hi : InG g) (h5 : g.length ≤ 5) {v : Nat} (hv : v < g.length) : memL (gi g v).toNat g.length = nb g v := by
  have t := nb_all9
  simp only [List.all_eq_true, List.mem_range, beq_iff_eq] at t
  have h1 := hi v hv
  unfold InR at h1
  have h6 : ((2 ^ g.length : Nat) : Int) = (2 : Int) ^ g.length := by simp
  exact t g.length (by omega) (gi g v).toNat (by omega)
/-- One neighbour's part, by the program. -/
def iT (g c : List Int) (s : Int) (b : Bool) (v u : Nat) : Int := ((12 / dg g v : Nat) : Int) * (if b then gi c u * (sb s v - sb s u) else gi c v * (sb s u - sb s v))
def iR (g c : List Int) (s : Int) (b : Bool) (v : Nat) : Nat → Int := lS (iT g c s b v) (nn g v)
def iA (g c : List Int) (s : Int) (b : Bool) : Nat → Int := sU (fun v => iR g c s b v (dg g v))
theorem iR_all {g c : List Int} {s : Int} {b : Bool} (h : WQ g c s) {v : Nat} (hv : v < g.length) : iR g c s b v (dg g v) = sU (fun u => if bt g v u = 1 then iT g c s b v u else 0) g.length := by
  have e := lS_mem (iT g c s b v) (gi g v).toNat g.length
  rw [nb_n9 h.gr.b.inn h.gr.b.n5 hv] at e
  exact e
theorem iA_all {g c : List Int} {s : Int} {b : Bool} (h : WQ g c s) : iA g c s b g.length = dAll g c s b := by
  have e : iA g c s b g.length = sU (fun v => sU (fun u => if bt g v u = 1 then iT g c s b v u else 0) g.length) g.length := sU_congr fun v hv => iR_all h hv
  cases b
  · rw [e, sU_swap]
    refine sU_congr fun u hu => sU_congr fun v hv => ?_
    have hs : bt g v u = bt g u v := by
      rcases Nat.lt_trichotomy u v with h1 | h1 | h1
      · exact (h.gr.b.sym v hv).2 u h1
      · rw [h1]
      · exact ((h.gr.b.sym u hu).2 v h1).symm
    unfold dT iT byN
    rw [hs]
    simp
  · rw [e]
    refine sU_congr fun v hv => sU_congr fun u hu => ?_
    unfold dT iT byN
    simp
theorem iT_bd {g c : List Int} {s : Int} {b : Bool} (h : WQ g c s) {v u : Nat} (hv : v < g.length) (hu : u < g.length) : -12000 ≤ iT g c s b v u ∧ iT g c s b v u ≤ 12000 := by
  have h1 : 12 / dg g v ≤ 12 := Nat.div_le_self _ _
  have h2 := h.wt u (by rw [h.len]; exact hu)
  have h2' := h.wt v (by rw [h.len]; exact hv)
  unfold InR at h2 h2'
  have h3 : -1000 ≤ (if b then gi c u * (sb s v - sb s u) else gi c v * (sb s u - sb s v)) ∧ (if b then gi c u * (sb s v - sb s u) else gi c v * (sb s u - sb s v)) ≤ 1000 := by
    cases b <;> rcases sb_01 s v with e | e <;> rcases sb_01 s u with e2 | e2 <;> rw [e, e2] <;> simp <;> omega
  unfold iT
  generalize 12 / dg g v = k at *
  have h4 := mulbd (x := (k : Int)) (y := if b then gi c u * (sb s v - sb s u) else gi c v * (sb s u - sb s v)) (A := 12) (B := 1000) (by omega) h3
  omega
theorem lS_bd {f : Nat → Int} {l : List Nat} {B : Int} : ∀ {j : Nat}, j ≤ l.length → (∀ u, u ∈ l → -B ≤ f u ∧ f u ≤ B) → -((j : Int) * B) ≤ lS f l j ∧ lS f l j ≤ (j : Int) * B
  | 0, _, _ => by simp [lS]
  | j + 1, hj, h => by
    have h1 := lS_bd (j := j) (by omega) h
    have h2 := h _ (getD_mem (l := l) (j := j) (by omega))
    have e : ((j + 1 : Nat) : Int) * B = (j : Int) * B + B := by rw [Int.natCast_add, Int.add_mul]; simp
    rw [e, lS]; omega
theorem iR_bd {g c : List Int} {s : Int} {b : Bool} (h : WQ g c s) {v j : Nat} (hv : v < g.length) (hj : j ≤ dg g v) : -60000 ≤ iR g c s b v j ∧ iR g c s b v j ≤ 60000 := by
  have hd := h.gr.deg hv
  have := lS_bd (f := iT g c s b v) (l := nn g v) (B := 12000) (j := j) (by rw [nn_len]; exact hj) fun u hu => iT_bd h hv (bt_in h.gr.b.inn hv (mem_nn.1 hu).2)
  unfold iR; omega
theorem iA_bd {g c : List Int} {s : Int} {b : Bool} (h : WQ g c s) {v : Nat} (hv : v ≤ g.length) : -300000 ≤ iA g c s b v ∧ iA g c s b v ≤ 300000 := by
  have h5 := h.gr.b.n5
  have := sU_bd (f := fun v => iR g c s b v (dg g v)) (B := 60000) (m := v) fun k hk => iR_bd h (by omega) (Nat.le_refl _)
  unfold iA; omega
set_option maxRecDepth 100000 in
set_option maxHeartbeats 1600000 in
theorem BirthDrift_impl (A : Option Addr) (n k : Nat) (g : List Int) (C : Option Addr) (m kc : Nat) (c : List Int) (s : Int) (w : World) (hx : Ints w A n k g) (hc : Ints w C m kc c) (_ : Fit s) :
    Calls Try.prog 28 #[.slice A n k, .slice C m kc, .int .i64 s] w (Ret (.tuple #[dfV g c s true, .bool (pb (WQ g c s))]) w) := by
  have HPF := Lib.hid (PF.start w)
  have HX := Lib.hid (hx.keep HPF.out.keep)
  have HC := Lib.hid (hc.keep HPF.out.keep)
  have HLG := Lib.hid hx.len
  clear hx hc
  by_cases hw : WQ g c s
  · have HV := Lib.hid (pb_true hw ▸ isWeighed_any A C n k m kc g c s _ HX.out HC.out)
    have HFV : Hid (dfV g c s true = .agg #[.int .i64 (frU (dAll g c s true) (12 * (n : Int))), .int .i64 (frD (dAll g c s true) (12 * (n : Int)))]) := Lib.hid (by rw [df_yes hw, HLG.out]; rfl)
    have HFR : Hid (frV (dAll g c s true) (12 * (n : Int)) = .agg #[.int .i64 (frU (dAll g c s true) (12 * (n : Int))), .int .i64 (frD (dAll g c s true) (12 * (n : Int)))]) := Lib.hid rfl
    have HDB := Lib.hid (show -300000 ≤ dAll g c s true ∧ dAll g c s true ≤ 300000 from dA_bd hw (Nat.le_refl _))
    have hn2 : 2 ≤ n := by rw [← HLG.out]; exact hw.gr.b.n2
    have hn5 : n ≤ 5 := by rw [← HLG.out]; exact hw.gr.b.n5
    have HD := Lib.hid (fun W => HFR.out ▸ fracOf_any (dAll g c s true) (12 * (n : Int)) W (by have := HDB.out; unfold Mid; omega) (by unfold Mid; omega) (by omega))
    have HWP := Lib.hid (fun W a b => weighedPlaces_any A C n k m kc g c s W a b hw)
    have HP := Lib.hid (pb_true hw)
    have HEND := Lib.hid (show iA g c s true n = dAll g c s true by rw [← HLG.out]; exact iA_all hw)
    have HAB := Lib.hid (fun v (hv : v ≤ n) => iA_bd (b := true) hw (v := v) (by rw [HLG.out]; exact hv))
    have HRB := Lib.hid (fun v j (hv : v < n) (hj : j ≤ dg g v) => iR_bd (b := true) hw (v := v) (j := j) (by rw [HLG.out]; exact hv) hj)
    have HAS := Lib.hid (fun v => show iA g c s true (v + 1) = iA g c s true v + iR g c s true v (dg g v) from rfl)
    have HRS := Lib.hid (fun v j => show iR g c s true v (j + 1) = iR g c s true v j + iT g c s true v ((nn g v).getD j 0) from rfl)
    have HRZ : Hid (∀ v, iR g c s true v 0 = 0) := Lib.hid (fun _ => rfl)
    have HTT := Lib.hid (fun v u => show iT g c s true v u = ((12 / dg g v : Nat) : Int) * (gi c u * (sb s v - sb s u)) from rfl)
    have HTB := Lib.hid (fun v u (hv : v < n) (hu : u < n) => iT_bd (b := true) hw (v := v) (u := u) (by rw [HLG.out]; exact hv) (by rw [HLG.out]; exact hu))
    have HDG := Lib.hid (fun v (hv : v < n) => show 1 ≤ dg g v ∧ dg g v ≤ 4 from have q := hw.gr.deg (v := v) (by rw [HLG.out]; exact hv); ⟨q.1, q.2.1⟩)
    have HNL := Lib.hid (fun v => show (nn g v).length = dg g v from nn_len g v)
    have HNM := Lib.hid (fun v (hv : v < n) u (hu : u ∈ nn g v) => show u < n by rw [← HLG.out]; exact bt_in hw.gr.b.inn (by rw [HLG.out]; exact hv) (mem_nn.1 hu).2)
    have HS1 := Lib.hid (fun x (_ : x < n) => show 0 ≤ sb s x ∧ sb s x ≤ 1 by rcases sb_01 s x with e | e <;> rw [e] <;> omega)
    have HC1 := Lib.hid (fun x (hx : x < n) => show 0 ≤ gi c x ∧ gi c x ≤ 1000 from hw.wt x (by rw [hw.len, HLG.out]; exact hx))
    have HA0 : Hid (iA g c s true 0 = 0) := Lib.hid rfl
    clear hw HFR HDB
    generalize frU (dAll g c s true) (12 * (n : Int)) = U at *
    generalize frD (dAll g c s true) (12 * (n : Int)) = D at *
    generalize dAll g c s true = dall at *
    go_enter Try.func28, Try.ntmps28
    go_wp2_with fail
    refine HV.out.mono ?_
    rintro e w1 ⟨rfl, hb⟩
    have HP1 := Lib.hid (HPF.out.up hb)
    have HWC := Lib.hid (HWP.out w1 (HX.out.keep (Keep.below hb)) (HC.out.keep (Keep.below hb)))
    clear hb HV HPF HWP
    go_wp2_with fail
    refine HWC.out.mono ?_
    rintro e w2 ⟨rfl, hpw⟩
    have HP2 := Lib.hid (HP1.out.up hpw.up)
    obtain ⟨R, hpl⟩ := hpw.ex
    have HPL := Lib.hid hpl
    clear hpw hpl HWC HP1
    generalize w1.heap.size = BB at *
    go_wp2
    go_loopw [8, 24] (fun x i wr => ∃ v : Nat, v ≤ n ∧ i = .int .i64 v ∧ x = .int .i64 (iA g c s true v) ∧ Quiet w2 wr) (fun _ i _ => n - (intOf i).toNat)
    case atStart => exact ⟨0, Nat.zero_le _, rfl, by rw [HA0.out], Quiet.refl _⟩
    case round =>
      obtain ⟨v, hv, rfl, rfl, q, rfl⟩ := hrel
      by_cases hlt : v < n
      · have c1 : w2.cell? ⟨BB, v, none⟩ = some (.pointer (some ⟨BB + 1 + v, 0, none⟩)) := HPL.out.row.cell hlt
        obtain ⟨An, kn, hR, hN⟩ := HPL.out.near hlt
        have HN := Lib.hid hN
        have c2 := blk_cell (HPL.out.bl v hlt) (i := 0) rfl
        rw [hR, HNL.out] at c2
        obtain ⟨d1, d2⟩ := HDG.out v hlt
        have HR0 : Hid (iA g c s true v = iA g c s true v + iR g c s true v 0) := Lib.hid (by rw [HRZ.out, Int.add_zero])
        have hab := HAB.out v hv
        rw [HR0.out]
        clear hR hN HR0
        generalize hd : dg g v = dd at *
        have HDD := Lib.hid hd
        clear hd
        go_wp2
        go_loopw [8, 33] (fun x i wi => ∃ j : Nat, j ≤ dd ∧ i = .int .i64 j ∧ x = .int .i64 (iA g c s true v + iR g c s true v j) ∧ Quiet w2 wi) (fun _ i _ => dd - (intOf i).toNat)
        case atStart => exact ⟨0, Nat.zero_le _, rfl, rfl, ⟨_, rfl⟩⟩
        case round =>
          clear c1 c2
          obtain ⟨j, hj, rfl, rfl, q2, rfl⟩ := hrel
          by_cases hjl : j < dd
          · obtain ⟨bn, rfl, hcn⟩ := HN.out.at_ (by rw [HNL.out, HDD.out]; omega)
            have c3 := hcn j (by rw [HNL.out, HDD.out]; exact hjl)
            have hun := HNM.out v hlt _ (getD_mem (l := nn g v) (j := j) (by rw [HNL.out, HDD.out]; exact hjl))
            have hrs := HRS.out v j
            have hrb := HRB.out v j hlt (by rw [HDD.out]; exact hj)
            have hrb1 := HRB.out v (j + 1) hlt (by rw [HDD.out]; exact hjl)
            clear hcn
            generalize (nn g v).getD j 0 = u at *
            have htt := HTT.out v u
            rw [HDD.out] at htt
            have htb := HTB.out v u hlt hun
            have HCH := Lib.hid (HDD.out ▸ HNL.out v ▸ chanceOfEach_any BB n (nn g) (sb s) (gi c) R (w2.drewN q2) (HPL.out.quiet ⟨_, rfl⟩) v hlt (by rw [HNL.out, HDD.out]; exact ⟨d1, d2⟩))
            have HGF := Lib.hid (gainFrom_any BB n (nn g) (sb s) (gi c) R (w2.drewN q2) (HPL.out.quiet ⟨_, rfl⟩) u v hun hlt HS1.out HC1.out)
            rw [htt] at hrs htb
            clear htt
            have hg3 : -1000 ≤ gi c u * (sb s v - sb s u) ∧ gi c u * (sb s v - sb s u) ≤ 1000 := by
              obtain ⟨a1, a2⟩ := HS1.out v hlt
              obtain ⟨a3, a4⟩ := HS1.out u hun
              obtain ⟨a5, a6⟩ := HC1.out u hun
              have := mulbd (x := gi c u) (y := sb s v - sb s u) (A := 1000) (B := 1) (by omega) (by omega)
              omega
            generalize gi c u * (sb s v - sb s u) = gn at *
            have hk12 : 12 / dd ≤ 12 := Nat.div_le_self _ _
            generalize 12 / dd = ch at *
            generalize hN1 : iR g c s true v (j + 1) = r1 at *
            have HN1 := Lib.hid hN1
            clear hN1
            generalize iA g c s true v = a0 at *
            generalize iR g c s true v j = r0 at *
            obtain ⟨g1, g2⟩ := hg3
            go_wp2_with fail
            refine HCH.out.mono ?_
            rintro e w3 ⟨rfl, rfl⟩
            clear HCH
            go_wp2_with fail
            refine HGF.out.mono ?_
            rintro e w4 ⟨rfl, q3, rfl⟩
            clear HGF
            have hsum : a0 + r1 = a0 + r0 + (ch : Int) * gn := by rw [hrs, Int.add_assoc]
            have HSUM := Lib.hid hsum
            clear hrs hsum
            generalize hmul : (ch : Int) * gn = pr at *
            have HMUL := Lib.hid hmul
            have hws : IntKind.i64.wrap ((ch : Int) * gn) = pr := by rw [hmul, wrapIn (by omega)]
            clear hmul
            go_wp2
            go_roundw
            case rel => exact ⟨j + 1, by omega, by go_num, by rw [HN1.out, HSUM.out], ⟨_, rfl⟩⟩
            case measure => simp [intOf]; omega
          · obtain rfl : j = dd := by omega
            have HE := Lib.hid (show iA g c s true (v + 1) = iA g c s true v + iR g c s true v j by rw [HAS.out, HDD.out])
            go_wp2
            go_roundw
            case rel => exact ⟨v + 1, by omega, by go_num, by rw [HE.out], ⟨_, rfl⟩⟩
            case measure => simp [intOf]; omega
      · obtain rfl : v = n := by omega
        rw [HEND.out]
        have HP3 := Lib.hid (HP2.out.up (Quiet.below ⟨q, rfl⟩))
        have hn12 : IntKind.i64.wrap (12 * (v : Int)) = 12 * (v : Int) := wrapIn (by omega)
        go_wp2_with fail
        refine (HD.out _).mono ?_
        rintro e w5 ⟨rfl, hb⟩
        have HPF := Lib.hid (HP3.out.up hb)
        clear hb HD HP2 HP3 HPL
        have c0 := blk_cell HPF.out.box (i := 0) rfl
        have c1 := blk_cell HPF.out.box (i := 1) rfl
        have f0 := blk_frozen HPF.out.box 0
        have f1 := blk_frozen HPF.out.box 1
        go_wp2
        clear c0 c1 f0 f1
        have B1 := blk_set (blk_set HPF.out.box 0 (.int .i64 U)) 1 (.int .i64 D)
        have r0 := blk_cell B1 (i := 0) (v := .int .i64 U) rfl
        have r1 := blk_cell B1 (i := 1) (v := .int .i64 D) rfl
        have HBX := Lib.hid ((HPF.out.below.setCell (p := ⟨w.heap.size, 0, none⟩) (Nat.le_refl _) (.int .i64 U)).setCell (p := ⟨w.heap.size, 1, none⟩) (Nat.le_refl _) (.int .i64 D))
        clear B1 HPF
        generalize (w5.setCell ⟨w.heap.size, 0, none⟩ (.int .i64 U)).setCell ⟨w.heap.size, 1, none⟩ (.int .i64 D) = WE at *
        refine bodyPost_ret (v := .tuple #[.agg #[.int .i64 U, .int .i64 D], .bool true]) (by simp [results, Try.results28, go_sem, r0, r1]) rfl ?_
        exact ⟨by rw [HFV.out, HP.out], HBX.out⟩
  · have HV := Lib.hid (pb_false hw ▸ isWeighed_any A C n k m kc g c s _ HX.out HC.out)
    have HFV := Lib.hid (df_no (b := true) hw)
    have HP := Lib.hid (pb_false hw)
    clear hw
    go_enter Try.func28, Try.ntmps28
    go_wp2_with fail
    refine HV.out.mono ?_
    rintro e w1 ⟨rfl, hb⟩
    have HP1 := Lib.hid (HPF.out.up hb)
    clear hb HV HPF
    have HPF := HP1
    clear HP1
    have c0 := blk_cell HPF.out.box (i := 0) rfl
    have c1 := blk_cell HPF.out.box (i := 1) rfl
    have f0 := blk_frozen HPF.out.box 0
    have f1 := blk_frozen HPF.out.box 1
    go_wp2
    clear c0 c1 f0 f1
    have B1 := blk_set (blk_set HPF.out.box 0 (.int .i64 0)) 1 (.int .i64 0)
    have r0 := blk_cell B1 (i := 0) (v := .int .i64 0) rfl
    have r1 := blk_cell B1 (i := 1) (v := .int .i64 0) rfl
    have HBX := Lib.hid ((HPF.out.below.setCell (p := ⟨w.heap.size, 0, none⟩) (Nat.le_refl _) (.int .i64 0)).setCell (p := ⟨w.heap.size, 1, none⟩) (Nat.le_refl _) (.int .i64 0))
    clear B1 HPF
    generalize (w1.setCell ⟨w.heap.size, 0, none⟩ (.int .i64 0)).setCell ⟨w.heap.size, 1, none⟩ (.int .i64 0) = WE at *
    refine bodyPost_ret (v := .tuple #[.agg #[.int .i64 0, .int .i64 0], .bool false]) (by simp [results, Try.results28, go_sem, r0, r1]) rfl ?_
    exact ⟨by rw [HFV.out, HP.out], HBX.out⟩
set_option maxRecDepth 100000 in
set_option maxHeartbeats 1600000 in
theorem DeathDrift_impl (A : Option Addr) (n k : Nat) (g : List Int) (C : Option Addr) (m kc : Nat) (c : List Int) (s : Int) (w : World) (hx : Ints w A n k g) (hc : Ints w C m kc c) (_ : Fit s) :
    Calls Try.prog 31 #[.slice A n k, .slice C m kc, .int .i64 s] w (Ret (.tuple #[dfV g c s false, .bool (pb (WQ g c s))]) w) := by
  have HPF := Lib.hid (PF.start w)
  have HX := Lib.hid (hx.keep HPF.out.keep)
  have HC := Lib.hid (hc.keep HPF.out.keep)
  have HLG := Lib.hid hx.len
  clear hx hc
  by_cases hw : WQ g c s
  · have HV := Lib.hid (pb_true hw ▸ isWeighed_any A C n k m kc g c s _ HX.out HC.out)
    have HFV : Hid (dfV g c s false = .agg #[.int .i64 (frU (dAll g c s false) (12 * (n : Int))), .int .i64 (frD (dAll g c s false) (12 * (n : Int)))]) := Lib.hid (by rw [df_yes hw, HLG.out]; rfl)
    have HFR : Hid (frV (dAll g c s false) (12 * (n : Int)) = .agg #[.int .i64 (frU (dAll g c s false) (12 * (n : Int))), .int .i64 (frD (dAll g c s false) (12 * (n : Int)))]) := Lib.hid rfl
    have HDB := Lib.hid (show -300000 ≤ dAll g c s false ∧ dAll g c s false ≤ 300000 from dA_bd hw (Nat.le_refl _))
    have hn2 : 2 ≤ n := by rw [← HLG.out]; exact hw.gr.b.n2
    have hn5 : n ≤ 5 := by rw [← HLG.out]; exact hw.gr.b.n5
    have HD := Lib.hid (fun W => HFR.out ▸ fracOf_any (dAll g c s false) (12 * (n : Int)) W (by have := HDB.out; unfold Mid; omega) (by unfold Mid; omega) (by omega))
    have HWP := Lib.hid (fun W a b => weighedPlaces_any A C n k m kc g c s W a b hw)
    have HP := Lib.hid (pb_true hw)
    have HEND := Lib.hid (show iA g c s false n = dAll g c s false by rw [← HLG.out]; exact iA_all hw)
    have HAB := Lib.hid (fun v (hv : v ≤ n) => iA_bd (b := false) hw (v := v) (by rw [HLG.out]; exact hv))
    have HRB := Lib.hid (fun v j (hv : v < n) (hj : j ≤ dg g v) => iR_bd (b := false) hw (v := v) (j := j) (by rw [HLG.out]; exact hv) hj)
    have HAS := Lib.hid (fun v => show iA g c s false (v + 1) = iA g c s false v + iR g c s false v (dg g v) from rfl)
    have HRS := Lib.hid (fun v j => show iR g c s false v (j + 1) = iR g c s false v j + iT g c s false v ((nn g v).getD j 0) from rfl)
    have HRZ : Hid (∀ v, iR g c s false v 0 = 0) := Lib.hid (fun _ => rfl)
    have HTT := Lib.hid (fun v u => show iT g c s false v u = ((12 / dg g v : Nat) : Int) * (gi c v * (sb s u - sb s v)) from rfl)
    have HTB := Lib.hid (fun v u (hv : v < n) (hu : u < n) => iT_bd (b := false) hw (v := v) (u := u) (by rw [HLG.out]; exact hv) (by rw [HLG.out]; exact hu))
    have HDG := Lib.hid (fun v (hv : v < n) => show 1 ≤ dg g v ∧ dg g v ≤ 4 from have q := hw.gr.deg (v := v) (by rw [HLG.out]; exact hv); ⟨q.1, q.2.1⟩)
    have HNL := Lib.hid (fun v => show (nn g v).length = dg g v from nn_len g v)
    have HNM := Lib.hid (fun v (hv : v < n) u (hu : u ∈ nn g v) => show u < n by rw [← HLG.out]; exact bt_in hw.gr.b.inn (by rw [HLG.out]; exact hv) (mem_nn.1 hu).2)
    have HS1 := Lib.hid (fun x (_ : x < n) => show 0 ≤ sb s x ∧ sb s x ≤ 1 by rcases sb_01 s x with e | e <;> rw [e] <;> omega)
    have HC1 := Lib.hid (fun x (hx : x < n) => show 0 ≤ gi c x ∧ gi c x ≤ 1000 from hw.wt x (by rw [hw.len, HLG.out]; exact hx))
    have HA0 : Hid (iA g c s false 0 = 0) := Lib.hid rfl
    clear hw HFR HDB
    generalize frU (dAll g c s false) (12 * (n : Int)) = U at *
    generalize frD (dAll g c s false) (12 * (n : Int)) = D at *
    generalize dAll g c s false = dall at *
    go_enter Try.func31, Try.ntmps31
    go_wp2_with fail
    refine HV.out.mono ?_
    rintro e w1 ⟨rfl, hb⟩
    have HP1 := Lib.hid (HPF.out.up hb)
    have HWC := Lib.hid (HWP.out w1 (HX.out.keep (Keep.below hb)) (HC.out.keep (Keep.below hb)))
    clear hb HV HPF HWP
    go_wp2_with fail
    refine HWC.out.mono ?_
    rintro e w2 ⟨rfl, hpw⟩
    have HP2 := Lib.hid (HP1.out.up hpw.up)
    obtain ⟨R, hpl⟩ := hpw.ex
    have HPL := Lib.hid hpl
    clear hpw hpl HWC HP1
    generalize w1.heap.size = BB at *
    go_wp2
    go_loopw [8, 24] (fun x i wr => ∃ v : Nat, v ≤ n ∧ i = .int .i64 v ∧ x = .int .i64 (iA g c s false v) ∧ Quiet w2 wr) (fun _ i _ => n - (intOf i).toNat)
    case atStart => exact ⟨0, Nat.zero_le _, rfl, by rw [HA0.out], Quiet.refl _⟩
    case round =>
      obtain ⟨v, hv, rfl, rfl, q, rfl⟩ := hrel
      by_cases hlt : v < n
      · have c1 : w2.cell? ⟨BB, v, none⟩ = some (.pointer (some ⟨BB + 1 + v, 0, none⟩)) := HPL.out.row.cell hlt
        obtain ⟨An, kn, hR, hN⟩ := HPL.out.near hlt
        have HN := Lib.hid hN
        have c2 := blk_cell (HPL.out.bl v hlt) (i := 0) rfl
        rw [hR, HNL.out] at c2
        obtain ⟨d1, d2⟩ := HDG.out v hlt
        have HR0 : Hid (iA g c s false v = iA g c s false v + iR g c s false v 0) := Lib.hid (by rw [HRZ.out, Int.add_zero])
        have hab := HAB.out v hv
        rw [HR0.out]
        clear hR hN HR0
        generalize hd : dg g v = dd at *
        have HDD := Lib.hid hd
        clear hd
        go_wp2
        go_loopw [8, 33] (fun x i wi => ∃ j : Nat, j ≤ dd ∧ i = .int .i64 j ∧ x = .int .i64 (iA g c s false v + iR g c s false v j) ∧ Quiet w2 wi) (fun _ i _ => dd - (intOf i).toNat)
        case atStart => exact ⟨0, Nat.zero_le _, rfl, rfl, ⟨_, rfl⟩⟩
        case round =>
          clear c1 c2
          obtain ⟨j, hj, rfl, rfl, q2, rfl⟩ := hrel
          by_cases hjl : j < dd
          · obtain ⟨bn, rfl, hcn⟩ := HN.out.at_ (by rw [HNL.out, HDD.out]; omega)
            have c3 := hcn j (by rw [HNL.out, HDD.out]; exact hjl)
            have hun := HNM.out v hlt _ (getD_mem (l := nn g v) (j := j) (by rw [HNL.out, HDD.out]; exact hjl))
            have hrs := HRS.out v j
            have hrb := HRB.out v j hlt (by rw [HDD.out]; exact hj)
            have hrb1 := HRB.out v (j + 1) hlt (by rw [HDD.out]; exact hjl)
            clear hcn
            generalize (nn g v).getD j 0 = u at *
            have htt := HTT.out v u
            rw [HDD.out] at htt
            have htb := HTB.out v u hlt hun
            have HCH := Lib.hid (HDD.out ▸ HNL.out v ▸ chanceOfEach_any BB n (nn g) (sb s) (gi c) R (w2.drewN q2) (HPL.out.quiet ⟨_, rfl⟩) v hlt (by rw [HNL.out, HDD.out]; exact ⟨d1, d2⟩))
            have HGF := Lib.hid (gainFrom_any BB n (nn g) (sb s) (gi c) R (w2.drewN q2) (HPL.out.quiet ⟨_, rfl⟩) v u hlt hun HS1.out HC1.out)
            rw [htt] at hrs htb
            clear htt
            have hg3 : -1000 ≤ gi c v * (sb s u - sb s v) ∧ gi c v * (sb s u - sb s v) ≤ 1000 := by
              obtain ⟨a1, a2⟩ := HS1.out v hlt
              obtain ⟨a3, a4⟩ := HS1.out u hun
              obtain ⟨a5, a6⟩ := HC1.out v hlt
              have := mulbd (x := gi c v) (y := sb s u - sb s v) (A := 1000) (B := 1) (by omega) (by omega)
              omega
            generalize gi c v * (sb s u - sb s v) = gn at *
            have hk12 : 12 / dd ≤ 12 := Nat.div_le_self _ _
            generalize 12 / dd = ch at *
            generalize hN1 : iR g c s false v (j + 1) = r1 at *
            have HN1 := Lib.hid hN1
            clear hN1
            generalize iA g c s false v = a0 at *
            generalize iR g c s false v j = r0 at *
            obtain ⟨g1, g2⟩ := hg3
            go_wp2_with fail
            refine HCH.out.mono ?_
            rintro e w3 ⟨rfl, rfl⟩
            clear HCH
            go_wp2_with fail
            refine HGF.out.mono ?_
            rintro e w4 ⟨rfl, q3, rfl⟩
            clear HGF
            have hsum : a0 + r1 = a0 + r0 + (ch : Int) * gn := by rw [hrs, Int.add_assoc]
            have HSUM := Lib.hid hsum
            clear hrs hsum
            generalize hmul : (ch : Int) * gn = pr at *
            have HMUL := Lib.hid hmul
            have hws : IntKind.i64.wrap ((ch : Int) * gn) = pr := by rw [hmul, wrapIn (by omega)]
            clear hmul
            go_wp2
            go_roundw
            case rel => exact ⟨j + 1, by omega, by go_num, by rw [HN1.out, HSUM.out], ⟨_, rfl⟩⟩
            case measure => simp [intOf]; omega
          · obtain rfl : j = dd := by omega
            have HE := Lib.hid (show iA g c s false (v + 1) = iA g c s false v + iR g c s false v j by rw [HAS.out, HDD.out])
            go_wp2
            go_roundw
            case rel => exact ⟨v + 1, by omega, by go_num, by rw [HE.out], ⟨_, rfl⟩⟩
            case measure => simp [intOf]; omega
      · obtain rfl : v = n := by omega
        rw [HEND.out]
        have HP3 := Lib.hid (HP2.out.up (Quiet.below ⟨q, rfl⟩))
        have hn12 : IntKind.i64.wrap (12 * (v : Int)) = 12 * (v : Int) := wrapIn (by omega)
        go_wp2_with fail
        refine (HD.out _).mono ?_
        rintro e w5 ⟨rfl, hb⟩
        have HPF := Lib.hid (HP3.out.up hb)
        clear hb HD HP2 HP3 HPL
        have c0 := blk_cell HPF.out.box (i := 0) rfl
        have c1 := blk_cell HPF.out.box (i := 1) rfl
        have f0 := blk_frozen HPF.out.box 0
        have f1 := blk_frozen HPF.out.box 1
        go_wp2
        clear c0 c1 f0 f1
        have B1 := blk_set (blk_set HPF.out.box 0 (.int .i64 U)) 1 (.int .i64 D)
        have r0 := blk_cell B1 (i := 0) (v := .int .i64 U) rfl
        have r1 := blk_cell B1 (i := 1) (v := .int .i64 D) rfl
        have HBX := Lib.hid ((HPF.out.below.setCell (p := ⟨w.heap.size, 0, none⟩) (Nat.le_refl _) (.int .i64 U)).setCell (p := ⟨w.heap.size, 1, none⟩) (Nat.le_refl _) (.int .i64 D))
        clear B1 HPF
        generalize (w5.setCell ⟨w.heap.size, 0, none⟩ (.int .i64 U)).setCell ⟨w.heap.size, 1, none⟩ (.int .i64 D) = WE at *
        refine bodyPost_ret (v := .tuple #[.agg #[.int .i64 U, .int .i64 D], .bool true]) (by simp [results, Try.results31, go_sem, r0, r1]) rfl ?_
        exact ⟨by rw [HFV.out, HP.out], HBX.out⟩
  · have HV := Lib.hid (pb_false hw ▸ isWeighed_any A C n k m kc g c s _ HX.out HC.out)
    have HFV := Lib.hid (df_no (b := false) hw)
    have HP := Lib.hid (pb_false hw)
    clear hw
    go_enter Try.func31, Try.ntmps31
    go_wp2_with fail
    refine HV.out.mono ?_
    rintro e w1 ⟨rfl, hb⟩
    have HP1 := Lib.hid (HPF.out.up hb)
    clear hb HV HPF
    have HPF := HP1
    clear HP1
    have c0 := blk_cell HPF.out.box (i := 0) rfl
    have c1 := blk_cell HPF.out.box (i := 1) rfl
    have f0 := blk_frozen HPF.out.box 0
    have f1 := blk_frozen HPF.out.box 1
    go_wp2
    clear c0 c1 f0 f1
    have B1 := blk_set (blk_set HPF.out.box 0 (.int .i64 0)) 1 (.int .i64 0)
    have r0 := blk_cell B1 (i := 0) (v := .int .i64 0) rfl
    have r1 := blk_cell B1 (i := 1) (v := .int .i64 0) rfl
    have HBX := Lib.hid ((HPF.out.below.setCell (p := ⟨w.heap.size, 0, none⟩) (Nat.le_refl _) (.int .i64 0)).setCell (p := ⟨w.heap.size, 1, none⟩) (Nat.le_refl _) (.int .i64 0))
    clear B1 HPF
    generalize (w1.setCell ⟨w.heap.size, 0, none⟩ (.int .i64 0)).setCell ⟨w.heap.size, 1, none⟩ (.int .i64 0) = WE at *
    refine bodyPost_ret (v := .tuple #[.agg #[.int .i64 0, .int .i64 0], .bool false]) (by simp [results, Try.results31, go_sem, r0, r1]) rfl ?_
    exact ⟨by rw [HFV.out, HP.out], HBX.out⟩

end Go.Proofs.Ytnbkifpmoegaaaa

/- One block alone has turned: what is elsewhere stays; new lists whose block is known. -/
namespace Go.Proofs.Ytnbkifpmoegaaaa
open Go.RowKit
theorem eqI_same (xs : List Int) : eqI xs xs = true := eqI_yes rfl fun _ _ => rfl
theorem OwnI.one {lo hi g w w' b A n c xs} (h : OwnI lo hi w b A n c xs) (k : One g w w') (hne : b ≠ g) : OwnI lo hi w' b A n c xs := h.of_block fun _ => k.block b hne
theorem One.below {S g : Nat} {a w w' : World} (h : Below S a w) (k : One g w w') (hg : S ≤ g) : Below S a w' := Touch.below h (k.touch (Nat.le_refl g) (Nat.lt_succ_self g)) hg
theorem NewI.ge {w w' : World} {ys : List Int} {e : Ending} (h : NewI w ys e w') :
    ∃ Av c gg, e = .returned (.slice Av ys.length c) ∧ OwnI w.heap.size w'.heap.size w' gg Av ys.length c ys ∧ w.heap.size ≤ gg ∧ Below w.heap.size w w' := by
  obtain ⟨Av, n, c, gg, rfl, rfl, ho, hb⟩ := h
  by_cases h0 : 0 < ys.length
  · obtain ⟨o, e, h1, h2, hf⟩ := ho.own h0
    exact ⟨Av, c, gg, rfl, ho, h1, hb⟩
  · exact ⟨Av, c, w.heap.size, rfl, ⟨ho.ints, fun hn => absurd hn h0⟩, Nat.le_refl _, hb⟩
end Go.Proofs.Ytnbkifpmoegaaaa

/- The harness of the exact laws, for slices of fractions. -/
namespace Go.Proofs.Ytnbkifpmoegaaaa
open Go.RowKit

/-- A slice of fractions whose cells read as ints, two each. -/
structure Frs (w : World) (A : Option Addr) (n c : Nat) (L : List Int) : Prop where
  len : L.length = 2 * n
  cap : n ≤ c
  max : n ≤ 1000
  at_ : 0 < n → ∃ b o, A = some ⟨b, o, none⟩ ∧ ∀ k, k < 2 * n → w.cell? ⟨b, o + k, none⟩ = some (.int .i64 (gi L k))
theorem Frs.keep {w w' : World} {A n c L} (h : Frs w A n c L) (k : Keep w w') : Frs w' A n c L :=
  ⟨h.len, h.cap, h.max, fun hn => let ⟨b, o, e, hc⟩ := h.at_ hn; ⟨b, o, e, fun i hi => k _ _ (hc i hi)⟩⟩
structure OwnF (lo hi : Nat) (w : World) (b : Nat) (A : Option Addr) (n c : Nat) (L : List Int) : Prop where
  frs : Frs w A n c L
  own : 0 < n → ∃ o, A = some ⟨b, o, none⟩ ∧ lo ≤ b ∧ b < hi ∧ ∀ k, k < 2 * n → w.frozen? ⟨b, o + k, none⟩ = false
theorem OwnF.lt {lo hi w b A n c L} (h : OwnF lo hi w b A n c L) (hn : 0 < n) : b < w.heap.size := by
  obtain ⟨b', o', e, hc⟩ := h.frs.at_ hn
  obtain ⟨o, e', _⟩ := h.own hn
  rw [e] at e'
  injection e' with e'
  injection e' with e1 _ _
  rw [← e1]
  exact World.block_lt_of_cell? w _ (hc 0 (by omega))
theorem OwnF.of_block {lo hi w w' b A n c L} (h : OwnF lo hi w b A n c L) (e : 0 < n → w'.heap[b]? = w.heap[b]?) : OwnF lo hi w' b A n c L := by
  refine ⟨⟨h.frs.len, h.frs.cap, h.frs.max, fun hn => ?_⟩, fun hn => ?_⟩
  · obtain ⟨b', o', e1, hc⟩ := h.frs.at_ hn
    obtain ⟨o, e2, _⟩ := h.own hn
    rw [e1] at e2
    injection e2 with e2
    injection e2 with e2 _ _
    subst e2
    exact ⟨b', o', e1, fun k hk => by rw [World.cell?_of_block (w := w) (e hn)]; exact hc k hk⟩
  · obtain ⟨o, e2, hB, hB2, hf⟩ := h.own hn
    exact ⟨o, e2, hB, hB2, fun k hk => by rw [World.frozen?_of_block (w := w) (e hn)]; exact hf k hk⟩
theorem OwnF.mono {lo hi lo' hi' w b A n c L} (h : OwnF lo hi w b A n c L) (hB : lo' ≤ lo) (hB' : hi ≤ hi') : OwnF lo' hi' w b A n c L :=
  ⟨h.frs, fun hn => let ⟨o, e, h1, h2, h3⟩ := h.own hn; ⟨o, e, Nat.le_trans hB h1, Nat.lt_of_lt_of_le h2 hB', h3⟩⟩
theorem OwnF.below {lo hi w w' b A n c L} (h : OwnF lo hi w b A n c L) (k : Below w.heap.size w w') : OwnF lo hi w' b A n c L := h.of_block fun hn => k.block _ (h.lt hn)
theorem OwnF.touch {lo hi lo' hi' w w' b A n c L} (h : OwnF lo hi w b A n c L) (k : Touch lo' hi' w w') (hd : hi ≤ lo' ∨ hi' ≤ lo) : OwnF lo hi w' b A n c L :=
  h.of_block fun hn => k.block _ (by obtain ⟨_, _, h1, h2, _⟩ := h.own hn; omega)
theorem OwnF.one {lo hi g w w' b A n c L} (h : OwnF lo hi w b A n c L) (k : One g w w') (hne : b ≠ g) : OwnF lo hi w' b A n c L := h.of_block fun _ => k.block b hne
theorem OwnF.nil (lo hi : Nat) (w : World) (b : Nat) : OwnF lo hi w b none 0 0 [] :=
  ⟨⟨rfl, Nat.le_refl _, by omega, fun h => absurd h (by omega)⟩, fun h => absurd h (by omega)⟩
theorem OwnF.set {lo hi w b o n c L} (h : OwnF lo hi w b (some ⟨b, o, none⟩) n c L) {i : Nat} (hi' : i < 2 * n) (v : Int) :
    OwnF lo hi (w.setCell ⟨b, o + i, none⟩ (.int .i64 v)) b (some ⟨b, o, none⟩) n c (L.set i v) := by
  have hl := h.frs.len
  obtain ⟨o', e, h1, h2, hf⟩ := h.own (by omega)
  injection e with e
  injection e with _ e _
  subst e
  obtain ⟨b', o', e, hc⟩ := h.frs.at_ (by omega)
  injection e with e
  injection e with e1 e2 _
  subst e1
  subst e2
  refine ⟨⟨by rw [List.length_set]; exact hl, h.frs.cap, h.frs.max, fun _ => ⟨b, o, rfl, fun k hk => ?_⟩⟩, fun _ => ⟨o, rfl, h1, h2, fun k hk => ?_⟩⟩
  · by_cases e : k = i
    · subst e
      rw [gi_set_eq (by omega), World.cell?_setCell_same w _ _ (hc k hk)]
    · rw [gi_set_ne (by omega) e, World.cell?_setCell_other w _ _ _ (fun e' => by injection e' with _ e' _; omega)]
      exact hc k hk
  · rw [World.frozen?_setCell]; exact hf k hk
/-- A new slice of fractions. -/
def NewF (w : World) (L : List Int) (e : Ending) (w' : World) : Prop :=
  ∃ Av n c gg, e = .returned (.slice Av n c) ∧ L.length = 2 * n ∧ OwnF w.heap.size w'.heap.size w' gg Av n c L ∧ Below w.heap.size w w'
theorem NewF.ge {w w' : World} {L : List Int} {e : Ending} (h : NewF w L e w') :
    ∃ Av c gg, e = .returned (.slice Av (L.length / 2) c) ∧ OwnF w.heap.size w'.heap.size w' gg Av (L.length / 2) c L ∧ w.heap.size ≤ gg ∧ Below w.heap.size w w' := by
  obtain ⟨Av, n, c, gg, rfl, hn, ho, hb⟩ := h
  obtain rfl : n = L.length / 2 := by omega
  by_cases h0 : 0 < L.length / 2
  · obtain ⟨o, e, h1, h2, hf⟩ := ho.own h0
    exact ⟨Av, c, gg, rfl, ho, h1, hb⟩
  · exact ⟨Av, c, w.heap.size, rfl, ⟨ho.frs, fun hn => absurd hn h0⟩, Nat.le_refl _, hb⟩

theorem NewF.geN {w w' : World} {L : List Int} {e : Ending} {N : Nat} (h : NewF w L e w') (hN : L.length = 2 * N) :
    ∃ Av c gg, e = .returned (.slice Av N c) ∧ OwnF w.heap.size w'.heap.size w' gg Av N c L ∧ w.heap.size ≤ gg ∧ Below w.heap.size w w' := by
  have := h.ge
  rw [show L.length / 2 = N by omega] at this
  exact this

set_option maxRecDepth 100000 in
set_option maxHeartbeats 1600000 in
theorem eqFracS_any (A B : Option Addr) (n c d : Nat) (L : List Int) (w : World) (hx : Frs w A n c L) (hy : Frs w B n d L) :
    Calls Try.prog 34 #[.slice A n c, .slice B n d] w (Ret (.bool true) w) := by
  have HX := Lib.hid hx
  have HY := Lib.hid hy
  have mx := hx.max
  have hne : ((n : Int) != (n : Int)) = false := by simp
  clear hx hy
  go_enter Try.func34, Try.ntmps34
  go_wp2
  go_loopw [5] (fun i wr => ∃ k : Nat, k ≤ n ∧ i = .int .i64 k ∧ Hid (Below w.heap.size w wr)) (fun i _ => n - (intOf i).toNat)
  case atStart => exact ⟨0, Nat.zero_le _, rfl, Lib.hid (Below.refl _ _)⟩
  case round =>
    obtain ⟨k, hk, rfl, HB⟩ := hrel
    by_cases hlt : k < n
    · obtain ⟨b, o, rfl, hc⟩ := HX.out.at_ (by omega)
      obtain ⟨b2, o2, rfl, hc2⟩ := HY.out.at_ (by omega)
      have q1 := Keep.below HB.out _ _ (hc (k * 2) (by omega))
      have q2 := Keep.below HB.out _ _ (hc (k * 2 + 1) (by omega))
      have q3 := Keep.below HB.out _ _ (hc2 (k * 2) (by omega))
      have q4 := Keep.below HB.out _ _ (hc2 (k * 2 + 1) (by omega))
      rw [← Nat.add_assoc] at q2 q4
      clear hc hc2
      generalize gi L (k * 2) = U at *
      generalize gi L (k * 2 + 1) = D at *
      go_wp2
      go_region_law ((go_simp; go_at_call 29; refine (eqFrac_self (.agg #[.int .i64 U, .int .i64 D]) _ ⟨U, D, rfl⟩).mono ?_; rintro e w2 ⟨rfl, hb⟩; have HB2 := Lib.hid (below_up (HB.out.drew) hb); clear hb))
      all_goals
        clear q1 q2 q3 q4
        go_wp2
        go_roundw
        case rel => exact ⟨k + 1, by omega, by go_num, Lib.hid (by first | exact HB2.out | exact HB2.out.drew | exact below_drewN HB2.out _)⟩
        case measure => simp [intOf]; omega
    · obtain rfl : k = n := by omega
      go_wp2
      go_ret
      exact ⟨rfl, HB.out⟩

def MarkedF (lo hi : Nat) (w : World) (b : Nat) (A : Option Addr) (n c : Nat) (k : Int) (e : Ending) (w' : World) : Prop :=
  e = .returned (.int .i64 (k + (2 * n : Nat))) ∧ OwnF lo hi w' b A n c (seqI k (2 * n)) ∧ (n = 0 → w = w') ∧ One b w w'

set_option maxRecDepth 100000 in
set_option maxHeartbeats 1600000 in
theorem markFracS_any (lo hi b : Nat) (A : Option Addr) (n c : Nat) (L : List Int) (k : Int) (w : World) (hx : OwnF lo hi w b A n c L) (h0 : 0 ≤ k) (h1 : k ≤ 1000) :
    Calls Try.prog 36 #[.slice A n c, .int .i64 k] w (MarkedF lo hi w b A n c k) := by
  have HX := Lib.hid hx
  have mx := hx.frs.max
  clear hx
  go_enter Try.func36, Try.ntmps36
  go_wp2
  go_loopw [1, 5] (fun z i wr => ∃ (j : Nat) (ys : List Int), j ≤ n ∧ i = .int .i64 j ∧ z = .int .i64 (k + (2 * j : Nat)) ∧ Hid (∀ l, l < 2 * j → gi ys l = k + l) ∧ Hid (OwnF lo hi wr b A n c ys) ∧ Hid (One b w wr) ∧ Hid (n = 0 → w = wr)) (fun _ i _ => n - (intOf i).toNat)
  case atStart => exact ⟨0, L, Nat.zero_le _, rfl, by simp, Lib.hid (fun _ h => absurd h (by omega)), HX, Lib.hid (One.refl _ _), Lib.hid (fun _ => rfl)⟩
  case round =>
    obtain ⟨j, ys, hj, rfl, rfl, HA, HO, H1, H0⟩ := hrel
    by_cases hlt : j < n
    · obtain ⟨o, rfl, _, _, hf⟩ := HO.out.own (by omega)
      obtain ⟨b', o', e, hc⟩ := HO.out.frs.at_ (by omega)
      injection e with e
      injection e with e1 e2 _
      subst e1
      subst e2
      have HL := Lib.hid HO.out.frs.len
      have c1 := hc (j * 2) (by omega)
      have f1 := hf (j * 2) (by omega)
      have c2 := hc (j * 2 + 1) (by omega)
      have f2 := hf (j * 2 + 1) (by omega)
      rw [← Nat.add_assoc] at c2 f2
      have HO2 := Lib.hid ((HO.out.set (i := j * 2) (by omega) (k + (2 * j : Nat))).set (i := j * 2 + 1) (by omega) (k + (2 * j : Nat) + 1))
      have H12 := Lib.hid ((H1.out.set (o + j * 2) (.int .i64 (k + (2 * j : Nat)))).set (o + (j * 2 + 1)) (.int .i64 (k + (2 * j : Nat) + 1)))
      rw [← Nat.add_assoc] at HO2 H12
      have hz : k + ((2 * j : Nat) : Int) + 1 + 1 = k + ((2 * (j + 1) : Nat) : Int) := by omega
      have HN := Lib.hid (show ∀ l, l < 2 * (j + 1) → gi ((ys.set (j * 2) (k + (2 * j : Nat))).set (j * 2 + 1) (k + (2 * j : Nat) + 1)) l = k + l from fun l hl => by
        have hly := HL.out
        by_cases e1 : l = j * 2 + 1
        · subst e1; rw [gi_set_eq (by rw [List.length_set]; omega)]; omega
        · rw [gi_set_ne (by rw [List.length_set]; omega) e1]
          by_cases e2 : l = j * 2
          · subst e2; rw [gi_set_eq (by omega)]; omega
          · rw [gi_set_ne (by omega) e2]; exact HA.out l (by omega))
      have hkb : k + ((2 * j : Nat) : Int) ≤ 4000 := by omega
      have hkb0 : 0 ≤ k + ((2 * j : Nat) : Int) := by omega
      clear hc hf HO H1
      generalize k + ((2 * j : Nat) : Int) = z at *
      go_wp2
      go_roundw
      case rel => exact ⟨j + 1, _, by omega, by go_num, by congr 1, HN, HO2, H12, Lib.hid (fun e => absurd e (by omega))⟩
      case measure => simp [intOf]; omega
    · obtain rfl : j = n := by omega
      have e : ys = seqI k (2 * j) := gi_ext (by rw [HO.out.frs.len, seqI_len]) fun l hl => by
        rw [HO.out.frs.len] at hl
        rw [HA.out l hl, gi_seqI hl]
      have HO2 := Lib.hid (e ▸ HO.out)
      clear e HO
      go_wp2
      go_ret
      exact ⟨ret_int (by omega), HO2.out, H0.out, H1.out⟩

set_option maxRecDepth 100000 in
set_option maxHeartbeats 1600000 in
theorem heldFracS_any (A : Option Addr) (n c : Nat) (k : Int) (w : World) (hx : Frs w A n c (seqI k (2 * n))) (h0 : 0 ≤ k) (h1 : k ≤ 1000) :
    Calls Try.prog 37 #[.slice A n c, .int .i64 k] w fun e w' => e = .returned (.int .i64 (k + (2 * n : Nat))) ∧ Quiet w w' := by
  have mx := hx.max
  have HX := Lib.hid hx
  clear hx
  go_enter Try.func37, Try.ntmps37
  go_wp2
  go_loopw [1, 5] (fun z i wr => ∃ (j : Nat), j ≤ n ∧ i = .int .i64 j ∧ z = .int .i64 (k + (2 * j : Nat)) ∧ Quiet w wr) (fun _ i _ => n - (intOf i).toNat)
  case atStart => exact ⟨0, Nat.zero_le _, rfl, by simp, Quiet.refl _⟩
  case round =>
    obtain ⟨j, hj, rfl, rfl, q, rfl⟩ := hrel
    by_cases hlt : j < n
    · obtain ⟨b, o, rfl, hc⟩ := HX.out.at_ (by omega)
      have c1 := hc (j * 2) (by omega)
      have c2 := hc (j * 2 + 1) (by omega)
      rw [gi_seqI (by omega)] at c1 c2
      rw [← Nat.add_assoc] at c2
      have e1 : k + ((j * 2 : Nat) : Int) = k + ((2 * j : Nat) : Int) := by omega
      have e2 : k + ((j * 2 + 1 : Nat) : Int) = k + ((2 * j : Nat) : Int) + 1 := by omega
      rw [e1] at c1
      rw [e2] at c2
      have hz : k + ((2 * j : Nat) : Int) + 1 + 1 = k + ((2 * (j + 1) : Nat) : Int) := by omega
      have hkb : k + ((2 * j : Nat) : Int) ≤ 4000 := by omega
      have hkb0 : 0 ≤ k + ((2 * j : Nat) : Int) := by omega
      clear hc e1 e2
      generalize k + ((2 * j : Nat) : Int) = z at *
      have hn1 : (z != z) = false := by simp
      have hn2 : (z + 1 != z + 1) = false := by simp
      go_wp2
      go_roundw
      case rel => exact ⟨j + 1, by omega, by go_num, by congr 1, ⟨_, rfl⟩⟩
      case measure => simp [intOf]; omega
    · obtain rfl : j = n := by omega
      go_wp2
      go_ret
      exact ⟨ret_int (by omega), ⟨_, rfl⟩⟩
end Go.Proofs.Ytnbkifpmoegaaaa

/- Fractions under way: a slice made by append. -/
namespace Go.Proofs.Ytnbkifpmoegaaaa
open Go.RowKit

theorem gi_append_lt {L M : List Int} {k : Nat} (h : k < L.length) : gi (L ++ M) k = gi L k := by
  rw [gi_get (by rw [List.length_append]; omega), gi_get h, List.getElem_append_left h]
theorem gi_append_ge {L M : List Int} {k : Nat} (h : k < M.length) : gi (L ++ M) (L.length + k) = gi M k := by
  rw [gi_get (by rw [List.length_append]; omega), gi_get h, List.getElem_append_right (by omega)]
  simp
/-- Fractions under way: a slice made by append. -/
structure FU (wb : World) (v : Value) (n : Nat) (L : List Int) (w : World) : Prop where
  own : w.ownsRow wb.heap.size 39 2 v n (L.map iv)
  hi_ : ∀ k, v.ownBlock = some k → k < w.heap.size
  up : Below wb.heap.size wb w
theorem FU.start (wb : World) : FU wb (.slice (some ⟨wb.heap.size, 0, none⟩) 0 0) 0 [] (wb.alloc (.cells #[] 39)) :=
  ⟨World.ownsRow_made (e := 39) (size := 2) wb #[] 0 (Nat.le_refl _) (Nat.zero_le _) rfl, fun k hk => by simp [Value.ownBlock] at hk; simp; omega, below_alloc _ _⟩
theorem FU.next {wb v n L w w'} (h : FU wb v n L w) (k : Below w.heap.size w w') : FU wb v n L w' :=
  ⟨blk_kept h.own fun g hg => k.block g (h.hi_ g hg), fun g hg => Nat.lt_of_lt_of_le (h.hi_ g hg) k.size, below_up h.up k⟩
theorem FU.form {wb v n L w} (h : FU wb v n L w) : ∃ A c, v = .slice A n c := by
  rcases h.own.2 with ⟨rfl, h0⟩ | ⟨g, cap, cur, rfl, _⟩
  · exact ⟨none, 0, by rw [h0]⟩
  · exact ⟨_, _, rfl⟩
theorem FU.len {wb v n L w} (h : FU wb v n L w) : L.length = 2 * n := by have := h.own.1; rw [List.length_map] at this; omega
theorem FU.push {wb v v' n L w w' u d} (h : FU wb v n L w) (hown : w'.ownsRow wb.heap.size 39 2 v' (n + 1) (L.map iv ++ [iv u, iv d]))
    (hgrow : (w.alloc (.cells #[iv u, iv d] 39)).grownBy w' v.ownBlock) (hat : v'.ownBlock = v.ownBlock ∨ v'.ownBlock = some (w.heap.size + 1)) : FU wb v' (n + 1) (L ++ [u, d]) w' := by
  have hsz := hgrow.size
  simp only [World.size_alloc] at hsz
  have hu : ∀ k, v.ownBlock = some k → wb.heap.size ≤ k := fun k hk => (h.own.lt k hk).1
  have hbelow : ∀ k, k < wb.heap.size → w'.heap[k]? = w.heap[k]? := fun k hk => by
    have := h.up.size
    exact (hgrow.block k (by simp; omega) (fun e => by have := hu k e.symm; omega)).trans (Below.heap_alloc _ _ _ (by omega))
  refine ⟨by rw [List.map_append]; exact hown, fun k hk => ?_, ?_⟩
  · rcases hat with hat | hat
    · have := h.hi_ k (by rw [← hat]; exact hk); omega
    · have := (hown.lt k hk).2; omega
  · exact ⟨hgrow.os.trans h.up.os, hgrow.tape.trans h.up.tape, hgrow.output.trans h.up.output, by have := h.up.size; omega, fun k hk => (hbelow k hk).trans (h.up.block k hk)⟩
theorem FU.new {wb n L w} {A : Option Addr} {c : Nat} (h : FU wb (.slice A n c) n L w) (hm : n ≤ 1000) : NewF wb L (.returned (.slice A n c)) w := by
  have hl := h.len
  have hh := h.hi_
  rcases h.own.2 with ⟨e, h0⟩ | ⟨g, cap, cur, e, hb, hg, hnc, _, hcs, htake⟩
  · injection e with e1 e2 e3
    subst e1
    subst e3
    subst h0
    have : L = [] := List.eq_nil_of_length_eq_zero (by omega)
    subst this
    exact ⟨none, 0, 0, 0, rfl, rfl, OwnF.nil _ _ _ _, h.up⟩
  · injection e with e1 e2 e3
    subst e1
    subst e3
    refine ⟨_, n, c, g, rfl, hl, ⟨⟨hl, hnc, hm, fun _ => ⟨g, 0, rfl, fun k hk => ?_⟩⟩, fun _ => ⟨0, rfl, hb, hh g rfl, fun k _ => ?_⟩⟩, h.up⟩
    · rw [Nat.zero_add, ← getElem_iv (by omega : k < L.length), ← htake, List.getElem?_take, if_pos (by omega)]
      simp [World.cell?, hg]
    · rw [Nat.zero_add]; simp [World.frozen?, hg]
theorem cells_two_new (w : World) (u d : Int) : ∀ j v, [iv u, iv d][j]? = some v → (w.alloc (.cells #[iv u, iv d] 39)).cell? ((⟨w.heap.size, 0, none⟩ : Addr).add j) = some v := fun j v h => by
  have hadd : (⟨w.heap.size, 0, none⟩ : Addr).add j = ⟨w.heap.size, j, none⟩ := by unfold Addr.add; split <;> simp_all
  rw [hadd]
  exact blk_cell (blk_new w _ _) (by simpa using h)
theorem NewF.empty {w w' : World} {ys : List Int} (h : Below w.heap.size w w') (hy : ys = []) : NewF w ys (.returned (.slice none 0 0)) w' := by
  subst hy; exact ⟨none, 0, 0, 0, rfl, rfl, OwnF.nil _ _ _ _, h⟩
theorem NewF.from {w w1 w2 : World} {ys : List Int} {e : Ending} (h : Below w.heap.size w w1) (k : NewF w1 ys e w2) : NewF w ys e w2 := by
  obtain ⟨A, n, c, g, he, hn, ho, hb⟩ := k
  exact ⟨A, n, c, g, he, hn, ho.mono h.size (Nat.le_refl _), below_up h hb⟩
theorem Try.infoF : (Try.prog.info? 39).map (fun i => (i.zero, i.size, i.bytes)) = some (some (.agg #[.int .i64 0, .int .i64 0]), 2, 16) := by kernel_rfl

end Go.Proofs.Ytnbkifpmoegaaaa

/- A list that a call owns; numbers of which the first have turned. -/
namespace Go.Proofs.Ytnbkifpmoegaaaa
open Go.RowKit

/-- A list that a call owns, in block g from its beginning on. -/
structure NX (w : World) (n g : Nat) (L : List Int) (W : World) : Prop where
  own : OwnI w.heap.size W.heap.size W g (some ⟨g, 0, none⟩) n n L
  up : Below w.heap.size w W
  lo : w.heap.size ≤ g
theorem NX.next {w n g L W W'} (h : NX w n g L W) (k : Below W.heap.size W W') : NX w n g L W' := ⟨(h.own.below k).mono (Nat.le_refl _) k.size, below_up h.up k, h.lo⟩
theorem NX.cell {w n g L W} (h : NX w n g L W) {i : Nat} (hi : i < n) : W.cell? ⟨g, i, none⟩ = some (.int .i64 (gi L i)) := by
  obtain ⟨b, o, e, hc⟩ := h.own.ints.at_ (by omega)
  injection e with e
  injection e with e1 e2
  subst e1
  subst e2
  have := hc i hi
  rw [Nat.zero_add] at this
  exact this
theorem NX.frozen {w n g L W} (h : NX w n g L W) {i : Nat} (hi : i < n) : W.frozen? ⟨g, i, none⟩ = false := by
  obtain ⟨o, e, _, _, hf⟩ := h.own.own (by omega)
  injection e with e
  injection e with _ e2
  subst e2
  have := hf i hi
  rw [Nat.zero_add] at this
  exact this
theorem NX.set {w n g L W} (h : NX w n g L W) {i : Nat} (hi : i < n) {v : Int} (hv : -9223372036854775808 ≤ v ∧ v ≤ 9223372036854775807) : NX w n g (L.set i v) (W.setCell ⟨g, i, none⟩ (.int .i64 v)) := by
  have h1 := h.own.set hi hv
  rw [Nat.zero_add] at h1
  exact ⟨h1.mono (Nat.le_refl _) (by simp [World.setCell]), h.up.setCell (p := ⟨g, i, none⟩) h.lo _, h.lo⟩
/-- Numbers of which the first k have turned. -/
def mixT (f h : Nat → Int) (n k : Nat) : List Int := (List.range n).map fun i => if i < k then f i else h i
theorem mixT_len (f h : Nat → Int) (n k : Nat) : (mixT f h n k).length = n := by simp [mixT]
theorem gi_mixT {f h : Nat → Int} {n k i : Nat} (hi : i < n) : gi (mixT f h n k) i = if i < k then f i else h i := by
  rw [gi_get (by rw [mixT_len]; exact hi)]; simp [mixT]
theorem mixT_set {f h : Nat → Int} {n k : Nat} : (mixT f h n k).set k (f k) = mixT f h n (k + 1) := gi_ext (by rw [List.length_set, mixT_len, mixT_len]) fun i hi => by
  rw [List.length_set, mixT_len] at hi
  rw [gi_mixT hi]
  by_cases e : i = k
  · subst e; rw [gi_set_eq (by rw [mixT_len]; exact hi), if_pos (by omega)]
  · rw [gi_set_ne (by rw [mixT_len]; exact hi) e, gi_mixT hi]
    by_cases h2 : i < k
    · rw [if_pos h2, if_pos (by omega)]
    · rw [if_neg h2, if_neg (by omega)]
theorem mixT_zero (f h : Nat → Int) (n : Nat) : mixT f h n 0 = (List.range n).map h := gi_ext (by rw [mixT_len]; simp) fun i hi => by
  rw [mixT_len] at hi
  rw [gi_mixT hi, if_neg (by omega), gi_get (by simpa using hi)]; simp
theorem mixT_all (f h : Nat → Int) (n : Nat) : mixT f h n n = (List.range n).map f := gi_ext (by rw [mixT_len]; simp) fun i hi => by
  rw [mixT_len] at hi
  rw [gi_mixT hi, if_pos hi, gi_get (by simpa using hi)]; simp
theorem list_range (x : List Int) : (List.range x.length).map (gi x) = x := gi_ext (by simp) fun i hi => by
  have hi' : i < x.length := by simpa using hi
  rw [gi_get hi]; simp
theorem gi_range {f : Nat → Int} {n i : Nat} (h : i < n) : gi ((List.range n).map f) i = f i := by rw [gi_get (by simpa using h)]; simp

end Go.Proofs.Ytnbkifpmoegaaaa

/- Chances of places: plain. -/
namespace Go.Proofs.Ytnbkifpmoegaaaa

def wI (g : List Int) (b : Bool) (v : Nat) : Int := if b then ((12 / dg g v : Nat) : Int) else (dg g v : Int)
def tW (g : List Int) (b : Bool) : Int := sU (wI g b) g.length
theorem wI_bd {g : List Int} (h : GR g) (b : Bool) {v : Nat} (hv : v < g.length) : 1 ≤ wI g b v ∧ wI g b v ≤ 12 := by
  obtain ⟨h1, h2, _⟩ := h.deg hv
  unfold wI
  generalize dg g v = d at *
  have hd : d = 1 ∨ d = 2 ∨ d = 3 ∨ d = 4 := by omega
  cases b <;> rcases hd with rfl | rfl | rfl | rfl <;> decide
theorem sU_ge {f : Nat → Int} : ∀ {m : Nat}, (∀ k, k < m → 1 ≤ f k ∧ f k ≤ 12) → (m : Int) ≤ sU f m ∧ sU f m ≤ 12 * (m : Int)
  | 0, _ => by simp [sU]
  | m + 1, h => by
    have h1 := sU_ge (m := m) fun k hk => h k (by omega)
    have h2 := h m (by omega)
    rw [sU]; omega
theorem tW_bd {g : List Int} (h : GR g) (b : Bool) : 2 ≤ tW g b ∧ tW g b ≤ 60 := by
  have h2 := h.b.n2
  have h5 := h.b.n5
  have := sU_ge (f := wI g b) (m := g.length) fun k hk => wI_bd h b hk
  unfold tW; omega
def pcL (g : List Int) (b : Bool) : Nat → List Int
  | 0 => []
  | v + 1 => pcL g b v ++ [frU (wI g b v) (tW g b), frD (wI g b v) (tW g b)]
theorem pcL_len (g : List Int) (b : Bool) : ∀ i, (pcL g b i).length = 2 * i
  | 0 => rfl
  | i + 1 => by rw [pcL, List.length_append, pcL_len g b i]; simp; omega
theorem gi_pcL (g : List Int) (b : Bool) : ∀ {k i}, i < k → gi (pcL g b k) (i * 2) = frU (wI g b i) (tW g b) ∧ gi (pcL g b k) (i * 2 + 1) = frD (wI g b i) (tW g b)
  | 0, _, h => absurd h (by omega)
  | k + 1, i, h => by
    have hl := pcL_len g b k
    rw [pcL]
    by_cases e : i = k
    · subst e
      have h0 := gi_append_ge (L := pcL g b i) (M := [frU (wI g b i) (tW g b), frD (wI g b i) (tW g b)]) (k := 0) (by simp)
      have h1 := gi_append_ge (L := pcL g b i) (M := [frU (wI g b i) (tW g b), frD (wI g b i) (tW g b)]) (k := 1) (by simp)
      rw [hl] at h0 h1
      rw [show i * 2 = 2 * i + 0 by omega, h0, show 2 * i + 0 + 1 = 2 * i + 1 by omega, h1]
      exact ⟨rfl, rfl⟩
    · rw [gi_append_lt (by omega), gi_append_lt (by omega)]
      exact gi_pcL g b (by omega)
/-- The list for a kind: births, deaths, or none. -/
noncomputable def pcF (g : List Int) (s : ByteArray) : List Int := if pb (GR g) = true then (if (s.toList == [98, 105, 114, 116, 104]) = true then pcL g true g.length else if (s.toList == [100, 101, 97, 116, 104]) = true then pcL g false g.length else []) else []
def KindIs (s : ByteArray) (b : Bool) : Prop := (s.toList == [98, 105, 114, 116, 104]) = b ∧ (s.toList == [100, 101, 97, 116, 104]) = !b
theorem kind_cases (s : ByteArray) : KindIs s true ∨ KindIs s false ∨ ((s.toList == [98, 105, 114, 116, 104]) = false ∧ (s.toList == [100, 101, 97, 116, 104]) = false) := by
  unfold KindIs
  by_cases h1 : s.toList = [98, 105, 114, 116, 104]
  · refine .inl ⟨beq_iff_eq.2 h1, ?_⟩
    rw [h1]; decide
  · have e1 : (s.toList == [98, 105, 114, 116, 104]) = false := beq_eq_false_iff_ne.2 h1
    by_cases h2 : s.toList = [100, 101, 97, 116, 104]
    · exact .inr (.inl ⟨e1, beq_iff_eq.2 h2⟩)
    · exact .inr (.inr ⟨e1, beq_eq_false_iff_ne.2 h2⟩)
theorem pcF_yes {g : List Int} {s : ByteArray} {b : Bool} (h : GR g) (hk : KindIs s b) : pcF g s = pcL g b g.length := by
  unfold pcF
  rw [if_pos (pb_true h)]
  cases b
  · rw [hk.1, hk.2]; rfl
  · rw [hk.1]; rfl
theorem pcF_none {g : List Int} {s : ByteArray} (hk : (s.toList == [98, 105, 114, 116, 104]) = false ∧ (s.toList == [100, 101, 97, 116, 104]) = false) : pcF g s = [] := by
  unfold pcF
  rw [hk.1, hk.2]
  split <;> rfl
theorem pcF_no {g : List Int} {s : ByteArray} (h : ¬ GR g) : pcF g s = [] := by unfold pcF; rw [if_neg (by rw [pb_false h]; decide)]
theorem pcF_two (g : List Int) (s : ByteArray) : ∃ N, (pcF g s).length = 2 * N ∧ N ≤ 50 := by
  by_cases h : GR g
  · have h5 := h.b.n5
    rcases kind_cases s with k | k | k
    · exact ⟨g.length, by rw [pcF_yes h k, pcL_len], by omega⟩
    · exact ⟨g.length, by rw [pcF_yes h k, pcL_len], by omega⟩
    · exact ⟨0, by rw [pcF_none k]; rfl, by omega⟩
  · exact ⟨0, by rw [pcF_no h]; rfl, by omega⟩
theorem sm_range (f : Nat → Int) (n : Nat) : ∀ k, k ≤ n → sm ((List.range n).map f) k = sU f k
  | 0, _ => rfl
  | k + 1, h => by rw [sm, sU, sm_range f n k (by omega), gi_range (by omega)]
theorem tot_range (f : Nat → Int) (n : Nat) : tot ((List.range n).map f) = sU f n := by
  unfold tot; rw [List.length_map, List.length_range]; exact sm_range f n n (Nat.le_refl _)

end Go.Proofs.Ytnbkifpmoegaaaa

/- PlaceChances, by the program. -/
namespace Go.Proofs.Ytnbkifpmoegaaaa
open Go.RowKit

theorem PLr.setLow {B n L s c R W} (h : PLr B n L s c R W) {a : Addr} (ha : a.block < B) (v : Value) : PLr B n L s c R (W.setCell a v) := by
  have hs := h.sz
  exact ⟨by simpa [World.setCell] using hs, h.row.setOther (by omega) _, fun x hx => blk_other (h.bl x hx) (by omega) _, fun x hx => ownsRow_setCell_below (h.own x hx) (by omega) _, h.far⟩
/-- Fractions stored one after the other. -/
structure FX8 (n g : Nat) (w : World) (L : List Int) (W : World) : Prop where
  own : OwnF w.heap.size W.heap.size W g (some ⟨g, 0, none⟩) n n L
  up : Below w.heap.size w W
  lo : w.heap.size ≤ g
theorem FX8.next {n g w L W W'} (h : FX8 n g w L W) (k : Below W.heap.size W W') : FX8 n g w L W' := ⟨(h.own.below k).mono (Nat.le_refl _) k.size, below_up h.up k, h.lo⟩
theorem FX8.cell {n g w L W} (h : FX8 n g w L W) {k : Nat} (hk : k < 2 * n) : W.cell? ⟨g, k, none⟩ = some (.int .i64 (gi L k)) := by
  obtain ⟨b, o, e, hc⟩ := h.own.frs.at_ (by omega)
  injection e with e
  injection e with e1 e2
  subst e1
  subst e2
  have := hc k hk
  rw [Nat.zero_add] at this
  exact this
theorem FX8.frozen {n g w L W} (h : FX8 n g w L W) {k : Nat} (hk : k < 2 * n) : W.frozen? ⟨g, k, none⟩ = false := by
  obtain ⟨o, e, _, _, hf⟩ := h.own.own (by omega)
  injection e with e
  injection e with _ e2
  subst e2
  have := hf k hk
  rw [Nat.zero_add] at this
  exact this
theorem FX8.set {n g w L W} (h : FX8 n g w L W) {k : Nat} (hk : k < 2 * n) (v : Int) : FX8 n g w (L.set k v) (W.setCell ⟨g, k, none⟩ (.int .i64 v)) := by
  have h1 := h.own.set hk v
  rw [Nat.zero_add] at h1
  exact ⟨h1.mono (Nat.le_refl _) (by simp [World.setCell]), h.up.setCell (p := ⟨g, k, none⟩) h.lo _, h.lo⟩
theorem made_zero8 (n k : Nat) (hk : k < n * 2) : (madeCells #[.int .i64 0, .int .i64 0] (n * 2))[k]? = some (.int .i64 0) := by
  have h2 : k % 2 = 0 ∨ k % 2 = 1 := by omega
  rcases h2 with h2 | h2 <;> simp [madeCells, hk, h2]
theorem FX8.start (w : World) (n : Nat) (hn : n ≤ 5) : FX8 n w.heap.size w ((List.range (2 * n)).map fun _ => 0) (w.alloc (.cells (madeCells #[.int .i64 0, .int .i64 0] (n * 2)) 39)) := by
  have hb := blk_new w 39 (madeCells #[.int .i64 0, .int .i64 0] (n * 2))
  refine ⟨⟨⟨by simp, Nat.le_refl _, by omega, fun _ => ⟨_, 0, rfl, fun k hk => ?_⟩⟩, fun _ => ⟨0, rfl, Nat.le_refl _, by simp, fun k _ => blk_frozen hb _⟩⟩, below_alloc _ _, Nat.le_refl _⟩
  rw [Nat.zero_add, gi_range hk]
  exact blk_cell hb (made_zero8 n k (by omega))
/-- The weights under way, and the places. -/
structure WP8 (w : World) (n : Nat) (g : List Int) (f : Nat → Int) (k : Nat) (W : World) : Prop where
  own : NX w n w.heap.size (mixT f (fun _ => 0) n k) W
  pl : ∃ R, PLr (w.heap.size + 1) n (nn g) (fun _ => 0) (fun _ => 0) R W
theorem WP8.set {w n g f k W} (h : WP8 w n g f k W) (hk : k < n) (x : Int) (hx : -100 ≤ x ∧ x ≤ 100) (hf : -100 ≤ f k ∧ f k ≤ 100) : WP8 w n g f (k + 1) ((W.setCell ⟨w.heap.size, k, none⟩ (.int .i64 x)).setCell ⟨w.heap.size, k, none⟩ (.int .i64 (f k))) := by
  have h1 := (h.own.set hk (v := x) (by omega)).set hk (v := f k) (by omega)
  rw [List.set_set, mixT_set] at h1
  obtain ⟨R, q⟩ := h.pl
  exact ⟨h1, R, (q.setLow (by show w.heap.size < w.heap.size + 1; omega) _).setLow (by show w.heap.size < w.heap.size + 1; omega) _⟩
theorem WP8.set1 {w n g f k W} (h : WP8 w n g f k W) (hk : k < n) (hf : -100 ≤ f k ∧ f k ≤ 100) : WP8 w n g f (k + 1) (W.setCell ⟨w.heap.size, k, none⟩ (.int .i64 (f k))) := by
  have h1 := h.own.set hk (v := f k) (by omega)
  rw [mixT_set] at h1
  obtain ⟨R, q⟩ := h.pl
  exact ⟨h1, R, q.setLow (by show w.heap.size < w.heap.size + 1; omega) _⟩
theorem WP8.next {w n g f k W W'} (h : WP8 w n g f k W) (q : Quiet W W') : WP8 w n g f k W' := ⟨h.own.next q.below, let ⟨R, r⟩ := h.pl; ⟨R, r.quiet q⟩⟩
set_option maxRecDepth 100000 in
set_option maxHeartbeats 3200000 in
theorem placeChances_yes (A : Option Addr) (n c : Nat) (g : List Int) (s : ByteArray) (b : Bool) (w : World) (hx : Ints w A n c g) (hg : GR g) (hk : KindIs s b) :
    Calls Try.prog 33 #[.slice A n c, .string s] w (NewF w (pcF g s)) := by
  have HX := Lib.hid hx
  have hl := hx.len
  have HV := Lib.hid (pb_true hg ▸ ValidGraph_impl A n c g w hx)
  have HPC := Lib.hid (pcF_yes hg hk)
  have h5 : n ≤ 5 := by rw [← hl]; exact hg.b.n5
  have h2 : 2 ≤ n := by rw [← hl]; exact hg.b.n2
  have HPL := Lib.hid (fun W a => placesOf_any A n c g W a hg.b.inn h5)
  have HWB := Lib.hid (fun v (hv : v < n) => wI_bd hg b (v := v) (by rw [hl]; exact hv))
  have HDB := Lib.hid (fun v (hv : v < n) => show 1 ≤ dg g v ∧ dg g v ≤ 4 from have q := hg.deg (v := v) (by rw [hl]; exact hv); ⟨q.1, q.2.1⟩)
  have HTB := Lib.hid (tW_bd hg b)
  have HTW := Lib.hid (show tot ((List.range n).map (wI g b)) = tW g b by rw [tot_range, ← hl]; rfl)
  have HNL := Lib.hid (fun v => show (nn g v).length = dg g v from nn_len g v)
  have HWI := Lib.hid (fun v => show wI g b v = if b then ((12 / dg g v : Nat) : Int) else (dg g v : Int) from rfl)
  have HL := Lib.hid hl
  have HZM := Lib.hid (mixT_zero (wI g b) (fun _ => 0) n)
  have hmk := run_make_row' (P := Try.prog) 23 3 (.int .i64 0) 8 Try.underlying23 Try.info3 rfl .i64 .i64 n (by omega) (by omega)
  obtain ⟨i0, hi0, hz0, hz1, hz2⟩ := info_parts Try.infoF
  obtain ⟨hk1, hk2⟩ := hk
  clear hx hg hl
  go_enter Try.func33, Try.ntmps33
  go_wp2_with fail
  refine HV.out.mono ?_
  rintro e w1 ⟨rfl, hb⟩
  have HB1 := Lib.hid hb
  have HXM := Lib.hid ((HX.out.keep (Keep.below hb)).keep (Keep.below (below_alloc w1 (.cells (madeCells #[.int .i64 0] n) 3))))
  have HC := Lib.hid (HPL.out _ HXM.out)
  have HN0 := Lib.hid (show NX w1 n w1.heap.size (mixT (wI g b) (fun _ => 0) n 0) (w1.alloc (.cells (madeCells #[.int .i64 0] n) 3)) from by
    rw [HZM.out]
    exact ⟨OwnI.of_rowIs (by simp) (by omega) (fun x hx => by obtain ⟨_, _, rfl⟩ := List.mem_map.1 hx; omega) (Nat.le_refl _) (by simp) (World.rowIs_made w1 (.int .i64 0) n 3) (fun k hk => by rw [gi_range hk]), below_alloc _ _, Nat.le_refl _⟩)
  clear hb HV HPL HXM HZM
  cases b
  · go_wp2_with fail
    refine HC.out.mono ?_
    rintro e w2 ⟨rfl, hpw⟩
    have HB2 := Lib.hid (below_up (below_alloc w1 (.cells (madeCells #[.int .i64 0] n) 3)) hpw.up)
    have HW0 := Lib.hid (show WP8 w1 n g (wI g false) 0 w2 from ⟨HN0.out.next hpw.up, by
      obtain ⟨R, q⟩ := hpw.ex
      rw [World.size_alloc] at q
      exact ⟨R, q⟩⟩)
    clear hpw HC HN0 hmk HB2
    go_wp2
    go_loopw [28] (fun i wr => ∃ v : Nat, v ≤ n ∧ i = .int .i64 v ∧ Hid (WP8 w1 n g (wI g false) v wr)) (fun i _ => n - (intOf i).toNat)
    case atStart => exact ⟨0, Nat.zero_le _, rfl, HW0⟩
    case round =>
      clear HW0
      obtain ⟨v, hv, rfl, HW⟩ := hrel
      by_cases hlt : v < n
      · obtain ⟨R, hpl⟩ := HW.out.pl
        have c1 : wr.cell? ⟨w1.heap.size + 1, v, none⟩ = some (.pointer (some ⟨w1.heap.size + 1 + 1 + v, 0, none⟩)) := hpl.row.cell hlt
        obtain ⟨An, kn, hR, _⟩ := hpl.near hlt
        have c2 := blk_cell (hpl.bl v hlt) (i := 0) rfl
        rw [hR, HNL.out] at c2
        have c3 := HW.out.own.cell hlt
        have f3 := HW.out.own.frozen hlt
        obtain ⟨d1, d2⟩ := HDB.out v hlt
        have hwi := HWI.out v
        have HWV := Lib.hid (HWB.out v hlt)
        have hw2 : wI g false v = (dg g v : Int) := hwi
        have HW1 := Lib.hid (HW.out.set1 hlt (by have := HWV.out; omega))
        rw [hw2] at HW1
        clear hR hpl HW hwi hw2 HWV
        generalize dg g v = dd at *
        go_wp2
        go_roundw
        case rel => exact ⟨v + 1, by omega, by go_num, HW1⟩
        case measure => simp [intOf]; omega
      · obtain rfl : v = n := by omega
        have HM := Lib.hid (mixT_all (wI g false) (fun _ => 0) v)
        have HNX := Lib.hid (show NX w1 v w1.heap.size ((List.range v).map (wI g false)) wr from by rw [← HM.out]; exact HW.out.own)
        have HSO := Lib.hid (show SumOk ((List.range v).map (wI g false)) from SumOk.of_small (B := 12) (by simp; omega) (fun j hj => by
          rw [List.length_map, List.length_range] at hj
          rw [gi_range hj]; have := HWB.out j hj; omega) (by omega))
        have HINT := Lib.hid HNX.out.own.ints
        have HB3 := Lib.hid (below_up HB1.out HNX.out.up)
        have hmk := run_make (P := Try.prog) wr 44 39 i0 (.agg #[.int .i64 0, .int .i64 0]) Try.underlying44 hi0 hz0 .i64 .i64 (v : Int) (v : Int) (by omega) (Int.le_refl _) (by rw [hz2]; omega) (by omega)
        rw [Int.toNat_natCast, hz1] at hmk
        have HF0 := Lib.hid (show FX8 v wr.heap.size wr (mixT (gi (pcL g false v)) (fun _ => 0) (2 * v) (0 * 2)) (wr.alloc (.cells (madeCells #[.int .i64 0, .int .i64 0] (v * 2)) 39)) from by
          rw [Nat.zero_mul, mixT_zero]; exact FX8.start wr v h5)
        clear HW HNX HM HWI HNL HDB HB1
        go_wp2
        clear hmk
        generalize hW1 : wr = W1 at *
        clear hW1
        go_loopw [54] (fun i wr => ∃ k : Nat, k ≤ v ∧ i = .int .i64 k ∧ Hid (FX8 v W1.heap.size W1 (mixT (gi (pcL g false v)) (fun _ => 0) (2 * v) (k * 2)) wr)) (fun i _ => v - (intOf i).toNat)
        case atStart => exact ⟨0, Nat.zero_le _, rfl, HF0⟩
        case round =>
          clear HF0
          obtain ⟨k, hkv, rfl, HF⟩ := hrel
          by_cases hkl : k < v
          · have HIK := Lib.hid (HINT.out.keep (Keep.below HF.out.up))
            obtain ⟨bi, oi, hei, hci⟩ := HIK.out.at_ (by omega)
            injection hei with hei
            injection hei with e1 e2 _
            subst e1
            subst e2
            have c1 := hci k hkl
            rw [gi_range hkl, Nat.zero_add] at c1
            have HS := Lib.hid (HTW.out ▸ sumOf_any (some ⟨w1.heap.size, 0, none⟩) v v _ wr HIK.out HSO.out)
            obtain ⟨b1, b2⟩ := HWB.out k hkl
            obtain ⟨t1, t2⟩ := HTB.out
            have HGR := Lib.hid (gi_pcL g false (k := v) (i := k) hkl)
            have HST := Lib.hid (show ((mixT (gi (pcL g false v)) (fun _ => 0) (2 * v) (k * 2)).set (k * 2) (gi (pcL g false v) (k * 2))).set (k * 2 + 1) (gi (pcL g false v) (k * 2 + 1)) = mixT (gi (pcL g false v)) (fun _ => 0) (2 * v) ((k + 1) * 2) by rw [mixT_set, mixT_set, show k * 2 + 1 + 1 = (k + 1) * 2 by omega])
            rw [HGR.out.1, HGR.out.2] at HST
            have HFV : Hid (frV (wI g false k) (tW g false) = .agg #[.int .i64 (frU (wI g false k) (tW g false)), .int .i64 (frD (wI g false k) (tW g false))]) := Lib.hid rfl
            have HFR := Lib.hid (fun W => HFV.out ▸ fracOf_any (wI g false k) (tW g false) W (by unfold Mid; omega) (by unfold Mid; omega) (by omega))
            clear hci HIK HGR HFV
            generalize frU (wI g false k) (tW g false) = U at *
            generalize frD (wI g false k) (tW g false) = D at *
            generalize wI g false k = x at *
            generalize tW g false = T at *
            go_wp2_with fail
            refine HS.out.mono ?_
            rintro e w5 ⟨rfl, hq⟩
            have HF5 := Lib.hid (HF.out.next hq.below)
            clear hq HS HF c1
            go_wp2_with fail
            refine (HFR.out _).mono ?_
            rintro e w6 ⟨rfl, hb⟩
            have HF6 := Lib.hid (HF5.out.next hb)
            clear hb HFR HF5
            have q1 := HF6.out.cell (k := k * 2) (by omega)
            have q2 := HF6.out.cell (k := k * 2 + 1) (by omega)
            have z1 := HF6.out.frozen (k := k * 2) (by omega)
            have z2 := HF6.out.frozen (k := k * 2 + 1) (by omega)
            have HF7 := Lib.hid ((HF6.out.set (k := k * 2) (by omega) U).set (k := k * 2 + 1) (by omega) D)
            rw [HST.out] at HF7
            clear HF6
            go_wp2
            go_roundw
            case rel => exact ⟨k + 1, by omega, by go_num, HF7⟩
            case measure => simp [intOf]; omega
          · obtain rfl : k = v := by omega
            have HNW := Lib.hid (show NewF w (pcF g s) (.returned (.slice (some ⟨W1.heap.size, 0, none⟩) k k)) wr from by
              refine NewF.from HB3.out ?_
              have e : mixT (gi (pcL g false k)) (fun _ => 0) (2 * k) (k * 2) = pcF g s := by
                rw [HPC.out, HL.out, show k * 2 = 2 * k by omega, mixT_all, ← pcL_len g false k]
                exact list_range _
              have ho := HF.out.own
              rw [e] at ho
              exact ⟨_, _, _, _, rfl, ho.frs.len, ho, HF.out.up⟩)
            go_wp2
            go_ret
            exact HNW.out
  · go_wp2_with fail
    refine HC.out.mono ?_
    rintro e w2 ⟨rfl, hpw⟩
    have HB2 := Lib.hid (below_up (below_alloc w1 (.cells (madeCells #[.int .i64 0] n) 3)) hpw.up)
    have HW0 := Lib.hid (show WP8 w1 n g (wI g true) 0 w2 from ⟨HN0.out.next hpw.up, by
      obtain ⟨R, q⟩ := hpw.ex
      rw [World.size_alloc] at q
      exact ⟨R, q⟩⟩)
    clear hpw HC HN0 hmk HB2
    go_wp2
    go_loopw [28] (fun i wr => ∃ v : Nat, v ≤ n ∧ i = .int .i64 v ∧ Hid (WP8 w1 n g (wI g true) v wr)) (fun i _ => n - (intOf i).toNat)
    case atStart => exact ⟨0, Nat.zero_le _, rfl, HW0⟩
    case round =>
      clear HW0
      obtain ⟨v, hv, rfl, HW⟩ := hrel
      by_cases hlt : v < n
      · obtain ⟨R, hpl⟩ := HW.out.pl
        have c1 : wr.cell? ⟨w1.heap.size + 1, v, none⟩ = some (.pointer (some ⟨w1.heap.size + 1 + 1 + v, 0, none⟩)) := hpl.row.cell hlt
        obtain ⟨An, kn, hR, _⟩ := hpl.near hlt
        have c2 := blk_cell (hpl.bl v hlt) (i := 0) rfl
        rw [hR, HNL.out] at c2
        have c3 := HW.out.own.cell hlt
        have f3 := HW.out.own.frozen hlt
        obtain ⟨d1, d2⟩ := HDB.out v hlt
        have hwi := HWI.out v
        have HWV := Lib.hid (HWB.out v hlt)
        have HCH := Lib.hid (fun W q => HNL.out v ▸ chanceOfEach_any (w1.heap.size + 1) n (nn g) (fun _ => 0) (fun _ => 0) R W q v hlt (by rw [HNL.out]; exact ⟨d1, d2⟩))
        have hw2 : wI g true v = ((12 / dg g v : Nat) : Int) := hwi
        have HW1 := Lib.hid (HW.out.set hlt (dg g v : Int) (by omega) (by have := HWV.out; omega))
        rw [hw2] at HW1
        have HPS := Lib.hid (hpl.setLow (a := ⟨w1.heap.size, v, none⟩) (by show w1.heap.size < w1.heap.size + 1; omega) (.int .i64 (dg g v : Int)))
        have HO2 := Lib.hid (HW.out.own.set hlt (v := (dg g v : Int)) (by omega))
        have c4 := HO2.out.cell hlt
        have f4 := HO2.out.frozen hlt
        clear hR hpl HW hwi hw2 HWV
        generalize dg g v = dd at *
        go_wp2_with fail
        refine (HCH.out _ HPS.out).mono ?_
        rintro e w5 ⟨rfl, rfl⟩
        clear HCH HPS HO2
        go_wp2
        go_roundw
        case rel => exact ⟨v + 1, by omega, by go_num, HW1⟩
        case measure => simp [intOf]; omega
      · obtain rfl : v = n := by omega
        have HM := Lib.hid (mixT_all (wI g true) (fun _ => 0) v)
        have HNX := Lib.hid (show NX w1 v w1.heap.size ((List.range v).map (wI g true)) wr from by rw [← HM.out]; exact HW.out.own)
        have HSO := Lib.hid (show SumOk ((List.range v).map (wI g true)) from SumOk.of_small (B := 12) (by simp; omega) (fun j hj => by
          rw [List.length_map, List.length_range] at hj
          rw [gi_range hj]; have := HWB.out j hj; omega) (by omega))
        have HINT := Lib.hid HNX.out.own.ints
        have HB3 := Lib.hid (below_up HB1.out HNX.out.up)
        have hmk := run_make (P := Try.prog) wr 44 39 i0 (.agg #[.int .i64 0, .int .i64 0]) Try.underlying44 hi0 hz0 .i64 .i64 (v : Int) (v : Int) (by omega) (Int.le_refl _) (by rw [hz2]; omega) (by omega)
        rw [Int.toNat_natCast, hz1] at hmk
        have HF0 := Lib.hid (show FX8 v wr.heap.size wr (mixT (gi (pcL g true v)) (fun _ => 0) (2 * v) (0 * 2)) (wr.alloc (.cells (madeCells #[.int .i64 0, .int .i64 0] (v * 2)) 39)) from by
          rw [Nat.zero_mul, mixT_zero]; exact FX8.start wr v h5)
        clear HW HNX HM HWI HNL HDB HB1
        go_wp2
        clear hmk
        generalize hW1 : wr = W1 at *
        clear hW1
        go_loopw [54] (fun i wr => ∃ k : Nat, k ≤ v ∧ i = .int .i64 k ∧ Hid (FX8 v W1.heap.size W1 (mixT (gi (pcL g true v)) (fun _ => 0) (2 * v) (k * 2)) wr)) (fun i _ => v - (intOf i).toNat)
        case atStart => exact ⟨0, Nat.zero_le _, rfl, HF0⟩
        case round =>
          clear HF0
          obtain ⟨k, hkv, rfl, HF⟩ := hrel
          by_cases hkl : k < v
          · have HIK := Lib.hid (HINT.out.keep (Keep.below HF.out.up))
            obtain ⟨bi, oi, hei, hci⟩ := HIK.out.at_ (by omega)
            injection hei with hei
            injection hei with e1 e2 _
            subst e1
            subst e2
            have c1 := hci k hkl
            rw [gi_range hkl, Nat.zero_add] at c1
            have HS := Lib.hid (HTW.out ▸ sumOf_any (some ⟨w1.heap.size, 0, none⟩) v v _ wr HIK.out HSO.out)
            obtain ⟨b1, b2⟩ := HWB.out k hkl
            obtain ⟨t1, t2⟩ := HTB.out
            have HGR := Lib.hid (gi_pcL g true (k := v) (i := k) hkl)
            have HST := Lib.hid (show ((mixT (gi (pcL g true v)) (fun _ => 0) (2 * v) (k * 2)).set (k * 2) (gi (pcL g true v) (k * 2))).set (k * 2 + 1) (gi (pcL g true v) (k * 2 + 1)) = mixT (gi (pcL g true v)) (fun _ => 0) (2 * v) ((k + 1) * 2) by rw [mixT_set, mixT_set, show k * 2 + 1 + 1 = (k + 1) * 2 by omega])
            rw [HGR.out.1, HGR.out.2] at HST
            have HFV : Hid (frV (wI g true k) (tW g true) = .agg #[.int .i64 (frU (wI g true k) (tW g true)), .int .i64 (frD (wI g true k) (tW g true))]) := Lib.hid rfl
            have HFR := Lib.hid (fun W => HFV.out ▸ fracOf_any (wI g true k) (tW g true) W (by unfold Mid; omega) (by unfold Mid; omega) (by omega))
            clear hci HIK HGR HFV
            generalize frU (wI g true k) (tW g true) = U at *
            generalize frD (wI g true k) (tW g true) = D at *
            generalize wI g true k = x at *
            generalize tW g true = T at *
            go_wp2_with fail
            refine HS.out.mono ?_
            rintro e w5 ⟨rfl, hq⟩
            have HF5 := Lib.hid (HF.out.next hq.below)
            clear hq HS HF c1
            go_wp2_with fail
            refine (HFR.out _).mono ?_
            rintro e w6 ⟨rfl, hb⟩
            have HF6 := Lib.hid (HF5.out.next hb)
            clear hb HFR HF5
            have q1 := HF6.out.cell (k := k * 2) (by omega)
            have q2 := HF6.out.cell (k := k * 2 + 1) (by omega)
            have z1 := HF6.out.frozen (k := k * 2) (by omega)
            have z2 := HF6.out.frozen (k := k * 2 + 1) (by omega)
            have HF7 := Lib.hid ((HF6.out.set (k := k * 2) (by omega) U).set (k := k * 2 + 1) (by omega) D)
            rw [HST.out] at HF7
            clear HF6
            go_wp2
            go_roundw
            case rel => exact ⟨k + 1, by omega, by go_num, HF7⟩
            case measure => simp [intOf]; omega
          · obtain rfl : k = v := by omega
            have HNW := Lib.hid (show NewF w (pcF g s) (.returned (.slice (some ⟨W1.heap.size, 0, none⟩) k k)) wr from by
              refine NewF.from HB3.out ?_
              have e : mixT (gi (pcL g true k)) (fun _ => 0) (2 * k) (k * 2) = pcF g s := by
                rw [HPC.out, HL.out, show k * 2 = 2 * k by omega, mixT_all, ← pcL_len g true k]
                exact list_range _
              have ho := HF.out.own
              rw [e] at ho
              exact ⟨_, _, _, _, rfl, ho.frs.len, ho, HF.out.up⟩)
            go_wp2
            go_ret
            exact HNW.out
theorem PlaceChances_impl (A : Option Addr) (n c : Nat) (g : List Int) (s : ByteArray) (w : World) (hx : Ints w A n c g) :
    Calls Try.prog 33 #[.slice A n c, .string s] w (NewF w (pcF g s)) := by
  by_cases hg : GR g
  · rcases kind_cases s with hk | hk | hk
    · exact placeChances_yes A n c g s true w hx hg hk
    · exact placeChances_yes A n c g s false w hx hg hk
    · have HV := Lib.hid (pb_true hg ▸ ValidGraph_impl A n c g w hx)
      have HN := Lib.hid (pcF_none (g := g) hk)
      obtain ⟨hk1, hk2⟩ := hk
      clear hx hg
      go_enter Try.func33, Try.ntmps33
      go_wp2_with fail
      refine HV.out.mono ?_
      rintro e w1 ⟨rfl, hb⟩
      have HB := Lib.hid hb
      clear hb HV
      go_wp2
      go_ret
      exact NewF.empty HB.out HN.out
  · have HV := Lib.hid (pb_false hg ▸ ValidGraph_impl A n c g w hx)
    have HN := Lib.hid (pcF_no (s := s) hg)
    clear hx hg
    go_enter Try.func33, Try.ntmps33
    go_wp2_with fail
    refine HV.out.mono ?_
    rintro e w1 ⟨rfl, hb⟩
    have HB := Lib.hid hb
    clear hb HV
    go_wp2
    go_ret
    exact NewF.empty HB.out HN.out

end Go.Proofs.Ytnbkifpmoegaaaa

