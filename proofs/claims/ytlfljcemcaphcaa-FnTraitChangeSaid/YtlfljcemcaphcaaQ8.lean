/- Texts merged: Turn KN10 R2 R3 R4 R5 R6 R7 R8 R9 R10 R11 T1 V1 V2 V3 Math9 V4 V5 S7 W1 W2 W3 KN11 KN12 KN13 KN14 KN15 KN16. -/
import Derived.Test.YtlfljcemcaphcaaQ7
import Derived.Deep.LoopGhost
/- A table turned, by the program: make, make, store. -/
namespace Go.Proofs.Ytlfljcemcaphcaa
open Go.RowKit

def flip (a : List (List Int)) (n m : Nat) : List (List Int) := (List.range m).map fun j => (List.range n).map fun i => g2 a i j
theorem gr_flip {a : List (List Int)} {n m j : Nat} (h : j < m) : gr (flip a n m) j = (List.range n).map fun i => g2 a i j := by
  rw [gr_get (by simpa [flip] using h)]; simp [flip]
theorem gi_col {a : List (List Int)} {n i j : Nat} (h : i < n) : gi ((List.range n).map fun i => g2 a i j) i = g2 a i j := by
  rw [gi_get (by simpa using h)]; simp

def ttop (B n c : Nat) : Nat → Value := fun j => if j < c then .slice (some ⟨B + 1 + j, 0, none⟩) n n else .slice none 0 0
structure TurnO (w wr : World) (n m c : Nat) (xs : List (List Int)) : Prop where
  below : Below w.heap.size w wr
  size : wr.heap.size = w.heap.size + 1 + c
  top : wr.rowIs w.heap.size 43 m (ttop w.heap.size n c)
  done : ∀ j, j < c → wr.rowIs (w.heap.size + 1 + j) 3 n (fun i => .int .i64 (g2 xs i j))
structure TurnI (w wi : World) (n m c r : Nat) (xs : List (List Int)) : Prop where
  below : Below w.heap.size w wi
  size : wi.heap.size = w.heap.size + 1 + c + 1
  top : wi.rowIs w.heap.size 43 m (ttop w.heap.size n (c + 1))
  done : ∀ j, j < c → wi.rowIs (w.heap.size + 1 + j) 3 n (fun i => .int .i64 (g2 xs i j))
  cur : wi.rowIs (w.heap.size + 1 + c) 3 n (fun i => if i < r then .int .i64 (g2 xs i c) else .int .i64 0)
theorem turnO_start (w : World) (n m : Nat) (xs : List (List Int)) : TurnO w (w.alloc (.cells (madeCells #[.slice none 0 0] m) 43)) n m 0 xs :=
  ⟨below_alloc _ _, by simp, (World.rowIs_made w _ m 43).congr (fun j _ => by simp [ttop]), fun j hj => absurd hj (Nat.not_lt_zero _)⟩
theorem turnI_start {w wr : World} {n m c : Nat} {xs : List (List Int)} (h : TurnO w wr n m c xs) :
    TurnI w ((wr.alloc (.cells (madeCells #[.int .i64 0] n) 3)).setCell ⟨w.heap.size, c, none⟩ (.slice (some ⟨wr.heap.size, 0, none⟩) n n)) n m c 0 xs := by
  have hnew := World.rowIs_made wr (.int .i64 0) n 3
  have hs := h.size
  rw [hs] at hnew ⊢
  refine ⟨(h.below.alloc (by rw [hs]; omega) _).setCell (Nat.le_refl _) _, by simp [hs], ((h.top.alloc _).set c _).congr (fun j _ => ?_), fun j hj => ((h.done j hj).alloc _).setOther (by show w.heap.size + 1 + j ≠ w.heap.size; omega) _,
    (hnew.setOther (by show w.heap.size + 1 + c ≠ w.heap.size; omega) _).congr (fun i _ => by simp)⟩
  unfold ttop
  by_cases e : j = c
  · subst e; simp
  · rw [if_neg e]
    by_cases hlt : j < c
    · rw [if_pos hlt, if_pos (by omega)]
    · rw [if_neg hlt, if_neg (by omega)]
theorem turnI_step {w wi wd : World} {n m c r : Nat} {xs : List (List Int)} (h : TurnI w wi n m c r xs) (hq : Quiet wi wd) :
    TurnI w (wd.setCell ⟨w.heap.size + 1 + c, r, none⟩ (.int .i64 (g2 xs r c))) n m c (r + 1) xs := by
  obtain ⟨q, rfl⟩ := hq
  have hs := h.size
  refine ⟨(below_drewN h.below q).setCell (by show w.heap.size ≤ w.heap.size + 1 + c; omega) _, by simp [World.setCell]; exact hs, (World.rowIs.setOther (w := wi.drewN q) h.top (by show w.heap.size ≠ w.heap.size + 1 + c; omega) _),
    fun j hj => (World.rowIs.setOther (w := wi.drewN q) (h.done j hj) (by show w.heap.size + 1 + j ≠ w.heap.size + 1 + c; omega) _), (World.rowIs.set (w := wi.drewN q) h.cur r _).congr (fun i _ => ?_)⟩
  by_cases e : i = r
  · subst e; simp
  · rw [if_neg e]
    by_cases hlt : i < r
    · rw [if_pos hlt, if_pos (by omega)]
    · rw [if_neg hlt, if_neg (by omega)]
theorem TurnI.drew {w wi : World} {n m c r : Nat} {xs : List (List Int)} (h : TurnI w wi n m c r xs) : TurnI w wi.drew n m c r xs :=
  ⟨h.below.drew, h.size, h.top.drew, fun j hj => (h.done j hj).drew, h.cur.drew⟩
theorem turnI_done {w wi : World} {n m c : Nat} {xs : List (List Int)} (h : TurnI w wi n m c n xs) : TurnO w wi n m (c + 1) xs :=
  ⟨h.below, by rw [h.size]; omega, h.top, fun j hj => by
    by_cases e : j = c
    · subst e
      exact h.cur.congr (fun i hi => by rw [if_pos hi])
    · exact h.done j (by omega)⟩
theorem turnO_own {w wr : World} {n m : Nat} {xs : List (List Int)} (h : TurnO w wr n m m xs) (hn : n ≤ 3) (hm : m ≤ 3) (hbd : ∀ i j, i < n → j < m → -9 ≤ g2 xs i j ∧ g2 xs i j ≤ 9) :
    OwnR w.heap.size wr.heap.size wr w.heap.size (some ⟨w.heap.size, 0, none⟩) m m (flip xs n m) := by
  have hs := h.size
  refine ⟨by simp [flip], Nat.le_refl _, by omega, fun _ => ⟨0, fun k => w.heap.size + 1 + k, fun k => some ⟨w.heap.size + 1 + k, 0, none⟩, fun _ => n, rfl, Nat.le_refl _, h.top.lt, fun k hk => ?_, fun j k hj _ _ _ => by show w.heap.size + 1 + j ≠ w.heap.size + 1 + k; omega⟩⟩
  have hl : ((List.range n).map fun i => g2 xs i k).length = n := by simp
  rw [gr_flip hk, hl]
  refine ⟨by rw [Nat.zero_add]; exact h.top.frozen k, by rw [Nat.zero_add, h.top.cell hk, ttop, if_pos hk], OwnI.of_rowIs hl (by omega) ?_ (by show w.heap.size ≤ w.heap.size + 1 + k; omega) (by show w.heap.size + 1 + k < _; omega) (h.done k hk) (fun i hi => by rw [gi_col hi]), fun _ => by show w.heap.size + 1 + k ≠ w.heap.size; omega⟩
  intro x hx
  obtain ⟨i, hi, rfl⟩ := List.mem_map.1 hx
  have := hbd i k (List.mem_range.1 hi) hk
  omega

def MadeT (w : World) (n m : Nat) (xs : List (List Int)) (e : Ending) (w' : World) : Prop :=
  e = .returned (.slice (some ⟨w.heap.size, 0, none⟩) m m) ∧ OwnR w.heap.size w'.heap.size w' w.heap.size (some ⟨w.heap.size, 0, none⟩) m m (flip xs n m) ∧ Below w.heap.size w w' ∧ w.heap.size < w'.heap.size

set_option maxHeartbeats 1000000 in
theorem turned_any (b o : Nat) (rb ro cc : Nat → Nat) (n m c : Nat) (xs : List (List Int)) (w : World) (h : Tab w b o rb ro cc n m xs) :
    Calls Try.prog 55 #[.slice (some ⟨b, o, none⟩) n c] w (MadeT w n m xs) := by
  have HT := Lib.hid h
  have hn3 := h.n3
  have hn1 := h.n1
  have hm3 := h.m3
  have r0 := h.row 0 (by omega)
  simp only [Nat.add_zero] at r0
  clear h
  have hmk := run_make_row' (P := Try.prog) 22 43 (.slice none 0 0) 24 Try.underlying22 Try.info43 rfl .i64 .i64 m (by omega) (by omega)
  go_enter Try.func55, Try.ntmps55
  go_wp2
  clear hmk
  go_loopw [13] (fun s wr => ∃ k : Nat, k ≤ m ∧ s = .int .i64 k ∧ Hid (TurnO w wr n m k xs)) (fun s _ => m - (intOf s).toNat)
  case atStart => exact ⟨0, Nat.zero_le _, rfl, Lib.hid (turnO_start w n m xs)⟩
  case round =>
    obtain ⟨k, hk, rfl, HO⟩ := hrel
    by_cases hlt : k < m
    · have hmk2 := run_make_row' (P := Try.prog) 43 3 (.int .i64 0) 8 Try.underlying43 Try.info3 rfl .i64 .i64 n (by omega) (by omega)
      have c1 := (HO.out.top.alloc (.cells (madeCells #[.int .i64 0] n) 3)).cell hlt
      simp only [ttop, if_neg (Nat.lt_irrefl k)] at c1
      have c2 := (HO.out.top.alloc (.cells (madeCells #[.int .i64 0] n) 3)).frozen k
      have HI := Lib.hid (turnI_start HO.out)
      clear HO
      go_wp2
      clear hmk2 c1 c2
      go_loopw [24] (fun s wi => ∃ r : Nat, r ≤ n ∧ s = .int .i64 r ∧ Hid (TurnI w wi n m k r xs)) (fun s _ => n - (intOf s).toNat)
      case atStart => exact ⟨0, Nat.zero_le _, rfl, HI⟩
      case round =>
        clear HI
        obtain ⟨r, hr, rfl, HI⟩ := hrel
        by_cases hrn : r < n
        · have c1 := HI.out.top.cell hlt
          simp only [ttop, if_pos (Nat.lt_succ_self k)] at c1
          have hsrc := (HT.out.keep (Keep.below HI.out.below)).row r hrn
          have hel := (HT.out.keep (Keep.below HI.out.below)).cell r k hrn hlt
          have c3 := HI.out.cur.cell hrn
          simp only [if_neg (Nat.lt_irrefl r)] at c3
          have c4 := HI.out.cur.frozen r
          have HN := Lib.hid ((turnI_step HI.out (Quiet.refl _)).drew)
          go_wp2
          go_region
          all_goals
            clear c1 hsrc hel c3 c4 HI
            go_wp2
            go_roundw
            case rel => exact ⟨r + 1, by omega, by go_num, HN⟩
            case measure => simp [intOf]; omega
        · go_wp2
          go_roundw
          case rel => exact ⟨k + 1, by omega, by go_num, Lib.hid (turnI_done (by have h := HI.out; rw [show r = n by omega] at h; exact h))⟩
          case measure => simp [intOf]; omega
    · go_wp2
      go_ret
      obtain rfl : k = m := by omega
      exact ⟨rfl, turnO_own HO.out hn3 hm3 HT.out.bd, HO.out.below, HO.out.top.lt⟩
end Go.Proofs.Ytlfljcemcaphcaa

/- Traits: valid ones, by both programs; a table of up to six rows turned. -/
namespace Go.Proofs.Ytlfljcemcaphcaa
open Go.RowKit

/-- A sum. -/
def sf (g : Nat → Int) : Nat → Int
  | 0 => 0
  | k + 1 => sf g k + g k
theorem sf_bd {g : Nat → Int} {lo hi : Int} : ∀ {k : Nat}, (∀ j, j < k → lo ≤ g j ∧ g j ≤ hi) → lo * (k : Int) ≤ sf g k ∧ sf g k ≤ hi * (k : Int)
  | 0, _ => by simp [sf]
  | k + 1, h => by
    have h1 := sf_bd (k := k) (fun j hj => h j (by omega))
    have h2 := h k (by omega)
    have e1 : lo * ((k + 1 : Nat) : Int) = lo * k + lo := by rw [Int.natCast_succ, Int.mul_add, Int.mul_one]
    have e2 : hi * ((k + 1 : Nat) : Int) = hi * k + hi := by rw [Int.natCast_succ, Int.mul_add, Int.mul_one]
    rw [e1, e2]
    simp only [sf]
    omega
/-- The list of the first numbers. -/
def tl (g : Nat → Int) : Nat → List Int
  | 0 => []
  | k + 1 => tl g k ++ [g k]
theorem tl_len (g : Nat → Int) : ∀ k, (tl g k).length = k
  | 0 => rfl
  | k + 1 => by simp [tl, tl_len g k]
theorem tl_tot (g : Nat → Int) : ∀ k, tot (tl g k) = sf g k
  | 0 => rfl
  | k + 1 => by rw [tl, tot_snoc, tl_tot g k]; rfl
theorem tl_range (g : Nat → Int) : ∀ k, (List.range k).map g = tl g k
  | 0 => rfl
  | k + 1 => by rw [List.range_succ, List.map_append, tl_range g k]; rfl
theorem gi_tl {g : Nat → Int} {k i : Nat} (h : i < k) : gi (tl g k) i = g i := by
  rw [← tl_range, gi_get (by simpa using h)]; simp
/-- The row of a trait. -/
def TRr (r : List Int) : Prop := r.length = 3 ∧ InR (gi r 0) (-9) 9 ∧ InR (gi r 1) 0 9 ∧ InR (gi r 2) (-9) 9
def twF (a : List (List Int)) : Nat → Int := sf (fun i => g2 a i 1)
structure VTr (a : List (List Int)) : Prop where
  rows : ∀ i, i < a.length → TRr (gr a i)
  n1 : 1 ≤ a.length
  n6 : a.length ≤ 6
  pos : 0 < twF a a.length
theorem VTr_no {a : List (List Int)} {i : Nat} (hi : i < a.length) (h : ¬ TRr (gr a i)) : pb (VTr a) = false := pb_false fun v => h (v.rows i hi)
theorem tw_bd {a : List (List Int)} {k : Nat} (h : ∀ i, i < k → TRr (gr a i)) : 0 ≤ twF a k ∧ twF a k ≤ 9 * (k : Int) := by
  have := sf_bd (g := fun i => g2 a i 1) (lo := 0) (hi := 9) (k := k) (fun j hj => (h j hj).2.2.1)
  unfold twF
  omega
set_option maxRecDepth 100000 in
set_option maxHeartbeats 2000000 in
theorem validTraits_any (A : Option Addr) (n c : Nat) (a : List (List Int)) (w : World) (hx : IntRows w A n c a) :
    Calls Try.prog 53 #[.slice A n c] w fun e w' => e = .returned (.bool (pb (VTr a))) ∧ Quiet w w' := by
  obtain ⟨lx, cx, mx, hx⟩ := hx
  have Lx := Lib.hid lx
  clear lx
  go_enter Try.func53, Try.ntmps53
  go_wp2
  go_loopw [3, 4] (fun s i wr => ∃ k : Nat, k ≤ n ∧ i = .int .i64 k ∧ s = .int .i64 (twF a k) ∧ Hid (∀ i, i < k → TRr (gr a i)) ∧ Quiet w wr) (fun _ i _ => n - (intOf i).toNat)
  case atStart => exact ⟨0, Nat.zero_le _, rfl, rfl, Lib.hid (fun _ h => absurd h (by omega)), Quiet.refl _⟩
  case round =>
    obtain ⟨k, hk, rfl, rfl, HALL, q, rfl⟩ := hrel
    obtain ⟨sb1, sb2⟩ := tw_bd HALL.out
    by_cases hlt : k < n
    · obtain ⟨b, o, rfl, hc⟩ := hx (by omega)
      obtain ⟨R, cc, c1, hR⟩ := hc k hlt
      have hL1 : (gr a k).length ≤ 17592186044416 := hR.max
      have HKA := Lib.hid (show k < a.length by rw [Lx.out]; exact hlt)
      clear hx hc
      by_cases hlen : (gr a k).length = 3
      · rw [hlen] at c1 hL1 hR
        obtain ⟨b2, o2, rfl, hc2⟩ := hR.at_ (by omega)
        have c20 := hc2 0 (by omega)
        have c21 := hc2 1 (by omega)
        have c22 := hc2 2 (by omega)
        simp only [Nat.add_zero] at c20
        have HR : Hid (TRr (gr a k) ↔ (InR (gi (gr a k) 0) (-9) 9 ∧ InR (gi (gr a k) 1) 0 9 ∧ InR (gi (gr a k) 2) (-9) 9)) := Lib.hid ⟨fun h => h.2, fun h => ⟨hlen, h⟩⟩
        have HSX : Hid (twF a (k + 1) = twF a k + gi (gr a k) 1) := Lib.hid rfl
        clear hc2 hR hlen
        generalize gi (gr a k) 0 = x at *
        generalize gi (gr a k) 1 = y at *
        generalize gi (gr a k) 2 = z at *
        generalize twF a k = T at *
        have H1 := Lib.hid (fun (W : World) => inRange_any x (-9) 9 W)
        have H2 := Lib.hid (fun (W : World) => inRange_any y 0 9 W)
        have H3 := Lib.hid (fun (W : World) => inRange_any z (-9) 9 W)
        by_cases h1 : InR x (-9) 9
        · rw [pb_true h1] at H1
          by_cases h2 : InR y 0 9
          · rw [pb_true h2] at H2
            by_cases h3 : InR z (-9) 9
            · rw [pb_true h3] at H3
              have HK := Lib.hid (HR.out.2 ⟨h1, h2, h3⟩)
              obtain ⟨y1, y2⟩ := h2
              clear h1 h3 HR
              go_wp2_with (go_at_call 40; (first | (with_reducible refine (H1.out _).mono ?_) | (with_reducible refine (H2.out _).mono ?_) | (with_reducible refine (H3.out _).mono ?_)); rintro e w' ⟨rfl, rfl⟩)
              go_roundw
              case rel => exact ⟨k + 1, by omega, by go_num, by rw [HSX.out], Lib.hid (fun j hj => by
                by_cases hjk : j < k
                · exact HALL.out j hjk
                · obtain rfl : j = k := by omega
                  exact HK.out), by first | exact ⟨_, rfl⟩ | exact Quiet.two _ _ _⟩
              case measure => simp [intOf]; omega
            · rw [pb_false h3] at H3
              have HV := Lib.hid (VTr_no HKA.out (fun h => h3 (HR.out.1 h).2.2))
              clear h1 h2 h3 HR
              go_wp2_with (go_at_call 40; (first | (with_reducible refine (H1.out _).mono ?_) | (with_reducible refine (H2.out _).mono ?_) | (with_reducible refine (H3.out _).mono ?_)); rintro e w' ⟨rfl, rfl⟩)
              go_ret
              exact ⟨ret_bool HV.out.symm, by first | exact ⟨_, rfl⟩ | exact Quiet.two _ _ _⟩
          · rw [pb_false h2] at H2
            have HV := Lib.hid (VTr_no HKA.out (fun h => h2 (HR.out.1 h).2.1))
            clear h1 h2 HR
            go_wp2_with (go_at_call 40; (first | (with_reducible refine (H1.out _).mono ?_) | (with_reducible refine (H2.out _).mono ?_)); rintro e w' ⟨rfl, rfl⟩)
            go_ret
            exact ⟨ret_bool HV.out.symm, by first | exact ⟨_, rfl⟩ | exact Quiet.two _ _ _⟩
        · rw [pb_false h1] at H1
          have HV := Lib.hid (VTr_no HKA.out (fun h => h1 (HR.out.1 h).1))
          clear h1 HR
          go_wp2_with (go_at_call 40; (with_reducible refine (H1.out _).mono ?_); rintro e w' ⟨rfl, rfl⟩)
          go_ret
          exact ⟨ret_bool HV.out.symm, by first | exact ⟨_, rfl⟩ | exact Quiet.two _ _ _⟩
      · have HV := Lib.hid (VTr_no HKA.out (fun h => hlen h.1))
        have hlen' : (((gr a k).length : Int) != 3) = true := by simp; omega
        clear hlen
        go_wp2
        go_ret
        exact ⟨ret_bool HV.out.symm, by first | exact ⟨_, rfl⟩ | exact Quiet.two _ _ _⟩
    · obtain rfl : k = n := by omega
      have HI := Lib.hid (fun (W : World) => inRange_any k 1 6 W)
      by_cases h1 : InR (k : Int) 1 6
      · rw [pb_true h1] at HI
        have HV : Hid (pb (VTr a) = decide (0 < twF a k)) := Lib.hid (by
          by_cases h : 0 < twF a k
          · rw [decide_eq_true h]
            exact pb_true ⟨fun i hi => HALL.out i (by rw [Lx.out] at hi; exact hi), by have := h1.1; rw [Lx.out]; omega, by have := h1.2; rw [Lx.out]; omega, by rw [Lx.out]; exact h⟩
          · rw [decide_eq_false h]
            exact pb_false (fun v => h (by have := v.pos; rw [Lx.out] at this; exact this)))
        clear h1
        generalize twF a k = T at *
        go_wp2_with (go_at_call 40; (with_reducible refine (HI.out _).mono ?_); rintro e w' ⟨rfl, rfl⟩)
        go_ret
        exact ⟨ret_bool HV.out.symm, by first | exact ⟨_, rfl⟩ | exact Quiet.two _ _ _⟩
      · rw [pb_false h1] at HI
        have HV := Lib.hid (pb_false (p := VTr a) (fun v => h1 ⟨by have := v.n1; rw [Lx.out] at this; omega, by have := v.n6; rw [Lx.out] at this; omega⟩))
        clear h1
        go_wp2_with (go_at_call 40; (with_reducible refine (HI.out _).mono ?_); rintro e w' ⟨rfl, rfl⟩)
        go_ret
        exact ⟨ret_bool HV.out.symm, by first | exact ⟨_, rfl⟩ | exact Quiet.two _ _ _⟩
theorem isPay_any (x : Int) (w : World) : Calls Try.prog 71 #[.int .i64 x] w fun e w' => e = .returned (.bool (pb (InR x (-9) 9))) ∧ w = w' := by
  by_cases h1 : -9 ≤ x
  · by_cases h2 : x ≤ 9
    · have h := Lib.hid (pb_true (p := InR x (-9) 9) ⟨h1, h2⟩)
      go_enter Try.func71, Try.ntmps71
      go_wp2
      go_ret
      exact ⟨ret_bool (by rw [h.out]), rfl⟩
    · have h := Lib.hid (pb_false (p := InR x (-9) 9) (fun h => h2 h.2))
      have h2' : decide (x ≤ 9) = false := by simpa using h2
      go_enter Try.func71, Try.ntmps71
      go_wp2
      go_ret
      exact ⟨ret_bool (by rw [h.out]), rfl⟩
  · have h := Lib.hid (pb_false (p := InR x (-9) 9) (fun h => h1 h.1))
    have h1' : decide (-9 ≤ x) = false := by simpa using h1
    go_enter Try.func71, Try.ntmps71
    go_wp2
    go_ret
    exact ⟨ret_bool (by rw [h.out]), rfl⟩
set_option maxRecDepth 100000 in
set_option maxHeartbeats 2000000 in
theorem areTraits_any (A : Option Addr) (n c : Nat) (a : List (List Int)) (w : World) (hx : IntRows w A n c a) :
    Calls Try.prog 54 #[.slice A n c] w fun e w' => e = .returned (.bool (pb (VTr a))) ∧ Quiet w w' := by
  obtain ⟨lx, cx, mx, hx⟩ := hx
  have Lx := Lib.hid lx
  clear lx
  by_cases hn1 : n < 1
  · have HV := Lib.hid (pb_false (p := VTr a) fun v => by have := v.n1; rw [Lx.out] at this; omega)
    go_enter Try.func54, Try.ntmps54
    go_wp2
    go_ret
    exact ⟨ret_bool HV.out.symm, Quiet.refl _⟩
  by_cases hn6 : 6 < n
  · have HV := Lib.hid (pb_false (p := VTr a) fun v => by have := v.n6; rw [Lx.out] at this; omega)
    go_enter Try.func54, Try.ntmps54
    go_wp2
    go_ret
    exact ⟨ret_bool HV.out.symm, Quiet.refl _⟩
  obtain ⟨b, o, rfl, hc⟩ := hx (by omega)
  go_enter Try.func54, Try.ntmps54
  go_wp2
  go_loopw [3, 16] (fun s i wr => ∃ k : Nat, k ≤ n ∧ i = .int .i64 k ∧ s = .int .i64 (twF a k) ∧ Hid (∀ i, i < k → TRr (gr a i)) ∧ Quiet w wr) (fun _ i _ => n - (intOf i).toNat)
  case atStart => exact ⟨0, Nat.zero_le _, rfl, rfl, Lib.hid (fun _ h => absurd h (by omega)), Quiet.refl _⟩
  case round =>
    obtain ⟨k, hk, rfl, rfl, HALL, q, rfl⟩ := hrel
    obtain ⟨sb1, sb2⟩ := tw_bd HALL.out
    by_cases hlt : k < n
    · obtain ⟨R, cc, c1, hR⟩ := hc k hlt
      have hL1 : (gr a k).length ≤ 17592186044416 := hR.max
      have HKA := Lib.hid (show k < a.length by rw [Lx.out]; exact hlt)
      clear hc
      by_cases hlen : (gr a k).length = 3
      · rw [hlen] at c1 hL1 hR
        obtain ⟨b2, o2, rfl, hc2⟩ := hR.at_ (by omega)
        have c20 := hc2 0 (by omega)
        have c21 := hc2 1 (by omega)
        have c22 := hc2 2 (by omega)
        simp only [Nat.add_zero] at c20
        have HR : Hid (TRr (gr a k) ↔ (InR (gi (gr a k) 0) (-9) 9 ∧ InR (gi (gr a k) 1) 0 9 ∧ InR (gi (gr a k) 2) (-9) 9)) := Lib.hid ⟨fun h => h.2, fun h => ⟨hlen, h⟩⟩
        have HSX : Hid (twF a (k + 1) = twF a k + gi (gr a k) 1) := Lib.hid rfl
        clear hc2 hR hlen
        generalize gi (gr a k) 0 = x at *
        generalize gi (gr a k) 1 = y at *
        generalize gi (gr a k) 2 = z at *
        generalize twF a k = T at *
        have H1 := Lib.hid (fun (W : World) => isPay_any x W)
        have H2 := Lib.hid (fun (W : World) => isBelow_any 10 y W)
        have H3 := Lib.hid (fun (W : World) => isPay_any z W)
        have HB : Hid (Blw 10 y ↔ InR y 0 9) := Lib.hid ⟨fun h => ⟨h.1, by have := h.2; omega⟩, fun h => ⟨h.1, by have := h.2; omega⟩⟩
        by_cases h1 : InR x (-9) 9
        · rw [pb_true h1] at H1
          by_cases h2 : InR y 0 9
          · rw [pb_true (HB.out.2 h2)] at H2
            by_cases h3 : InR z (-9) 9
            · rw [pb_true h3] at H3
              have HK := Lib.hid (HR.out.2 ⟨h1, h2, h3⟩)
              obtain ⟨y1, y2⟩ := h2
              clear h1 h3 HR HB
              go_wp2_with (first | (go_at_call 71; (first | (with_reducible refine (H1.out _).mono ?_) | (with_reducible refine (H3.out _).mono ?_)); rintro e w' ⟨rfl, rfl⟩) | (go_at_call 50; (with_reducible refine (H2.out _).mono ?_); rintro e w' ⟨rfl, rfl⟩))
              go_roundw
              case rel => exact ⟨k + 1, by omega, by go_num, by rw [HSX.out], Lib.hid (fun j hj => by
                by_cases hjk : j < k
                · exact HALL.out j hjk
                · obtain rfl : j = k := by omega
                  exact HK.out), by first | exact ⟨_, rfl⟩ | exact Quiet.two _ _ _⟩
              case measure => simp [intOf]; omega
            · rw [pb_false h3] at H3
              have HV := Lib.hid (VTr_no HKA.out (fun h => h3 (HR.out.1 h).2.2))
              clear h1 h2 h3 HR HB
              go_wp2_with (first | (go_at_call 71; (first | (with_reducible refine (H1.out _).mono ?_) | (with_reducible refine (H3.out _).mono ?_)); rintro e w' ⟨rfl, rfl⟩) | (go_at_call 50; (with_reducible refine (H2.out _).mono ?_); rintro e w' ⟨rfl, rfl⟩))
              go_ret
              exact ⟨ret_bool HV.out.symm, by first | exact ⟨_, rfl⟩ | exact Quiet.two _ _ _⟩
          · rw [pb_false (fun h => h2 (HB.out.1 h))] at H2
            have HV := Lib.hid (VTr_no HKA.out (fun h => h2 (HR.out.1 h).2.1))
            clear h1 h2 HR HB
            go_wp2_with (first | (go_at_call 71; (with_reducible refine (H1.out _).mono ?_); rintro e w' ⟨rfl, rfl⟩) | (go_at_call 50; (with_reducible refine (H2.out _).mono ?_); rintro e w' ⟨rfl, rfl⟩))
            go_ret
            exact ⟨ret_bool HV.out.symm, by first | exact ⟨_, rfl⟩ | exact Quiet.two _ _ _⟩
        · rw [pb_false h1] at H1
          have HV := Lib.hid (VTr_no HKA.out (fun h => h1 (HR.out.1 h).1))
          clear h1 HR HB
          go_wp2_with (go_at_call 71; (with_reducible refine (H1.out _).mono ?_); rintro e w' ⟨rfl, rfl⟩)
          go_ret
          exact ⟨ret_bool HV.out.symm, by first | exact ⟨_, rfl⟩ | exact Quiet.two _ _ _⟩
      · have HV := Lib.hid (VTr_no HKA.out (fun h => hlen h.1))
        have hlen' : (((gr a k).length : Int) != 3) = true := by simp; omega
        clear hlen
        go_wp2
        go_ret
        exact ⟨ret_bool HV.out.symm, by first | exact ⟨_, rfl⟩ | exact Quiet.two _ _ _⟩
    · obtain rfl : k = n := by omega
      have HV : Hid (pb (VTr a) = decide (0 < twF a k)) := Lib.hid (by
        by_cases h : 0 < twF a k
        · rw [decide_eq_true h]
          exact pb_true ⟨fun i hi => HALL.out i (by rw [Lx.out] at hi; exact hi), by rw [Lx.out]; omega, by rw [Lx.out]; omega, by rw [Lx.out]; exact h⟩
        · rw [decide_eq_false h]
          exact pb_false (fun v => h (by have := v.pos; rw [Lx.out] at this; exact this)))
      generalize twF a k = T at *
      go_wp2
      go_ret
      exact ⟨ret_bool HV.out.symm, by first | exact ⟨_, rfl⟩ | exact Quiet.two _ _ _⟩
/-- A table of up to six rows. -/
structure Tab6 (w : World) (b o : Nat) (rb ro cc : Nat → Nat) (n m : Nat) (xs : List (List Int)) : Prop where
  row : ∀ i, i < n → w.cell? ⟨b, o + i, none⟩ = some (.slice (some ⟨rb i, ro i, none⟩) m (cc i))
  cell : ∀ i j, i < n → j < m → w.cell? ⟨rb i, ro i + j, none⟩ = some (.int .i64 (g2 xs i j))
  bd : ∀ i j, i < n → j < m → -9 ≤ g2 xs i j ∧ g2 xs i j ≤ 9
  n1 : 1 ≤ n
  n6 : n ≤ 6
  m1 : 1 ≤ m
  m3 : m ≤ 3
theorem Tab6.keep {w w' : World} {b o rb ro cc n m xs} (h : Tab6 w b o rb ro cc n m xs) (k : Keep w w') : Tab6 w' b o rb ro cc n m xs :=
  ⟨fun i hi => k _ _ (h.row i hi), fun i j hi hj => k _ _ (h.cell i j hi hj), h.bd, h.n1, h.n6, h.m1, h.m3⟩
theorem IntRows.tab6 {w A n c xs} (h : IntRows w A n c xs) (v : VTr xs) : ∃ b o rb ro cc, A = some ⟨b, o, none⟩ ∧ Tab6 w b o rb ro cc n 3 xs := by
  have hl := h.len
  have n1 := v.n1
  have n6 := v.n6
  obtain ⟨b, o, rfl, hr⟩ := h.at_ (by omega)
  have each : ∀ i, i < n → ∃ y : Nat × Nat × Nat, w.cell? ⟨b, o + i, none⟩ = some (.slice (some ⟨y.1, y.2.1, none⟩) 3 y.2.2) ∧
      (∀ j, j < 3 → w.cell? ⟨y.1, y.2.1 + j, none⟩ = some (.int .i64 (g2 xs i j))) := by
    intro i hi
    obtain ⟨R, c', h1, h2⟩ := hr i hi
    have hrow := (v.rows i (by omega)).1
    obtain ⟨b2, o2, rfl, hc⟩ := h2.at_ (by omega)
    exact ⟨(b2, o2, c'), by rw [hrow] at h1; exact h1, fun j hj => hc j (by omega)⟩
  obtain ⟨y, hy⟩ := Go.Deep.choose_lt each
  refine ⟨b, o, fun i => (y i).1, fun i => (y i).2.1, fun i => (y i).2.2, rfl, ⟨fun i hi => (hy i hi).1, fun i j hi hj => (hy i hi).2 j hj, fun i j hi hj => ?_, by omega, by omega, by omega, by omega⟩⟩
  obtain ⟨_, r0, r1, r2⟩ := v.rows i (by omega)
  have : j = 0 ∨ j = 1 ∨ j = 2 := by omega
  rcases this with rfl | rfl | rfl
  · exact r0
  · exact ⟨by have := r1.1; show -9 ≤ gi (gr xs i) 1; omega, r1.2⟩
  · exact r2
theorem turnO_own6 {w wr : World} {n m : Nat} {xs : List (List Int)} (h : TurnO w wr n m m xs) (hn : n ≤ 6) (hm : m ≤ 3) (hbd : ∀ i j, i < n → j < m → -9 ≤ g2 xs i j ∧ g2 xs i j ≤ 9) :
    OwnR w.heap.size wr.heap.size wr w.heap.size (some ⟨w.heap.size, 0, none⟩) m m (flip xs n m) := by
  have hs := h.size
  refine ⟨by simp [flip], Nat.le_refl _, by omega, fun _ => ⟨0, fun k => w.heap.size + 1 + k, fun k => some ⟨w.heap.size + 1 + k, 0, none⟩, fun _ => n, rfl, Nat.le_refl _, h.top.lt, fun k hk => ?_, fun j k hj _ _ _ => by show w.heap.size + 1 + j ≠ w.heap.size + 1 + k; omega⟩⟩
  have hl : ((List.range n).map fun i => g2 xs i k).length = n := by simp
  rw [gr_flip hk, hl]
  refine ⟨by rw [Nat.zero_add]; exact h.top.frozen k, by rw [Nat.zero_add, h.top.cell hk, ttop, if_pos hk], OwnI.of_rowIs hl (by omega) ?_ (by show w.heap.size ≤ w.heap.size + 1 + k; omega) (by show w.heap.size + 1 + k < _; omega) (h.done k hk) (fun i hi => by rw [gi_col hi]), fun _ => by show w.heap.size + 1 + k ≠ w.heap.size; omega⟩
  intro x hx
  obtain ⟨i, hi, rfl⟩ := List.mem_map.1 hx
  have := hbd i k (List.mem_range.1 hi) hk
  omega

set_option maxHeartbeats 1000000 in
theorem turned6_any (b o : Nat) (rb ro cc : Nat → Nat) (n m c : Nat) (xs : List (List Int)) (w : World) (h : Tab6 w b o rb ro cc n m xs) :
    Calls Try.prog 55 #[.slice (some ⟨b, o, none⟩) n c] w (MadeT w n m xs) := by
  have HT := Lib.hid h
  have hn3 := h.n6
  have hn1 := h.n1
  have hm3 := h.m3
  have r0 := h.row 0 (by omega)
  simp only [Nat.add_zero] at r0
  clear h
  have hmk := run_make_row' (P := Try.prog) 22 43 (.slice none 0 0) 24 Try.underlying22 Try.info43 rfl .i64 .i64 m (by omega) (by omega)
  go_enter Try.func55, Try.ntmps55
  go_wp2
  clear hmk
  go_loopw [13] (fun s wr => ∃ k : Nat, k ≤ m ∧ s = .int .i64 k ∧ Hid (TurnO w wr n m k xs)) (fun s _ => m - (intOf s).toNat)
  case atStart => exact ⟨0, Nat.zero_le _, rfl, Lib.hid (turnO_start w n m xs)⟩
  case round =>
    obtain ⟨k, hk, rfl, HO⟩ := hrel
    by_cases hlt : k < m
    · have hmk2 := run_make_row' (P := Try.prog) 43 3 (.int .i64 0) 8 Try.underlying43 Try.info3 rfl .i64 .i64 n (by omega) (by omega)
      have c1 := (HO.out.top.alloc (.cells (madeCells #[.int .i64 0] n) 3)).cell hlt
      simp only [ttop, if_neg (Nat.lt_irrefl k)] at c1
      have c2 := (HO.out.top.alloc (.cells (madeCells #[.int .i64 0] n) 3)).frozen k
      have HI := Lib.hid (turnI_start HO.out)
      clear HO
      go_wp2
      clear hmk2 c1 c2
      go_loopw [24] (fun s wi => ∃ r : Nat, r ≤ n ∧ s = .int .i64 r ∧ Hid (TurnI w wi n m k r xs)) (fun s _ => n - (intOf s).toNat)
      case atStart => exact ⟨0, Nat.zero_le _, rfl, HI⟩
      case round =>
        clear HI
        obtain ⟨r, hr, rfl, HI⟩ := hrel
        by_cases hrn : r < n
        · have c1 := HI.out.top.cell hlt
          simp only [ttop, if_pos (Nat.lt_succ_self k)] at c1
          have hsrc := (HT.out.keep (Keep.below HI.out.below)).row r hrn
          have hel := (HT.out.keep (Keep.below HI.out.below)).cell r k hrn hlt
          have c3 := HI.out.cur.cell hrn
          simp only [if_neg (Nat.lt_irrefl r)] at c3
          have c4 := HI.out.cur.frozen r
          have HN := Lib.hid ((turnI_step HI.out (Quiet.refl _)).drew)
          go_wp2
          go_region
          all_goals
            clear c1 hsrc hel c3 c4 HI
            go_wp2
            go_roundw
            case rel => exact ⟨r + 1, by omega, by go_num, HN⟩
            case measure => simp [intOf]; omega
        · go_wp2
          go_roundw
          case rel => exact ⟨k + 1, by omega, by go_num, Lib.hid (turnI_done (by have h := HI.out; rw [show r = n by omega] at h; exact h))⟩
          case measure => simp [intOf]; omega
    · go_wp2
      go_ret
      obtain rfl : k = m := by omega
      exact ⟨rfl, turnO_own6 HO.out hn3 hm3 HT.out.bd, HO.out.below, HO.out.top.lt⟩

end Go.Proofs.Ytlfljcemcaphcaa

/- The reader behind its bytes. -/
namespace Go.Proofs.Ytlfljcemcaphcaa
open Go.RowKit

theorem xor_pos {a b : Int} (ha : 0 ≤ a) (hb : 0 ≤ b) (ha1 : a ≤ 1000000000000) (hb1 : b ≤ 1000000000000) : ∃ x : Int, 0 ≤ x ∧ x ≤ 2305843009213693952 ∧ bits .xor .i64 a b = x := by
  obtain ⟨m, rfl⟩ := Int.eq_ofNat_of_zero_le ha
  obtain ⟨k, rfl⟩ := Int.eq_ofNat_of_zero_le hb
  have e : ∀ q : Nat, q ≤ 1000000000000 → (BitVec.ofInt 64 (q : Int)).toNat = q := fun q hq => by
    rw [BitVec.ofInt_natCast, BitVec.toNat_ofNat]
    exact Nat.mod_eq_of_lt (by omega)
  have hx : m ^^^ k < 2 ^ 60 := Nat.xor_lt_two_pow (by omega) (by omega)
  refine ⟨((m ^^^ k : Nat) : Int), by omega, by omega, ?_⟩
  show IntKind.i64.wrap ((BitVec.ofInt 64 (m : Int) ^^^ BitVec.ofInt 64 (k : Int)).toNat : Int) = _
  rw [BitVec.toNat_xor, e m (by omega), e k (by omega), IntKind.wrap_i64]
  omega

set_option maxRecDepth 100000 in
set_option maxHeartbeats 2000000 in
theorem pick_out (w0 w : World) (g : Nat) (A : Option Addr) (l c p : Nat) (n : Int) (h : Rdr w0 w g A l c p) (hp : p < 1000000000) (hl : 0 < l) (hpl : l ≤ p) (hz : 1 ≤ n) :
    Calls Try.prog 60 #[.pointer (some ⟨g, 0, none⟩), .int .i64 n] w (Picked w0 g A l c p n w) := by
  have k0 := blk_cell h.box (i := 0) (v := .slice A l c) rfl
  have k1 := blk_cell h.box (i := 1) (v := .int .i64 p) rfl
  have f1 := blk_frozen h.box 1
  have HS := Lib.hid h.step
  have j0 := blk_cell h.step.box (i := 0) (v := .slice A l c) rfl
  have j1 := blk_cell h.step.box (i := 1) (v := .int .i64 (p + 1 : Nat)) rfl
  have hs := h.small
  obtain ⟨b, o, rfl, hc⟩ := h.step.at_.at_ (by omega)
  obtain ⟨v, v0, v1, cb⟩ := hc (p % l) (Nat.mod_lt _ hl)
  obtain ⟨u, u0, u1, cu⟩ := hc ((p * 7 + 3) % l) (Nat.mod_lt _ hl)
  rw [cast_succ] at j0 j1 cb cu
  have hl0 : ((l : Int) == 0) = false := by simp; omega
  have m1 : (p : Int) % l < l := Int.emod_lt_of_pos _ (by omega)
  have m2 : 0 ≤ (p : Int) % l := Int.emod_nonneg _ (by omega)
  have m3 : ((p : Int) * 7 + 3) % l < l := Int.emod_lt_of_pos _ (by omega)
  have m4 : 0 ≤ ((p : Int) * 7 + 3) % l := Int.emod_nonneg _ (by omega)
  have m5 : 0 ≤ (p : Int) / l := Int.ediv_nonneg (by omega) (by omega)
  have m6 : (p : Int) / l ≤ p := Int.ediv_le_self _ (by omega)
  clear hc
  go_enter Try.func60, Try.ntmps60
  go_wp2
  generalize hW : (w.setCell ⟨g, 1, none⟩ (.int .i64 ((p : Int) + 1))) = W1 at *
  have HW := Lib.hid hW
  clear hW
  have hn1 : decide (n < 1) = false := by simp; omega
  go_quiet (fail)
  generalize hX : v * 131 + u * 1117 + (p : Int) * 29 + (p : Int) / l * 53 = X
  have X0 : 0 ≤ X := by omega
  have X1 : X ≤ 1000000000000 := by omega
  clear hX m1 m2 m3 m4 m5 m6 cb cu v0 v1 u0 u1
  obtain ⟨x, x0, x1, xe⟩ := xor_pos X0 (show 0 ≤ X / 64 by omega) X1 (show X / 64 ≤ 1000000000000 by omega)
  have y0 : 0 ≤ x % n := Int.emod_nonneg _ (by omega)
  have y1 : x % n < n := Int.emod_lt_of_pos _ (by omega)
  go_wp2
  go_ret
  exact ⟨x % n, rfl, fun _ => ⟨y0, y1⟩, fun h => absurd h (by omega), HS.out.quiet ⟨nq, by rw [cast_succ, HW.out]⟩, nq, by rw [cast_succ, HW.out]⟩

/-- Whatever the bytes and the number. -/
theorem pick_any (w0 w : World) (g : Nat) (A : Option Addr) (l c p : Nat) (n : Int) (h : Rdr w0 w g A l c p) (hp : p < 1000000000) :
    Calls Try.prog 60 #[.pointer (some ⟨g, 0, none⟩), .int .i64 n] w (Picked w0 g A l c p n w) := by
  by_cases hz : n < 1
  · exact pick_zero w0 w g A l c p n h hp hz
  · rcases Nat.eq_zero_or_pos l with rfl | hl
    · exact pick_none w0 w g A c p n h hp (by omega)
    · by_cases hpl : p < l
      · exact pick_in w0 w g A l c p n h hpl (by omega)
      · exact pick_out w0 w g A l c p n h hp hl (by omega) (by omega)

end Go.Proofs.Ytlfljcemcaphcaa

/- The reader made; one of some numbers. -/
namespace Go.Proofs.Ytlfljcemcaphcaa
open Go.RowKit

def MadeRdr (w : World) (l : Nat) (e : Ending) (w' : World) : Prop :=
  ∃ A n c, e = .returned (.pointer (some ⟨w.heap.size, 0, none⟩)) ∧ n = min l 2000 ∧ Rdr w w' w.heap.size A n c 0 ∧ w'.heap.size = w.heap.size + 1

theorem Bytes.cut {w A n c} (h : Bytes w A n c) (hn : 2000 < n) : Bytes w A 2000 c :=
  ⟨by have := h.cap; omega, by omega, fun _ => let ⟨b, o, e, hc⟩ := h.at_ (by omega); ⟨b, o, e, fun k hk => hc k (by omega)⟩⟩

set_option maxHeartbeats 400000 in
theorem newReader_any (A : Option Addr) (n c : Nat) (w : World) (h : Bytes w A n c) :
    Calls Try.prog 58 #[.slice A n c] w (MadeRdr w n) := by
  have hm := h.max
  have hcap := h.cap
  by_cases hn : 2000 < n
  · obtain ⟨b, o, rfl, _⟩ := h.at_ (by omega)
    have HR := Lib.hid (show Rdr w (w.alloc (.cells #[.slice (some ⟨b, o, none⟩) 2000 c, .int .i64 0] 79)) w.heap.size (some ⟨b, o, none⟩) 2000 c 0 from
      ⟨blk_new _ _ _, h.cut hn, below_alloc _ _, Nat.le_refl _, Nat.le_refl _⟩)
    have HM := Lib.hid (show 2000 = min n 2000 by omega)
    have hc2 : 2000 ≤ c := by omega
    clear h
    go_enter Try.func58, Try.ntmps58
    go_wp2
    go_ret
    exact ⟨_, _, _, rfl, HM.out, HR.out, by simp⟩
  · have HR := Lib.hid (show Rdr w (w.alloc (.cells #[.slice A n c, .int .i64 0] 79)) w.heap.size A n c 0 from
      ⟨blk_new _ _ _, h, below_alloc _ _, Nat.le_refl _, by omega⟩)
    have HM := Lib.hid (show n = min n 2000 by omega)
    clear h
    go_enter Try.func58, Try.ntmps58
    go_wp2
    go_ret
    exact ⟨_, _, _, rfl, HM.out, HR.out, by simp⟩

/-- Some draws by the reader in block g: it alone has turned, p has grown by some; new blocks may be there. -/
structure Drawn (w0 : World) (g : Nat) (A : Option Addr) (l c p p' : Nat) (w w' : World) : Prop where
  rd : Rdr w0 w' g A l c p'
  grown : w.grownBy w' (some g)

theorem One.grown {g : Nat} {w w' : World} (h : One g w w') : w.grownBy w' (some g) := ⟨h.os, h.tape, h.output, by rw [h.size]; exact Nat.le_refl _, fun k _ hne => h.block k (fun e => hne (by rw [e]))⟩
theorem Rdr.one {g : Nat} (w : World) (v : Value) (q : Nat) : One g w ((w.setCell ⟨g, 1, none⟩ v).drewN q) :=
  let h := (One.refl g w).set 1 v
  ⟨h.os, h.tape, h.output, h.size, h.block⟩
theorem Rdr.below_ {w0 w w' g A n c p} (h : Rdr w0 w g A n c p) (k : Below w.heap.size w w') : Rdr w0 w' g A n c p :=
  ⟨blk_below h.box k, h.bytes, below_up h.below k, h.lt, h.small⟩

def OneOf (w0 : World) (g : Nat) (A : Option Addr) (l c p : Nat) (xs : List Int) (w : World) (e : Ending) (w' : World) : Prop :=
  ∃ x, e = .returned (.int .i64 x) ∧ x ∈ xs ∧ Rdr w0 w' g A l c (p + 1) ∧ One g w w'

set_option maxHeartbeats 400000 in
theorem one_any (w0 w : World) (g : Nat) (A : Option Addr) (l c p : Nat) (B : Option Addr) (n d : Nat) (xs : List Int) (h : Rdr w0 w g A l c p) (hp : p < 1000000000)
    (hx : Ints w B n d xs) (h0 : 0 < n) (hne : ∀ b o, B = some ⟨b, o, none⟩ → b ≠ g) :
    Calls Try.prog 59 #[.pointer (some ⟨g, 0, none⟩), .slice B n d] w (OneOf w0 g A l c p xs w) := by
  have hm := hx.max
  have HX := Lib.hid hx
  have HC := Lib.hid (pick_any w0 w g A l c p n h hp)
  have HNE := Lib.hid hne
  obtain ⟨b, o, rfl, _⟩ := hx.at_ h0
  clear h hx hne
  go_enter Try.func59, Try.ntmps59
  go_wp2_with fail
  refine HC.out.mono ?_
  rintro e w1 ⟨m, rfl, hm1, _, hr, q, hw⟩
  have H1 := Lib.hid hr
  have hone := Rdr.one (g := g) w (.int .i64 (p + 1 : Nat)) q
  rw [← hw] at hone
  have HO := Lib.hid hone
  obtain ⟨m0, m1⟩ := hm1 (by omega)
  obtain ⟨k, rfl⟩ := Int.eq_ofNat_of_zero_le m0
  have hk : k < n := by omega
  obtain ⟨b', o', e', hc⟩ := HX.out.at_ h0
  injection e' with e'
  injection e' with e1 e2 _
  subst e1
  subst e2
  have ck := hc k hk
  rw [← World.cell?_of_block (w := w) (w' := w1) (hone.block b (HNE.out b o rfl))] at ck
  have HM := Lib.hid (gi_mem (xs := xs) (k := k) (by rw [HX.out.len]; exact hk))
  clear hr hone hc hm1 hw HC HX
  go_wp2
  go_ret
  exact ⟨_, rfl, HM.out, H1.out, HO.out⟩
end Go.Proofs.Ytlfljcemcaphcaa

/- A table drawn. -/
namespace Go.Proofs.Ytlfljcemcaphcaa
open Go.RowKit

theorem grown_below {g : Nat} {a b w : World} (h : a.grownBy b (some g)) (k : Below b.heap.size b w) : a.grownBy w (some g) :=
  ⟨k.os.trans h.os, k.tape.trans h.tape, k.output.trans h.output, Nat.le_trans h.size k.size, fun i hi hne => (k.block i (Nat.lt_of_lt_of_le hi h.size)).trans (h.block i hi hne)⟩
/-- An append onto a row from lo on. -/
theorem grown_app {g : Nat} {a b w : World} {row : Option Nat} (h : a.grownBy b (some g)) (k : b.grownBy w row) (hr : ∀ x, row = some x → a.heap.size ≤ x) : a.grownBy w (some g) :=
  ⟨k.os.trans h.os, k.tape.trans h.tape, k.output.trans h.output, Nat.le_trans h.size k.size, fun i hi hne => (k.block i (Nat.lt_of_lt_of_le hi h.size) (fun e => by have := hr i e.symm; omega)).trans (h.block i hi hne)⟩

/-- A table under way: the reader, the rows that are there. -/
structure TO (w0 wb : World) (g : Nat) (A : Option Addr) (l c p : Nat) (v : Value) (vs : List Value) (xss : List (List Int)) (w : World) : Prop where
  rd : Rdr w0 w g A l c p
  bo : Bld wb.heap.size w.heap.size w v vs xss
  gl : g < wb.heap.size
  up : wb.grownBy w (some g)
/-- .. and the row that is begun. -/
structure TI (w0 wb : World) (g : Nat) (A : Option Addr) (l c p H : Nat) (v : Value) (vs : List Value) (xss : List (List Int)) (u : Value) (ys : List Int) (w : World) : Prop where
  rd : Rdr w0 w g A l c p
  bo : Bld wb.heap.size H w v vs xss
  bi : BldI H w.heap.size w u ys
  gl : g < wb.heap.size
  lh : wb.heap.size ≤ H
  hs : H ≤ w.heap.size
  up : wb.grownBy w (some g)
theorem TO.start {w0 wb g A l c p} (h : Rdr w0 wb g A l c p) :
    TO w0 wb g A l c p (.slice (some ⟨wb.heap.size, 0, none⟩) 0 0) [] [] (wb.alloc (.cells #[] 43)) :=
  ⟨h.below_ (below_alloc _ _), by rw [World.size_alloc]; exact Bld.make (Nat.le_refl _), blk_lt h.box, World.grownBy_alloc _ _ _⟩
theorem TO.row {w0 wb g A l c p v vs xss w} (h : TO w0 wb g A l c p v vs xss w) :
    TI w0 wb g A l c p w.heap.size v vs xss (.slice (some ⟨w.heap.size, 0, none⟩) 0 0) [] (w.alloc (.cells #[] 3)) :=
  ⟨h.rd.below_ (below_alloc _ _), h.bo.below (below_alloc _ _), by rw [World.size_alloc]; exact BldI.make (Nat.le_refl _), h.gl, h.up.size, by simp, grown_below h.up (below_alloc _ _)⟩
theorem TI.one {w0 wb g A l c p p' H v vs xss u ys w w'} (h : TI w0 wb g A l c p H v vs xss u ys w) (hr : Rdr w0 w' g A l c p') (ho : One g w w') :
    TI w0 wb g A l c p' H v vs xss u ys w' := by
  have hgl := h.gl
  have hlh := h.lh
  refine ⟨hr, h.bo.of_blocks fun k h1 _ _ => ho.block k (by omega), ?_, h.gl, h.lh, by rw [ho.size]; exact h.hs, ?_⟩
  · rw [ho.size]; exact h.bi.of_blocks fun k h1 _ _ => ho.block k (by omega)
  · exact ⟨ho.os.trans h.up.os, ho.tape.trans h.up.tape, ho.output.trans h.up.output, by rw [ho.size]; exact h.up.size, fun k hk hne => (ho.block k (fun e => hne (by rw [e]))).trans (h.up.block k hk hne)⟩
theorem TI.push {w0 wb g A l c p H v vs xss u u' ys w w' x} (h : TI w0 wb g A l c p H v vs xss u ys w)
    (hown : w'.ownsRow H 3 1 u' (ys.length + 1) (ys.map iv ++ [iv x])) (hgrow : (w.alloc (.cells #[iv x] 3)).grownBy w' u.ownBlock)
    (hat : u'.ownBlock = u.ownBlock ∨ u'.ownBlock = some (w.heap.size + 1)) : TI w0 wb g A l c p H v vs xss u' (ys ++ [x]) w' := by
  have hgl := h.gl
  have hlh := h.lh
  have hhs := h.hs
  have hsz := hgrow.size
  simp only [World.size_alloc] at hsz
  have hu : ∀ k, u.ownBlock = some k → H ≤ k := fun k hk => (h.bi.own.lt k hk).1
  have hbelow : ∀ k, k < H → w'.heap[k]? = w.heap[k]? := fun k hk =>
    (hgrow.block k (by simp; omega) (fun e => by have := hu k e.symm; omega)).trans (Below.heap_alloc _ _ _ (by omega))
  refine ⟨⟨(hbelow g (by omega)).trans h.rd.box, h.rd.bytes, ?_, h.rd.lt, h.rd.small⟩, h.bo.of_blocks fun k _ hk _ => hbelow k hk, ⟨by rw [List.length_append, List.length_singleton, List.map_append]; exact hown, fun k hk => ?_⟩, h.gl, h.lh, by omega, ?_⟩
  · exact ⟨hgrow.os.trans h.rd.below.os, hgrow.tape.trans h.rd.below.tape, hgrow.output.trans h.rd.below.output, by have := h.rd.below.size; omega, fun k hk => (hbelow k (by have := h.rd.lt; omega)).trans (h.rd.below.block k hk)⟩
  · rcases hat with hat | hat
    · have := h.bi.hi_ k (by rw [← hat]; exact hk); omega
    · have := (hown.lt k hk).2; omega
  · exact grown_app (grown_below h.up (below_alloc _ _)) hgrow fun k hk => by have := hu k hk; omega
theorem TI.done {w0 wb g A l c p H v v' vs xss ys w w' Ar cr gr_} (h : TI w0 wb g A l c p H v vs xss (.slice Ar ys.length cr) ys w) (ho : OwnI H w.heap.size w gr_ Ar ys.length cr ys)
    (hown : w'.ownsRow wb.heap.size 43 1 v' (xss.length + 1) (vs ++ [.slice Ar ys.length cr])) (hgrow : (w.alloc (.cells #[.slice Ar ys.length cr] 43)).grownBy w' v.ownBlock)
    (hat : v'.ownBlock = v.ownBlock ∨ v'.ownBlock = some (w.heap.size + 1)) : TO w0 wb g A l c p v' (vs ++ [.slice Ar ys.length cr]) (xss ++ [ys]) w' := by
  have hgl := h.gl
  have hlh := h.lh
  have hhs := h.hs
  have hsz := hgrow.size
  simp only [World.size_alloc] at hsz
  have hv : ∀ k, v.ownBlock = some k → wb.heap.size ≤ k := fun k hk => (h.bo.own.lt k hk).1
  have hbelow : ∀ k, k < wb.heap.size → w'.heap[k]? = w.heap[k]? := fun k hk =>
    (hgrow.block k (by simp; omega) (fun e => by have := hv k e.symm; omega)).trans (Below.heap_alloc _ _ _ (by omega))
  have hb := below_alloc w (.cells #[.slice Ar ys.length cr] 43)
  refine ⟨⟨(hbelow g hgl).trans h.rd.box, h.rd.bytes, ?_, h.rd.lt, h.rd.small⟩, ?_, h.gl, ?_⟩
  · exact ⟨hgrow.os.trans h.rd.below.os, hgrow.tape.trans h.rd.below.tape, hgrow.output.trans h.rd.below.output, by have := h.rd.below.size; omega, fun k hk => (hbelow k (by have := h.rd.lt; omega)).trans (h.rd.below.block k hk)⟩
  · have hbo : Bld wb.heap.size H w v vs xss := h.bo
    exact Bld.push (hi := H) (w := w) hbo hb ((ho.below hb).mono (Nat.le_refl _) (by simp)) hown hgrow (by simpa using hat) hlh hhs
  · exact grown_app (grown_below h.up hb) hgrow fun k hk => hv k hk
end Go.Proofs.Ytlfljcemcaphcaa

/- A table drawn: the walk. -/
namespace Go.Proofs.Ytlfljcemcaphcaa
open Go.RowKit
theorem Try.info_row : (Try.prog.info? 43).map (fun i => (i.zero, i.size, i.bytes)) = some (some (.slice none 0 0), 1, 24) := by kernel_rfl
theorem Try.info_int : (Try.prog.info? 3).map (fun i => (i.zero, i.size, i.bytes)) = some (some (.int .i64 0), 1, 8) := by kernel_rfl

def RowIn (m : Nat) (lo hi : Int) (r : List Int) : Prop := r.length = m ∧ ∀ x ∈ r, lo ≤ x ∧ x ≤ hi
def TableOut (w0 : World) (g : Nat) (A : Option Addr) (l c p n m : Nat) (lo hi : Int) (w : World) (e : Ending) (w' : World) : Prop :=
  ∃ Av cv vs xss p', e = .returned (.slice Av n cv) ∧ xss.length = n ∧ (∀ r ∈ xss, RowIn m lo hi r) ∧ TO w0 w g A l c p' (.slice Av n cv) vs xss w' ∧ p' ≤ p + 16

end Go.Proofs.Ytlfljcemcaphcaa

/- A table spoiled now and then: what becomes of its memory. -/
namespace Go.Proofs.Ytlfljcemcaphcaa
open Go.RowKit

theorem Bld.head {lo hi w v vs xss} (h : Bld lo hi w v vs xss) (h0 : 0 < xss.length) : ∃ b c R cc, v = .slice (some ⟨b, 0, none⟩) xss.length c ∧ lo ≤ b ∧ vs[0]? = some (.slice R (gr xss 0).length cc) ∧ w.cell? ⟨b, 0, none⟩ = some (.slice R (gr xss 0).length cc) := by
  obtain ⟨h1, h4, G, R, C, h2, h3⟩ := h
  have hv := (h2 0 h0).1
  rcases h1.2 with ⟨_, h5⟩ | ⟨g, cap, cur, rfl, hb, _⟩
  · omega
  · have hc := h1.cells (g := g) rfl 0 _ hv
    exact ⟨g, cap, R 0, C 0, rfl, hb, hv, by simpa [Addr.add] using hc⟩

theorem Bld.set0 {lo hi w v vs xss} (h : Bld lo hi w v vs xss) (h0 : 0 < xss.length) (h1 : 0 < (gr xss 0).length) {x : Int} (hx : -9223372036854775808 ≤ x ∧ x ≤ 9223372036854775807) :
    ∃ b o cc, vs[0]? = some (.slice (some ⟨b, o, none⟩) (gr xss 0).length cc) ∧ lo ≤ b ∧ (∃ y, w.cell? ⟨b, o, none⟩ = some (.int .i64 y)) ∧ w.frozen? ⟨b, o, none⟩ = false ∧
      Bld lo hi (w.setCell ⟨b, o, none⟩ (.int .i64 x)) v vs (xss.set 0 ((gr xss 0).set 0 x)) := by
  obtain ⟨ho, h4, G, R, C, h2, h3⟩ := h
  obtain ⟨q0, q1, q2⟩ := h2 0 h0
  obtain ⟨o, e, l1, l2, hf⟩ := q1.own h1
  have q1' := q1
  rw [e] at q1' q0
  have hset := q1'.set h1 hx
  rw [Nat.add_zero] at hset
  obtain ⟨b', o', e', hc⟩ := q1.ints.at_ h1
  rw [e] at e'
  injection e' with e'
  injection e' with e1 e2 _
  have hc0 := hc 0 h1
  rw [Nat.add_zero, ← e1, ← e2] at hc0
  have hf0 := hf 0 h1
  rw [Nat.add_zero] at hf0
  have hlen : ∀ k, (gr (xss.set 0 ((gr xss 0).set 0 x)) k).length = (gr xss k).length := fun k => by
    by_cases e : k = 0
    · subst e; rw [gr_set_eq h0, List.length_set]
    · rw [gr_set_ne e]
  refine ⟨G 0, o, C 0, q0, l1, ⟨_, hc0⟩, hf0, ⟨?_, h4, G, R, C, fun k hk => ?_, fun j k hjk hk hj0 hk0 => ?_⟩⟩
  · rw [List.length_set]
    exact blk_kept ho fun g hg => Below.heap_setCell _ _ _ _ (fun e => q2 h1 (by rw [hg, e]))
  · rw [List.length_set] at hk
    rw [hlen]
    obtain ⟨a, b, c⟩ := h2 k hk
    refine ⟨a, ?_, c⟩
    by_cases ek : k = 0
    · subst ek
      rw [gr_set_eq h0, e]
      exact hset
    · rw [gr_set_ne ek]
      exact b.of_block fun hp => Below.heap_setCell _ _ _ _ (Ne.symm (h3 0 k (by omega) hk h1 hp))
  · rw [List.length_set] at hk
    rw [hlen] at hj0 hk0
    exact h3 j k hjk hk hj0 hk0

/-- The rows' lengths and numbers are small. -/
structure Small (xss : List (List Int)) : Prop where
  n : xss.length ≤ 8
  rows : ∀ r ∈ xss, r.length ≤ 8 ∧ ∀ x ∈ r, -1000 ≤ x ∧ x ≤ 1000
theorem Small.set0 {xss : List (List Int)} (h : Small xss) (h0 : 0 < xss.length) {x : Int} (hx : -1000 ≤ x ∧ x ≤ 1000) : Small (xss.set 0 ((gr xss 0).set 0 x)) := by
  have hm := h.rows _ (gr_mem h0)
  refine ⟨by rw [List.length_set]; exact h.n, fun r hr => ?_⟩
  rcases List.mem_or_eq_of_mem_set hr with hr | rfl
  · exact h.rows r hr
  · refine ⟨by rw [List.length_set]; exact hm.1, fun y hy => ?_⟩
    rcases List.mem_or_eq_of_mem_set hy with hy | rfl
    · exact hm.2 y hy
    · exact hx
theorem Small.snoc {xss : List (List Int)} (h : Small xss) (hn : xss.length ≤ 7) {x : Int} (hx : -1000 ≤ x ∧ x ≤ 1000) : Small (xss ++ [[x]]) :=
  ⟨by simp; omega, fun r hr => by
    rcases List.mem_append.1 hr with hr | hr
    · exact h.rows r hr
    · simp at hr; subst hr; exact ⟨by simp, fun y hy => by simp at hy; subst hy; exact hx⟩⟩
theorem Small.nil : Small [] := ⟨by simp, fun r hr => by simp at hr⟩

theorem TO.below {w0 wb g A l c p v vs xss w w'} (h : TO w0 wb g A l c p v vs xss w) (k : Below w.heap.size w w') : TO w0 wb g A l c p v vs xss w' :=
  ⟨h.rd.below_ k, (h.bo.below k).mono k.size, h.gl, grown_below h.up k⟩
theorem TO.one {w0 wb g A l c p p' v vs xss w w'} (h : TO w0 wb g A l c p v vs xss w) (hr : Rdr w0 w' g A l c p') (ho : One g w w') : TO w0 wb g A l c p' v vs xss w' := by
  have hgl := h.gl
  refine ⟨hr, ?_, h.gl, ?_⟩
  · rw [ho.size]; exact h.bo.of_blocks fun k h1 _ _ => ho.block k (by omega)
  · exact ⟨ho.os.trans h.up.os, ho.tape.trans h.up.tape, ho.output.trans h.up.output, by rw [ho.size]; exact h.up.size, fun k hk hne => (ho.block k (fun e => hne (by rw [e]))).trans (h.up.block k hk hne)⟩
theorem TO.fresh {w0 wb g A l c p v vs xss w} (h : TO w0 wb g A l c p v vs xss w) : TO w0 wb g A l c p (.slice (some ⟨w.heap.size, 0, none⟩) 0 0) [] [] (w.alloc (.cells #[] 43)) :=
  ⟨h.rd.below_ (below_alloc _ _), by rw [World.size_alloc]; exact Bld.make h.up.size, h.gl, grown_below h.up (below_alloc _ _)⟩
theorem TO.set0 {w0 wb g A l c p v vs xss w} (h : TO w0 wb g A l c p v vs xss w) (h0 : 0 < xss.length) (h1 : 0 < (gr xss 0).length) {x : Int} (hx : -1000 ≤ x ∧ x ≤ 1000) :
    ∃ b o cc, vs[0]? = some (.slice (some ⟨b, o, none⟩) (gr xss 0).length cc) ∧ (∃ y, w.cell? ⟨b, o, none⟩ = some (.int .i64 y)) ∧ w.frozen? ⟨b, o, none⟩ = false ∧
      TO w0 wb g A l c p v vs (xss.set 0 ((gr xss 0).set 0 x)) (w.setCell ⟨b, o, none⟩ (.int .i64 x)) := by
  obtain ⟨b, o, cc, e, hl, hc, hf, hb⟩ := h.bo.set0 h0 h1 (x := x) (by omega)
  have hgl := h.gl
  have hs : (w.setCell ⟨b, o, none⟩ (.int .i64 x)).heap.size = w.heap.size := by simp [World.setCell]
  refine ⟨b, o, cc, e, hc, hf, ⟨⟨blk_other h.rd.box (by show g ≠ b; omega) _, h.rd.bytes, h.rd.below.setCell (by show w0.heap.size ≤ b; have := h.rd.lt; omega) _, h.rd.lt, h.rd.small⟩, by rw [hs]; exact hb, h.gl, ?_⟩⟩
  exact ⟨h.up.os, h.up.tape, h.up.output, by rw [hs]; exact h.up.size, fun k hk hne => (Below.heap_setCell _ _ _ _ (by show k ≠ b; omega)).trans (h.up.block k hk hne)⟩
end Go.Proofs.Ytlfljcemcaphcaa

/- A table spoiled now and then: the walk. -/
namespace Go.Proofs.Ytlfljcemcaphcaa
open Go.RowKit

/-- A row written out, of one number. -/
theorem TO.lit {w0 wb g A l c p v vs xss w} (h : TO w0 wb g A l c p v vs xss w) (x : Int) :
    TI w0 wb g A l c p w.heap.size v vs xss (.slice (some ⟨w.heap.size, 0, none⟩) 1 1) [x] (w.alloc (.cells #[iv x] 3)) :=
  ⟨h.rd.below_ (below_alloc _ _), h.bo.below (below_alloc _ _), by rw [World.size_alloc]; exact ⟨⟨by simp, .inr ⟨w.heap.size, 1, #[iv x], rfl, Nat.le_refl _, heap_alloc_new w _, Nat.le_refl _, by decide, rfl, by simp⟩⟩, fun k hk => by simp [Value.ownBlock] at hk; omega⟩, h.gl, h.up.size, by simp, grown_below h.up (below_alloc _ _)⟩

theorem Ints.drew {w A n c xs} (h : Ints w A n c xs) : Ints w.drew A n c xs := ⟨h.1, h.2, h.3, h.4, h.5⟩

theorem Bld.head_at {lo hi w b c n vs xss} (h : Bld lo hi w (.slice (some ⟨b, 0, none⟩) n c) vs xss) (h0 : 0 < xss.length) : w.cell? ⟨b, 0, none⟩ = vs[0]? := by
  obtain ⟨b', c', R, cc, e, _, h1, h2⟩ := h.head h0
  injection e with e
  injection e with e
  injection e with e _ _
  subst e
  rw [h1, h2]

theorem TO.set0_at {w0 wb g A l c p v vs xss w b o k cc} (h : TO w0 wb g A l c p v vs xss w) (h0 : 0 < xss.length) (h1 : 0 < (gr xss 0).length) (hv : vs[0]? = some (.slice (some ⟨b, o, none⟩) k cc)) {x : Int} (hx : -1000 ≤ x ∧ x ≤ 1000) :
    (∃ y, w.cell? ⟨b, o, none⟩ = some (.int .i64 y)) ∧ w.frozen? ⟨b, o, none⟩ = false ∧ TO w0 wb g A l c p v vs (xss.set 0 ((gr xss 0).set 0 x)) (w.setCell ⟨b, o, none⟩ (.int .i64 x)) := by
  obtain ⟨b', o', cc', e, h2⟩ := h.set0 h0 h1 hx
  rw [hv] at e
  injection e with e
  injection e with e _ _
  injection e with e
  injection e with e1 e2 _
  subst e1
  subst e2
  exact h2

def SpoilOut (w0 wb : World) (g : Nat) (A : Option Addr) (l c p : Nat) (e : Ending) (w' : World) : Prop :=
  ∃ v' vs' xss' p', e = .returned v' ∧ Small xss' ∧ TO w0 wb g A l c p' v' vs' xss' w' ∧ p' ≤ p + 2

end Go.Proofs.Ytlfljcemcaphcaa

/- Some table. -/
namespace Go.Proofs.Ytlfljcemcaphcaa
open Go.RowKit

theorem grown_trans {g : Nat} {a b w : World} (h : a.grownBy b (some g)) (k : b.grownBy w (some g)) : a.grownBy w (some g) :=
  ⟨k.os.trans h.os, k.tape.trans h.tape, k.output.trans h.output, Nat.le_trans h.size k.size, fun i hi hne => (k.block i (Nat.lt_of_lt_of_le hi h.size) hne).trans (h.block i hi hne)⟩
theorem grown_of_below {g : Nat} {w w' : World} (k : Below w.heap.size w w') : w.grownBy w' (some g) := ⟨k.os, k.tape, k.output, k.size, fun i hi _ => k.block i hi⟩

/-- A number of a list that is written out. -/
def OneLit (w0 : World) (g : Nat) (A : Option Addr) (l c p : Nat) (xs : List Int) (w : World) (e : Ending) (w' : World) : Prop :=
  ∃ x, e = .returned (.int .i64 x) ∧ x ∈ xs ∧ Rdr w0 w' g A l c (p + 1) ∧ w.grownBy w' (some g)
theorem one_lit (w0 w W : World) (g : Nat) (A : Option Addr) (l c p b n : Nat) (xs : List Int) (h : Rdr w0 w g A l c p) (hp : p < 1000000000) (k : Below w.heap.size w W)
    (hb : w.heap.size ≤ b) (hi : Ints W (some ⟨b, 0, none⟩) n n xs) (h0 : 0 < n) :
    Calls Try.prog 59 #[.pointer (some ⟨g, 0, none⟩), .slice (some ⟨b, 0, none⟩) n n] W (OneLit w0 g A l c p xs w) := by
  have hg := blk_lt h.box
  refine (one_any w0 W g A l c p _ n n xs (h.below_ k) hp hi h0 (fun b' o' e' => by injection e' with e'; injection e' with e' _ _; omega)).mono ?_
  rintro e w4 ⟨x, rfl, hx, hr, ho⟩
  exact ⟨x, rfl, hx, hr, grown_trans (grown_of_below k) ho.grown⟩

/-- A table that the reader drew: its memory is from w on. -/
def SomeT (w0 : World) (g : Nat) (A : Option Addr) (l c p : Nat) (w : World) (e : Ending) (w' : World) : Prop :=
  ∃ wb v' vs' xss' p', e = .returned v' ∧ Small xss' ∧ TO w0 wb g A l c p' v' vs' xss' w' ∧ p' ≤ p + 30 ∧ w.grownBy wb (some g)

end Go.Proofs.Ytlfljcemcaphcaa

/- Tables drawn from bytes. -/
namespace Go.Proofs.Ytlfljcemcaphcaa
open Go.RowKit

/-- A table of small numbers, in memory of its own. -/
def DrawnT (w : World) (e : Ending) (w' : World) : Prop :=
  ∃ Av n c gg xss, e = .returned (.slice Av n c) ∧ Small xss ∧ OwnR w.heap.size w'.heap.size w' gg Av n c xss ∧ Below w.heap.size w w'

end Go.Proofs.Ytlfljcemcaphcaa

/- Tables made of tables. -/
namespace Go.Proofs.Ytlfljcemcaphcaa
open Go.RowKit

/-- A table under way. -/
structure TM (wb : World) (v : Value) (vs : List Value) (xss : List (List Int)) (w : World) : Prop where
  bo : Bld wb.heap.size w.heap.size w v vs xss
  up : Below wb.heap.size wb w
/-- .. and the row that is begun. -/
structure TN (wb : World) (H : Nat) (v : Value) (vs : List Value) (xss : List (List Int)) (u : Value) (ys : List Int) (w : World) : Prop where
  bo : Bld wb.heap.size H w v vs xss
  bi : BldI H w.heap.size w u ys
  lh : wb.heap.size ≤ H
  hs : H ≤ w.heap.size
  up : Below wb.heap.size wb w
theorem TM.start (wb : World) : TM wb (.slice (some ⟨wb.heap.size, 0, none⟩) 0 0) [] [] (wb.alloc (.cells #[] 43)) :=
  ⟨by rw [World.size_alloc]; exact Bld.make (Nat.le_refl _), below_alloc _ _⟩
theorem TM.row {wb v vs xss w} (h : TM wb v vs xss w) : TN wb w.heap.size v vs xss (.slice (some ⟨w.heap.size, 0, none⟩) 0 0) [] (w.alloc (.cells #[] 3)) :=
  ⟨h.bo.below (below_alloc _ _), by rw [World.size_alloc]; exact BldI.make (Nat.le_refl _), h.up.size, by simp, below_up h.up (below_alloc _ _)⟩
theorem TN.push {wb H v vs xss u u' ys w w' x} (h : TN wb H v vs xss u ys w)
    (hown : w'.ownsRow H 3 1 u' (ys.length + 1) (ys.map iv ++ [iv x])) (hgrow : (w.alloc (.cells #[iv x] 3)).grownBy w' u.ownBlock)
    (hat : u'.ownBlock = u.ownBlock ∨ u'.ownBlock = some (w.heap.size + 1)) : TN wb H v vs xss u' (ys ++ [x]) w' := by
  have hlh := h.lh
  have hhs := h.hs
  have hsz := hgrow.size
  simp only [World.size_alloc] at hsz
  have hu : ∀ k, u.ownBlock = some k → H ≤ k := fun k hk => (h.bi.own.lt k hk).1
  have hbelow : ∀ k, k < H → w'.heap[k]? = w.heap[k]? := fun k hk =>
    (hgrow.block k (by simp; omega) (fun e => by have := hu k e.symm; omega)).trans (Below.heap_alloc _ _ _ (by omega))
  refine ⟨h.bo.of_blocks fun k _ hk _ => hbelow k hk, ⟨by rw [List.length_append, List.length_singleton, List.map_append]; exact hown, fun k hk => ?_⟩, h.lh, by omega, ?_⟩
  · rcases hat with hat | hat
    · have := h.bi.hi_ k (by rw [← hat]; exact hk); omega
    · have := (hown.lt k hk).2; omega
  · exact ⟨hgrow.os.trans h.up.os, hgrow.tape.trans h.up.tape, hgrow.output.trans h.up.output, by have := h.up.size; omega, fun k hk => (hbelow k (by omega)).trans (h.up.block k hk)⟩
theorem TN.done {wb H v v' vs xss ys w w' Ar cr gr_} (h : TN wb H v vs xss (.slice Ar ys.length cr) ys w) (ho : OwnI H w.heap.size w gr_ Ar ys.length cr ys)
    (hown : w'.ownsRow wb.heap.size 43 1 v' (xss.length + 1) (vs ++ [.slice Ar ys.length cr])) (hgrow : (w.alloc (.cells #[.slice Ar ys.length cr] 43)).grownBy w' v.ownBlock)
    (hat : v'.ownBlock = v.ownBlock ∨ v'.ownBlock = some (w.heap.size + 1)) : TM wb v' (vs ++ [.slice Ar ys.length cr]) (xss ++ [ys]) w' := by
  have hlh := h.lh
  have hhs := h.hs
  have hsz := hgrow.size
  simp only [World.size_alloc] at hsz
  have hv : ∀ k, v.ownBlock = some k → wb.heap.size ≤ k := fun k hk => (h.bo.own.lt k hk).1
  have hbelow : ∀ k, k < wb.heap.size → w'.heap[k]? = w.heap[k]? := fun k hk =>
    (hgrow.block k (by simp; omega) (fun e => by have := hv k e.symm; omega)).trans (Below.heap_alloc _ _ _ (by omega))
  have hb := below_alloc w (.cells #[.slice Ar ys.length cr] 43)
  refine ⟨?_, ?_⟩
  · have hbo : Bld wb.heap.size H w v vs xss := h.bo
    exact Bld.push (hi := H) (w := w) hbo hb ((ho.below hb).mono (Nat.le_refl _) (by simp)) hown hgrow (by simpa using hat) hlh hhs
  · exact ⟨hgrow.os.trans h.up.os, hgrow.tape.trans h.up.tape, hgrow.output.trans h.up.output, by have := h.up.size; omega, fun k hk => (hbelow k hk).trans (h.up.block k hk)⟩

/-- A new table. -/
def NewT (w : World) (yss : List (List Int)) (e : Ending) (w' : World) : Prop :=
  ∃ Av n c gg, e = .returned (.slice Av n c) ∧ n = yss.length ∧ OwnR w.heap.size w'.heap.size w' gg Av n c yss ∧ Below w.heap.size w w'

def mrow (r : List Int) (j : Nat) : List Int := (List.range j).map fun k => - gi r k
def mtab (xss : List (List Int)) (i : Nat) : List (List Int) := (List.range i).map fun k => mrow (gr xss k) (gr xss k).length
theorem mrow_succ (r : List Int) (j : Nat) : mrow r (j + 1) = mrow r j ++ [- gi r j] := by simp [mrow, List.range_succ]
theorem mtab_succ (xss : List (List Int)) (i : Nat) : mtab xss (i + 1) = mtab xss i ++ [mrow (gr xss i) (gr xss i).length] := by simp [mtab, List.range_succ]
theorem mrow_len (r : List Int) (j : Nat) : (mrow r j).length = j := by simp [mrow]
theorem mtab_len (xss : List (List Int)) (j : Nat) : (mtab xss j).length = j := by simp [mtab]
theorem Small.gi {xss : List (List Int)} (h : Small xss) {k j : Nat} (hk : k < xss.length) (hj : j < (gr xss k).length) : -1000 ≤ gi (gr xss k) j ∧ gi (gr xss k) j ≤ 1000 :=
  (h.rows _ (gr_mem hk)).2 _ (gi_mem hj)
theorem Small.mrow_bd {xss : List (List Int)} (h : Small xss) {k j : Nat} (hk : k < xss.length) (hj : j ≤ (gr xss k).length) : ∀ x ∈ mrow (gr xss k) j, -1000 ≤ x ∧ x ≤ 1000 := fun x hx => by
  obtain ⟨i, hi, rfl⟩ := List.mem_map.1 hx
  have := h.gi hk (show i < _ by have := List.mem_range.1 hi; omega)
  omega
theorem Small.mtab {xss : List (List Int)} (h : Small xss) : Small (mtab xss xss.length) :=
  ⟨by rw [mtab_len]; exact h.n, fun r hr => by
    obtain ⟨i, hi, rfl⟩ := List.mem_map.1 hr
    have hi := List.mem_range.1 hi
    exact ⟨by rw [mrow_len]; exact (h.rows _ (gr_mem hi)).1, h.mrow_bd hi (Nat.le_refl _)⟩⟩

end Go.Proofs.Ytlfljcemcaphcaa

/- Tables turned, by the laws. -/
namespace Go.Proofs.Ytlfljcemcaphcaa
open Go.RowKit

def fcol (xss : List (List Int)) (j i : Nat) : List Int := (List.range i).map fun k => g2 xss k j
theorem fcol_succ (xss : List (List Int)) (j i : Nat) : fcol xss j (i + 1) = fcol xss j i ++ [g2 xss i j] := by simp [fcol, List.range_succ]
theorem flip_succ (xss : List (List Int)) (n j : Nat) : flip xss n (j + 1) = flip xss n j ++ [fcol xss j n] := by simp [flip, fcol, List.range_succ]
theorem fcol_len (xss : List (List Int)) (j i : Nat) : (fcol xss j i).length = i := by simp [fcol]
theorem flip_len (xss : List (List Int)) (n j : Nat) : (flip xss n j).length = j := by simp [flip]
/-- Rows of m numbers. -/
def Even (xss : List (List Int)) (m : Nat) : Prop := ∀ k, k < xss.length → (gr xss k).length = m
theorem Small.fcol_bd {xss : List (List Int)} (h : Small xss) {m : Nat} (he : Even xss m) {i j : Nat} (hi : i ≤ xss.length) (hj : j < m) : ∀ x ∈ fcol xss j i, -1000 ≤ x ∧ x ≤ 1000 := fun x hx => by
  obtain ⟨k, hk, rfl⟩ := List.mem_map.1 hx
  have hk := List.mem_range.1 hk
  exact h.gi (show k < _ by omega) (by rw [he k (by omega)]; exact hj)
theorem Small.m {xss : List (List Int)} (h : Small xss) {m : Nat} (he : Even xss m) (h0 : 0 < xss.length) : m ≤ 8 := by
  rw [← he 0 h0]; exact (h.rows _ (gr_mem h0)).1
theorem Small.flip {xss : List (List Int)} (h : Small xss) {m : Nat} (he : Even xss m) (h0 : 0 < xss.length) : Small (flip xss xss.length m) :=
  ⟨by rw [flip_len]; exact h.m he h0, fun r hr => by
    obtain ⟨j, hj, rfl⟩ := List.mem_map.1 hr
    have hj := List.mem_range.1 hj
    exact ⟨by simp; exact h.n, h.fcol_bd he (Nat.le_refl _) hj⟩⟩

theorem VT.even {a : List (List Int)} (v : VT a) : Even a (gr a 0).length := fun k hk => (v.rows k hk).1
theorem VT.flip {a : List (List Int)} (v : VT a) : VT (flip a a.length (gr a 0).length) := by
  have h0 := v.m1
  refine VT_of (by rw [flip_len]; exact v.m1) (by rw [flip_len]; exact v.m3) fun i hi => ?_
  rw [flip_len] at hi
  rw [gr_flip hi, gr_flip h0]
  refine ⟨by simp, by simp; exact v.n1, by simp; exact v.n3, fun j hj => ?_⟩
  simp at hj
  rw [gi_col hj]
  exact v.bd hj hi
theorem VT.minus {a : List (List Int)} (v : VT a) : VT (mtab a a.length) := by
  have hg : ∀ i, i < a.length → gr (mtab a a.length) i = mrow (gr a i) (gr a i).length := fun i hi => by
    rw [gr_get (by rw [mtab_len]; exact hi)]; simp [mtab]
  have h0 : 0 < a.length := v.n1
  refine VT_of (by rw [mtab_len]; exact v.n1) (by rw [mtab_len]; exact v.n3) fun i hi => ?_
  rw [mtab_len] at hi
  have hr := v.rows i hi
  rw [hg i hi, hg 0 h0, RowV, mrow_len, mrow_len]
  refine ⟨hr.1, by rw [hr.1]; exact v.m1, by rw [hr.1]; exact v.m3, fun j hj => ?_⟩
  have := hr.2 j hj
  rw [gi_get (by rw [mrow_len]; exact hj)]
  simp only [mrow, List.getElem_map, List.getElem_range]
  unfold InR at *
  omega

end Go.Proofs.Ytlfljcemcaphcaa

/- A table turned, by the model. -/
namespace Go.Proofs.Ytlfljcemcaphcaa
open Go.RowKit

end Go.Proofs.Ytlfljcemcaphcaa

/- A square without a row and a column, by the model. -/
namespace Go.Proofs.Ytlfljcemcaphcaa
open Go.RowKit

theorem Small.rowW_bd {xss : List (List Int)} (h : Small xss) {k c j : Nat} (hk : k < xss.length) (hj : j ≤ (gr xss k).length) : ∀ x ∈ rowW (gr xss k) c j, -1000 ≤ x ∧ x ≤ 1000 :=
  fun x hx => (h.rows _ (gr_mem hk)).2 x (rowW_mem _ _ hj hx)
theorem eqi_true {a b : Nat} (h : a = b) : ((a : Int) == (b : Int)) = true := by subst h; simp
theorem eqi_false {a b : Nat} (h : a ≠ b) : ((a : Int) == (b : Int)) = false := by simp; omega
theorem nei_true {a b : Nat} (h : a ≠ b) : ((a : Int) != (b : Int)) = true := by simp; omega
theorem nei_false {a b : Nat} (h : a = b) : ((a : Int) != (b : Int)) = false := by subst h; simp

end Go.Proofs.Ytlfljcemcaphcaa

/- The determinant of a square, by the model. -/
namespace Go.Proofs.Ytlfljcemcaphcaa
open Go.RowKit
open V (sumN detN rowC colC cofN minorN skip sgn)

theorem sgn_succ (j : Nat) : sgn (j + 1) = - sgn j := by unfold sgn; split <;> split <;> omega
theorem Sq.small {k : Nat} {xss : List (List Int)} {f : Nat → Nat → Int} (h : Sq k xss f) (hk : k ≤ 3) (ha : Ab k f) : Small xss := by
  refine ⟨by have := h.len; omega, fun r hr => ?_⟩
  obtain ⟨p, hp, rfl⟩ := List.mem_iff_getElem.1 hr
  rw [← gr_get hp]
  have hpk : p < k := by have := h.len; omega
  have hl := h.row p hpk
  refine ⟨by omega, fun x hx => ?_⟩
  obtain ⟨q, hq, rfl⟩ := List.mem_iff_getElem.1 hx
  rw [← gi_get hq]
  have := h.eq p q hpk (by omega)
  unfold g2 at this
  have := ha p q hpk (by omega)
  omega
theorem Sq.even {k : Nat} {xss : List (List Int)} {f : Nat → Nat → Int} (h : Sq k xss f) : Even xss k := fun p hp => h.row p (by rw [← h.len]; exact hp)
theorem wrapIn {x : Int} (h : -1000000000000000 ≤ x ∧ x ≤ 1000000000000000) : IntKind.i64.wrap x = x := wrap_in64 ⟨by omega, by omega⟩

end Go.Proofs.Ytlfljcemcaphcaa

/- Slices of ints under way; the sums of cofactors of each row of a square, by the model. -/
namespace Go.Proofs.Ytlfljcemcaphcaa
open Go.RowKit
open V (sumN detN rowC colC cofN minorN skip sgn)

/-- Ints under way: a slice made by append, alone. -/
structure IU (wb : World) (v : Value) (ys : List Int) (w : World) : Prop where
  bi : BldI wb.heap.size w.heap.size w v ys
  up : Below wb.heap.size wb w
theorem IU.start (wb : World) : IU wb (.slice (some ⟨wb.heap.size, 0, none⟩) 0 0) [] (wb.alloc (.cells #[] 3)) :=
  ⟨by rw [World.size_alloc]; exact BldI.make (Nat.le_refl _), below_alloc _ _⟩
theorem IU.nil (wb : World) : IU wb (.slice none 0 0) [] wb := ⟨BldI.nil _ _ _, Below.refl _ _⟩
theorem IU.next {wb v ys w w'} (h : IU wb v ys w) (k : Below w.heap.size w w') : IU wb v ys w' := ⟨(h.bi.below k).mono k.size, below_up h.up k⟩
theorem IU.push {wb v v' ys w w' x} (h : IU wb v ys w) (hown : w'.ownsRow wb.heap.size 3 1 v' (ys.length + 1) (ys.map iv ++ [iv x]))
    (hgrow : (w.alloc (.cells #[iv x] 3)).grownBy w' v.ownBlock) (hat : v'.ownBlock = v.ownBlock ∨ v'.ownBlock = some (w.heap.size + 1)) : IU wb v' (ys ++ [x]) w' := by
  have hsz := hgrow.size
  simp only [World.size_alloc] at hsz
  have hu : ∀ k, v.ownBlock = some k → wb.heap.size ≤ k := fun k hk => (h.bi.own.lt k hk).1
  have hbelow : ∀ k, k < wb.heap.size → w'.heap[k]? = w.heap[k]? := fun k hk => by
    have := h.up.size
    exact (hgrow.block k (by simp; omega) (fun e => by have := hu k e.symm; omega)).trans (Below.heap_alloc _ _ _ (by omega))
  refine ⟨⟨by rw [List.length_append, List.length_singleton, List.map_append]; exact hown, fun k hk => ?_⟩, ?_⟩
  · rcases hat with hat | hat
    · have := h.bi.hi_ k (by rw [← hat]; exact hk); omega
    · have := (hown.lt k hk).2; omega
  · exact ⟨hgrow.os.trans h.up.os, hgrow.tape.trans h.up.tape, hgrow.output.trans h.up.output, by have := h.up.size; omega, fun k hk => (hbelow k hk).trans (h.up.block k hk)⟩
/-- A new slice of ints. -/
def NewI (w : World) (ys : List Int) (e : Ending) (w' : World) : Prop :=
  ∃ Av n c gg, e = .returned (.slice Av n c) ∧ n = ys.length ∧ OwnI w.heap.size w'.heap.size w' gg Av n c ys ∧ Below w.heap.size w w'
theorem IU.new {wb ys w} {A : Option Addr} {c : Nat} (h : IU wb (.slice A ys.length c) ys w) (hm : ys.length ≤ 100) (hb : ∀ y ∈ ys, -1000000000000000 ≤ y ∧ y ≤ 1000000000000000) :
    NewI wb ys (.returned (.slice A ys.length c)) w := by
  obtain ⟨A', n', c', g, e, hn, ho, _⟩ := h.bi.owns (by omega) (fun t ht => by have := hb t ht; omega)
  injection e with e1 e2 e3
  subst e1
  subst e2
  subst e3
  exact ⟨_, _, _, g, rfl, rfl, ho, h.up⟩

theorem Sq.minor' {n : Nat} {xss : List (List Int)} {f : Nat → Nat → Int} (h : Sq n xss f) {r c : Nat} (hr : r < n) (hc : c < n) : Sq (n - 1) (minW xss r c n n) (minorN f r c) := by
  obtain ⟨l, rfl⟩ : ∃ l, n = l + 1 := ⟨n - 1, by omega⟩
  exact h.minor (by omega) (by omega)
theorem Ab.minor' {n : Nat} {f : Nat → Nat → Int} (h : Ab n f) (hn : 0 < n) (r c : Nat) : Ab (n - 1) (minorN f r c) := by
  obtain ⟨l, rfl⟩ : ∃ l, n = l + 1 := ⟨n - 1, by omega⟩
  exact h.minor r c
/-- The sums of cofactors of the first i rows. -/
def cofL (k : Nat) (f : Nat → Nat → Int) (i : Nat) : List Int := (List.range i).map (rowC k f)
theorem cofL_succ (k : Nat) (f : Nat → Nat → Int) (i : Nat) : cofL k f (i + 1) = cofL k f i ++ [rowC k f i] := by simp [cofL, List.range_succ]
theorem cofL_len (k : Nat) (f : Nat → Nat → Int) (i : Nat) : (cofL k f i).length = i := by simp [cofL]
theorem cofL_bd {k : Nat} {f : Nat → Nat → Int} (hk : k ≤ 3) (h : Ab k f) {i : Nat} (hi : i ≤ k) : ∀ x ∈ cofL k f i, -1000000 ≤ x ∧ x ≤ 1000000 := fun x hx => by
  obtain ⟨j, hj, rfl⟩ := List.mem_map.1 hx
  have := List.mem_range.1 hj
  exact cofS_bd hk h (by omega) (Nat.le_refl k)

theorem cofS_odd {k : Nat} {f : Nat → Nat → Int} {i j : Nat} (h : (i + j) % 2 = 1) : cofS k f i (j + 1) = cofS k f i j + -(detN (k - 1) (minorN f i j)) := by
  rw [cofS_succ, cofN, sgn, if_pos h]; omega
theorem cofS_even {k : Nat} {f : Nat → Nat → Int} {i j : Nat} (h : ¬ (i + j) % 2 = 1) : cofS k f i (j + 1) = cofS k f i j + detN (k - 1) (minorN f i j) := by
  rw [cofS_succ, cofN, sgn, if_neg h]; omega

end Go.Proofs.Ytlfljcemcaphcaa

/- Members of sets, parts of tables, numbers put to their places, numbers without a common factor. Plain. -/
namespace Go.Proofs.Ytlfljcemcaphcaa
open V (sumN detN rowC colC cofN minorN skip sgn)

/-- The members below j of a set. -/
def memL (s : Nat) : Nat → List Int
  | 0 => []
  | j + 1 => if s / 2 ^ j % 2 = 1 then memL s j ++ [(j : Int)] else memL s j
theorem memL_yes {s j : Nat} (h : s / 2 ^ j % 2 = 1) : memL s (j + 1) = memL s j ++ [(j : Int)] := by rw [memL, if_pos h]
theorem memL_no {s j : Nat} (h : ¬ s / 2 ^ j % 2 = 1) : memL s (j + 1) = memL s j := by rw [memL, if_neg h]
theorem memL_le (s : Nat) : ∀ j, (memL s j).length ≤ j
  | 0 => by simp [memL]
  | j + 1 => by
    have := memL_le s j
    rw [memL]
    split
    · rw [List.length_append, List.length_singleton]; omega
    · omega
theorem memL_bd (s : Nat) : ∀ j, ∀ x ∈ memL s j, 0 ≤ x ∧ x < (j : Int)
  | 0, x, h => by simp [memL] at h
  | j + 1, x, h => by
    rw [memL] at h
    split at h
    · rcases List.mem_append.1 h with h | h
      · have := memL_bd s j x h; omega
      · simp at h; omega
    · have := memL_bd s j x h; omega

/-- A list of as many places. -/
def lstN (r : Nat → Nat) (k : Nat) : List Int := (List.range k).map fun p => (r p : Int)
theorem lstN_len (r : Nat → Nat) (k : Nat) : (lstN r k).length = k := by simp [lstN]
theorem gi_lstN {r : Nat → Nat} {k p : Nat} (h : p < k) : gi (lstN r k) p = (r p : Int) := by
  rw [gi_get (by rw [lstN_len]; exact h)]; simp [lstN]

/-- The first j numbers of a row of a part; the first i rows. -/
def prtR (a : List (List Int)) (i : Nat) (c : Nat → Nat) (more : Int) (j : Nat) : List Int := (List.range j).map fun q => g2 a i (c q) + more
def prtL (a : List (List Int)) (r c : Nat → Nat) (more : Int) (l i : Nat) : List (List Int) := (List.range i).map fun p => prtR a (r p) c more l
theorem prtR_succ (a : List (List Int)) (i : Nat) (c : Nat → Nat) (more : Int) (j : Nat) : prtR a i c more (j + 1) = prtR a i c more j ++ [g2 a i (c j) + more] := by simp [prtR, List.range_succ]
theorem prtL_succ (a : List (List Int)) (r c : Nat → Nat) (more : Int) (l i : Nat) : prtL a r c more l (i + 1) = prtL a r c more l i ++ [prtR a (r i) c more l] := by simp [prtL, List.range_succ]
theorem prtR_len (a : List (List Int)) (i : Nat) (c : Nat → Nat) (more : Int) (j : Nat) : (prtR a i c more j).length = j := by simp [prtR]
theorem prtL_len (a : List (List Int)) (r c : Nat → Nat) (more : Int) (l i : Nat) : (prtL a r c more l i).length = i := by simp [prtL]
theorem gi_prtR {a : List (List Int)} {i : Nat} {c : Nat → Nat} {more : Int} {j q : Nat} (h : q < j) : gi (prtR a i c more j) q = g2 a i (c q) + more := by
  rw [gi_get (by rw [prtR_len]; exact h)]; simp [prtR]
theorem gr_prtL {a : List (List Int)} {r c : Nat → Nat} {more : Int} {l i p : Nat} (h : p < i) : gr (prtL a r c more l i) p = prtR a (r p) c more l := by
  rw [gr_get (by rw [prtL_len]; exact h)]; simp [prtL]
theorem prtL_sq (a : List (List Int)) (r c : Nat → Nat) (more : Int) (k : Nat) : Sq k (prtL a r c more k k) (fun p q => g2 a (r p) (c q) + more) :=
  ⟨prtL_len _ _ _ _ _ _, fun p hp => by rw [gr_prtL hp, prtR_len], fun p q hp hq => by unfold g2; rw [gr_prtL hp, gi_prtR hq]; rfl⟩
theorem prtR_bd {a : List (List Int)} {i : Nat} {c : Nat → Nat} {more : Int} {j : Nat} (h : ∀ q, q < j → -9 ≤ g2 a i (c q) ∧ g2 a i (c q) ≤ 9) (hm : 0 ≤ more ∧ more ≤ 18) : ∀ x ∈ prtR a i c more j, -27 ≤ x ∧ x ≤ 27 := fun x hx => by
  obtain ⟨q, hq, rfl⟩ := List.mem_map.1 hx
  have := h q (List.mem_range.1 hq)
  omega

/-- Numbers put to their places among n: the first k of them. -/
def putL (n : Nat) (r : Nat → Nat) (xs : List Int) : Nat → List Int
  | 0 => List.replicate n 0
  | k + 1 => (putL n r xs k).set (r k) (gi xs k)
theorem putL_len (n : Nat) (r : Nat → Nat) (xs : List Int) : ∀ k, (putL n r xs k).length = n
  | 0 => by simp [putL]
  | k + 1 => by rw [putL, List.length_set, putL_len n r xs k]
theorem gi_set_at {xs : List Int} {i k : Nat} {v : Int} (h : k < xs.length) : gi (xs.set i v) k = if i = k then v else gi xs k := by
  rw [gi_get (by rw [List.length_set]; exact h), gi_get h, List.getElem_set]
theorem gi_putL {n : Nat} {r : Nat → Nat} {xs : List Int} {i : Nat} (hi : i < n) : ∀ {k}, (∀ p q, p < q → q < k → r p ≠ r q) → gi (putL n r xs k) i = sumN (fun p => if r p = i then gi xs p else 0) k
  | 0, _ => by rw [putL, gi_get (by simpa using hi)]; simp [sumN]
  | k + 1, h => by
    have ih := gi_putL (xs := xs) hi (k := k) fun p q hp hq => h p q hp (by omega)
    rw [putL, gi_set_at (by rw [putL_len]; exact hi), sumN]
    by_cases e : r k = i
    · rw [if_pos e, if_pos e]
      have : sumN (fun p => if r p = i then gi xs p else 0) k = sumN (fun _ => 0) k := sumN_congr fun p hp => by rw [if_neg (fun e2 => h p k hp (by omega) (e2.trans e.symm))]
      rw [this, sumN_zero]; omega
    · rw [if_neg e, if_neg e, ih]; omega

/-- Numbers without signs, divided by g. -/
def clrL (xs : List Int) (g : Int) (i : Nat) : List Int := (List.range i).map fun p => max (gi xs p) (- gi xs p) / g
theorem clrL_succ (xs : List Int) (g : Int) (i : Nat) : clrL xs g (i + 1) = clrL xs g i ++ [max (gi xs i) (- gi xs i) / g] := by simp [clrL, List.range_succ]
theorem clrL_len (xs : List Int) (g : Int) (i : Nat) : (clrL xs g i).length = i := by simp [clrL]
theorem gi_clrL {xs : List Int} {g : Int} {i p : Nat} (h : p < i) : gi (clrL xs g i) p = max (gi xs p) (- gi xs p) / g := by
  rw [gi_get (by rw [clrL_len]; exact h)]; simp [clrL]
/-- Not all numbers are 0, and none have different signs. -/
structure ClrP (xs : List Int) : Prop where
  nz : ∃ p, p < xs.length ∧ gi xs p ≠ 0
  sg : (∀ p, p < xs.length → 0 ≤ gi xs p) ∨ ∀ p, p < xs.length → gi xs p ≤ 0
theorem gcdL_zero {xs : List Int} : ∀ {k}, gcdL xs k = 0 ↔ ∀ p, p < k → gi xs p = 0
  | 0 => by simp [gcdL]
  | k + 1 => by
    have ih := gcdL_zero (xs := xs) (k := k)
    rw [gcdL]
    constructor
    · intro h p hp
      have h1 : gcdL xs k = 0 := by
        apply Classical.byContradiction; intro hn
        have := gcdI_pos_left (b := gi xs k) hn; omega
      by_cases e : p = k
      · subst e
        apply Classical.byContradiction; intro hn
        have := gcdI_pos (a := gcdL xs p) hn; omega
      · exact ih.1 h1 p (by omega)
    · intro h
      rw [ih.2 fun p hp => h p (by omega), h k (by omega)]
      rfl
theorem gcdL_dvd (xs : List Int) : ∀ {k p}, p < k → gcdL xs k ∣ gi xs p
  | 0, _, h => absurd h (by omega)
  | k + 1, p, h => by
    rw [gcdL]
    by_cases e : p = k
    · subst e; exact gcdI_dvd_right _ _
    · exact Int.dvd_trans (gcdI_dvd_left _ _) (gcdL_dvd xs (k := k) (by omega))
end Go.Proofs.Ytlfljcemcaphcaa

/- Members of sets, by the model. -/
namespace Go.Proofs.Ytlfljcemcaphcaa
open Go.RowKit

theorem div_pow_succ (x i : Nat) : x / 2 ^ (i + 1) = x / 2 ^ i / 2 := by rw [Nat.pow_succ, Nat.div_div_eq_div_mul]
theorem memb_bd (s j : Nat) (hj : j ≤ 100) : ∀ y ∈ memL s j, -1000000000000000 ≤ y ∧ y ≤ 1000000000000000 := fun y hy => by have := memL_bd s j y hy; omega
end Go.Proofs.Ytlfljcemcaphcaa

/- Some rows and columns of a table, by the model. -/
namespace Go.Proofs.Ytlfljcemcaphcaa
open Go.RowKit

/-- One number more, appended in a region that draws its order. -/
theorem IU.push2 {wb v ys w w2 w1 x} {gg cap : Nat} (h : IU wb v ys w) (hb : Below w.heap.size w w2)
    (hown : w1.ownsRow wb.heap.size 3 1 (.slice (some ⟨gg, 0, none⟩) (ys.length + 1) cap) (ys.length + 1) (ys.map iv ++ [iv x])) (hgrow : w2.grownBy w1 v.ownBlock) (hlt : gg < w1.heap.size) :
    IU wb (.slice (some ⟨gg, 0, none⟩) (ys.length + 1) cap) (ys ++ [x]) w1 := by
  have hu : ∀ k, v.ownBlock = some k → wb.heap.size ≤ k := fun k hk => (h.bi.own.lt k hk).1
  have hz := h.up.size
  have hz2 := hb.size
  refine ⟨⟨by rw [List.length_append, List.length_singleton, List.map_append]; exact hown, fun k hk => ?_⟩, ?_⟩
  · have : gg = k := by simpa [Value.ownBlock] using hk
    omega
  · exact (below_up h.up hb).grown hgrow (by omega) fun k hk => hu k hk
theorem TN.push2 {wb H v vs xss u ys w w2 w1 x} {gg cap : Nat} (h : TN wb H v vs xss u ys w) (hb : Below w.heap.size w w2)
    (hown : w1.ownsRow H 3 1 (.slice (some ⟨gg, 0, none⟩) (ys.length + 1) cap) (ys.length + 1) (ys.map iv ++ [iv x])) (hgrow : w2.grownBy w1 u.ownBlock) (hlt : gg < w1.heap.size) :
    TN wb H v vs xss (.slice (some ⟨gg, 0, none⟩) (ys.length + 1) cap) (ys ++ [x]) w1 := by
  have hu : ∀ k, u.ownBlock = some k → H ≤ k := fun k hk => (h.bi.own.lt k hk).1
  have hz := h.up.size
  have hz2 := hb.size
  have hlh := h.lh
  have hhs := h.hs
  have hsz := hgrow.size
  have hbelow : ∀ k, k < H → w1.heap[k]? = w.heap[k]? := fun k hk =>
    (hgrow.block k (by omega) (fun e => by have := hu k e.symm; omega)).trans (hb.block k (by omega))
  refine ⟨h.bo.of_blocks fun k _ hk _ => hbelow k hk, ⟨by rw [List.length_append, List.length_singleton, List.map_append]; exact hown, fun k hk => ?_⟩, hlh, by omega, ?_⟩
  · have : gg = k := by simpa [Value.ownBlock] using hk
    omega
  · exact (below_up h.up hb).grown hgrow (by omega) fun k hk => by have := hu k hk; omega
theorem IU.qu {wb v ys w w'} (h : IU wb v ys w) (k : Quiet w w') : IU wb v ys w' := h.next k.below
theorem TN.next {wb H v vs xss u ys w w'} (h : TN wb H v vs xss u ys w) (k : Below w.heap.size w w') : TN wb H v vs xss u ys w' := by
  have hhs := h.hs
  have hz := k.size
  exact ⟨h.bo.of_blocks fun g _ hg _ => k.block g (by omega), (h.bi.below k).mono k.size, h.lh, by omega, below_up h.up k⟩
theorem TN.qu {wb H v vs xss u ys w w'} (h : TN wb H v vs xss u ys w) (k : Quiet w w') : TN wb H v vs xss u ys w' := h.next k.below

/-- Places of a table in a list. -/
structure Pl (w : World) (X : Option Addr) (k c : Nat) (r : Nat → Nat) (n : Nat) : Prop where
  ints : Ints w X k c (lstN r k)
  lt : ∀ p, p < k → r p < n

end Go.Proofs.Ytlfljcemcaphcaa

/- Shares of one alone; the worst mean: by both programs. -/
namespace Go.Proofs.Ytlfljcemcaphcaa
open Go.RowKit

theorem alloc_set (w : World) (cs : Array Value) (t : TypeId) (i : Nat) (v : Value) : (w.alloc (.cells cs t)).setCell ⟨w.heap.size, i, none⟩ v = w.alloc (.cells (cs.setIfInBounds i v) t) := by
  unfold World.setCell World.alloc
  congr 1
  apply Array.ext
  · simp
  · intro j h1 h2
    simp only [Array.size_modify, Array.size_push] at h1
    rw [Array.getElem_modify]
    by_cases e : w.heap.size = j
    · subst e; simp
    · rw [if_neg e, Array.getElem_push_lt (by omega), Array.getElem_push_lt (by omega)]
def MadeO (w : World) (n i : Nat) (e : Ending) (w' : World) : Prop :=
  e = .returned (.slice (some ⟨w.heap.size, 0, none⟩) n n) ∧ OwnI w.heap.size w'.heap.size w' w.heap.size (some ⟨w.heap.size, 0, none⟩) n n (onl n i) ∧ Below w.heap.size w w'
theorem onl_own (w w1 : World) (n i : Nat) (hn : n ≤ 100) (hr : w1.rowIs w.heap.size 3 n (fun j => if j = i then .int .i64 1 else .int .i64 0)) :
    OwnI w.heap.size w1.heap.size w1 w.heap.size (some ⟨w.heap.size, 0, none⟩) n n (onl n i) :=
  OwnI.of_rowIs (onl_len n i) (by omega) (fun x hx => by
    obtain ⟨k, hk, rfl⟩ := List.mem_iff_getElem.1 hx
    rw [onl_len] at hk
    have := onl_bd (n := n) (i := i) hk
    rw [gi_get (by rw [onl_len]; exact hk)] at this
    omega) (Nat.le_refl _) hr.lt hr fun k hk => by
      show (if k = i then Value.int .i64 1 else Value.int .i64 0) = _
      rw [gi_onl hk]; split <;> rfl

end Go.Proofs.Ytlfljcemcaphcaa

/- Rows that are appended to in their places of a made slice; a part of a table, by the program. -/
namespace Go.Proofs.Ytlfljcemcaphcaa
open Go.RowKit

/-- A made slice of k rows, of which the first i are done, row i is under way, and the others are nil. -/
structure PU (wb : World) (k H i : Nat) (vs : Nat → Value) (xss : List (List Int)) (v : Value) (ys : List Int) (w : World) : Prop where
  top : w.rowIs wb.heap.size 43 k vs
  cur : i < k → vs i = v
  rest : ∀ p, i < p → p < k → vs p = .slice none 0 0
  ex : ∃ (G : Nat → Nat) (R : Nat → Option Addr) (C : Nat → Nat), (∀ p, p < i → vs p = .slice (R p) (gr xss p).length (C p) ∧ OwnI (wb.heap.size + 1) H w (G p) (R p) (gr xss p).length (C p) (gr xss p)) ∧
    ∀ j p, j < p → p < i → 0 < (gr xss j).length → 0 < (gr xss p).length → G j ≠ G p
  len : xss.length = i
  bi : BldI H w.heap.size w v ys
  lh : wb.heap.size + 1 ≤ H
  hs : H ≤ w.heap.size
  up : Below wb.heap.size wb w
theorem PU.start (wb : World) (k : Nat) : PU wb k (wb.heap.size + 1) 0 (fun _ => .slice none 0 0) [] (.slice none 0 0) [] (wb.alloc (.cells (madeCells #[.slice none 0 0] k) 43)) :=
  ⟨World.rowIs_made wb (.slice none 0 0) k 43, fun _ => rfl, fun _ _ _ => rfl, ⟨fun _ => 0, fun _ => none, fun _ => 0, fun p hp => absurd hp (by omega), fun j p _ hp => absurd hp (by omega)⟩, rfl, BldI.nil _ _ _, Nat.le_refl _, by simp, below_alloc _ _⟩
theorem PU.below {wb k H i vs xss v ys w w'} (h : PU wb k H i vs xss v ys w) (q : Below w.heap.size w w') : PU wb k H i vs xss v ys w' := by
  obtain ⟨G, R, C, h1, h2⟩ := h.ex
  have hz := q.size
  have hhs := h.hs
  exact ⟨h.top.of_block (q.block _ h.top.lt), h.cur, h.rest, ⟨G, R, C, fun p hp => ⟨(h1 p hp).1, (h1 p hp).2.below q⟩, h2⟩, h.len, (h.bi.below q).mono hz, h.lh, by omega, below_up h.up q⟩
theorem PU.qu {wb k H i vs xss v ys w w'} (h : PU wb k H i vs xss v ys w) (q : Quiet w w') : PU wb k H i vs xss v ys w' := h.below q.below
theorem PU.cell {wb k H i vs xss v ys w} (h : PU wb k H i vs xss v ys w) (hi : i < k) : w.cell? ⟨wb.heap.size, i, none⟩ = some v := by rw [h.top.cell hi, h.cur hi]
/-- Behind the append, before the store. -/
theorem PU.mid {wb k H i vs xss v ys w w2 w1} (h : PU wb k H i vs xss v ys w) (hb : Below w.heap.size w w2) (hgrow : w2.grownBy w1 v.ownBlock) :
    (∀ g, g < H → w1.heap[g]? = w.heap[g]?) ∧ Below wb.heap.size wb w1 ∧ w.heap.size ≤ w1.heap.size := by
  have hu : ∀ g, v.ownBlock = some g → H ≤ g := fun g hg => (h.bi.own.lt g hg).1
  have hz := hb.size
  have hz2 := hgrow.size
  have hhs := h.hs
  have hlh := h.lh
  have hbl : ∀ g, g < H → w1.heap[g]? = w.heap[g]? := fun g hg => (hgrow.block g (by omega) (fun e => by have := hu g e.symm; omega)).trans (hb.block g (by omega))
  refine ⟨hbl, ?_, by omega⟩
  exact (below_up h.up hb).grown hgrow (by have := h.up.size; omega) fun g hg => by have := hu g hg; omega
theorem PU.mid_cell {wb k H i vs xss v ys w w2 w1} (h : PU wb k H i vs xss v ys w) (hi : i < k) (hb : Below w.heap.size w w2) (hgrow : w2.grownBy w1 v.ownBlock) :
    w1.cell? ⟨wb.heap.size, i, none⟩ = some v ∧ w1.frozen? ⟨wb.heap.size, i, none⟩ = false := by
  have hlh := h.lh
  have h1 := h.top.of_block ((h.mid hb hgrow).1 _ (by omega))
  exact ⟨by rw [h1.cell hi, h.cur hi], h1.frozen i⟩
theorem PU.push {wb k H i vs xss v ys w w2 w1 x} {gg cap : Nat} (h : PU wb k H i vs xss v ys w) (_ : i < k) (hb : Below w.heap.size w w2)
    (hown : w1.ownsRow H 3 1 (.slice (some ⟨gg, 0, none⟩) (ys.length + 1) cap) (ys.length + 1) (ys.map iv ++ [iv x])) (hgrow : w2.grownBy w1 v.ownBlock) (hlt : gg < w1.heap.size) :
    PU wb k H i (fun j => if j = i then .slice (some ⟨gg, 0, none⟩) (ys.length + 1) cap else vs j) xss (.slice (some ⟨gg, 0, none⟩) (ys.length + 1) cap) (ys ++ [x])
      (w1.setCell ⟨wb.heap.size, i, none⟩ (.slice (some ⟨gg, 0, none⟩) (ys.length + 1) cap)) := by
  obtain ⟨hbl, hup, hsz⟩ := h.mid hb hgrow
  obtain ⟨G, R, C, h1, h2⟩ := h.ex
  have hlh := h.lh
  have hhs := h.hs
  have hset : ∀ g, g ≠ wb.heap.size → (w1.setCell ⟨wb.heap.size, i, none⟩ (.slice (some ⟨gg, 0, none⟩) (ys.length + 1) cap)).heap[g]? = w1.heap[g]? := fun g hg => Below.heap_setCell _ _ _ _ hg
  have hgl := (hown.lt gg rfl).1
  have hss : (w1.setCell ⟨wb.heap.size, i, none⟩ (.slice (some ⟨gg, 0, none⟩) (ys.length + 1) cap)).heap.size = w1.heap.size := by simp [World.setCell]
  refine ⟨(h.top.of_block (hbl _ (by omega))).set i _, fun _ => by simp, fun p hp hpk => ?_, ⟨G, R, C, fun p hp => ⟨?_, (h1 p hp).2.of_block fun hn => ?_⟩, h2⟩, h.len, ⟨?_, fun g hg => ?_⟩, hlh, by omega, hup.setCell (p := ⟨wb.heap.size, i, none⟩) (Nat.le_refl _) _⟩
  · show (if p = i then _ else vs p) = _
    rw [if_neg (by omega)]; exact h.rest p hp hpk
  · show (if p = i then _ else vs p) = _
    rw [if_neg (by omega)]; exact (h1 p hp).1
  · obtain ⟨_, _, q1, q2, _⟩ := (h1 p hp).2.own hn
    exact (hset _ (by omega)).trans (hbl _ q2)
  · rw [List.length_append, List.length_singleton, List.map_append]
    exact blk_kept hown fun g hg => hset g (by
      have : gg = g := by simpa [Value.ownBlock] using hg
      omega)
  · have : gg = g := by simpa [Value.ownBlock] using hg
    omega
theorem PU.next {wb k H i vs xss ys w} {A : Option Addr} {c : Nat} (h : PU wb k H i vs xss (.slice A ys.length c) ys w) (hi : i < k) (hm : ys.length ≤ 100) (hb : ∀ y ∈ ys, -1000000000000000 ≤ y ∧ y ≤ 1000000000000000) :
    PU wb k w.heap.size (i + 1) vs (xss ++ [ys]) (.slice none 0 0) [] w := by
  obtain ⟨G, R, C, h1, h2⟩ := h.ex
  have hl := h.len
  have hlh := h.lh
  have hhs := h.hs
  obtain ⟨A', n', c', g, e, hn, ho, _⟩ := h.bi.owns (by omega) (fun t ht => by have := hb t ht; omega)
  injection e with e1 e2 e3
  subst e1
  subst e2
  subst e3
  refine ⟨h.top, fun hk => h.rest _ (by omega) hk, fun p hp hpk => h.rest p (by omega) hpk, ⟨fun p => if p < i then G p else g, fun p => if p < i then R p else A, fun p => if p < i then C p else c, fun p hp => ?_, fun j p hj hp hj0 hp0 => ?_⟩, by rw [List.length_append, List.length_singleton, hl], BldI.nil _ _ _, by omega, Nat.le_refl _, h.up⟩
  · by_cases e : p < i
    · simp only [if_pos e]
      rw [gr_snoc_lt (by omega)]
      exact ⟨(h1 p e).1, (h1 p e).2.mono (Nat.le_refl _) hhs⟩
    · obtain rfl : p = xss.length := by omega
      simp only [if_neg e]
      rw [gr_snoc_eq]
      exact ⟨by rw [hl]; exact h.cur hi, ho.mono hlh (Nat.le_refl _)⟩
  · have ej : j < i := by omega
    simp only [if_pos ej]
    rw [gr_snoc_lt (by omega)] at hj0
    by_cases e : p < i
    · simp only [if_pos e]
      rw [gr_snoc_lt (by omega)] at hp0
      exact h2 j p hj e hj0 hp0
    · obtain rfl : p = xss.length := by omega
      simp only [if_neg e]
      rw [gr_snoc_eq] at hp0
      obtain ⟨_, _, _, q, _⟩ := (h1 j ej).2.own hj0
      obtain ⟨_, _, q', _⟩ := ho.own hp0
      omega
theorem PU.done {wb k H vs xss v ys w} (h : PU wb k H k vs xss v ys w) (hm : k ≤ 1000) : OwnR wb.heap.size w.heap.size w wb.heap.size (some ⟨wb.heap.size, 0, none⟩) k k xss := by
  obtain ⟨G, R, C, h1, h2⟩ := h.ex
  refine ⟨h.len, Nat.le_refl _, by omega, fun _ => ⟨0, G, R, C, rfl, Nat.le_refl _, h.top.lt, fun p hp => ⟨by rw [Nat.zero_add]; exact h.top.frozen p, by rw [Nat.zero_add, h.top.cell hp, (h1 p hp).1], (h1 p hp).2.mono (by omega) h.hs, fun hn e => ?_⟩, h2⟩⟩
  obtain ⟨_, _, q, _⟩ := (h1 p hp).2.own hn
  omega

end Go.Proofs.Ytlfljcemcaphcaa

/- A row without the number of one column, by the program. -/
namespace Go.Proofs.Ytlfljcemcaphcaa
open Go.RowKit

theorem addr_add (b o i : Nat) : (⟨b, o, none⟩ : Addr).add i = ⟨b, o + i, none⟩ := by unfold Addr.add; split <;> simp_all
theorem rowW_parts {xs : List Int} {j : Nat} : ∀ {n : Nat}, n ≤ xs.length → rowW xs j n = xs.take (min j n) ++ (xs.take n).drop (j + 1)
  | 0, _ => by simp [rowW]
  | n + 1, h => by
    have ih := rowW_parts (xs := xs) (j := j) (n := n) (by omega)
    have ht : xs.take (n + 1) = xs.take n ++ [gi xs n] := by rw [List.take_succ_eq_append_getElem (by omega), gi_get (by omega)]
    by_cases e : n = j
    · subst e
      rw [rowW_at, ih, ht, show min n (n + 1) = n by omega, show min n n = n by omega]
      congr 1
      rw [List.drop_eq_nil_of_le (by simp; omega), List.drop_eq_nil_of_le (by simp; omega)]
    · rw [rowW_ne e, ih, ht]
      by_cases hlt : n < j
      · rw [show min j n = n by omega, show min j (n + 1) = n + 1 by omega, ht, show (xs.take n).drop (j + 1) = [] from List.drop_eq_nil_of_le (by rw [List.length_take]; omega), List.drop_eq_nil_of_le (by simp; omega)]
        simp
      · rw [show min j n = j by omega, show min j (n + 1) = j by omega, List.drop_append_of_le_length (by simp; omega), List.append_assoc]
theorem rowW_cut {xs : List Int} {j : Nat} (h : j < xs.length) : rowW xs j xs.length = xs.take j ++ xs.drop (j + 1) := by
  rw [rowW_parts (Nat.le_refl _), List.take_length, show min j xs.length = j by omega]
theorem news_take {w : World} {b o n : Nat} {xs : List Int} (hl : xs.length = n) (hc : ∀ k, k < n → w.cell? ⟨b, o + k, none⟩ = some (.int .i64 (gi xs k))) (j : Nat) :
    ∀ i u, ((xs.take j).map iv)[i]? = some u → w.cell? ((⟨b, o, none⟩ : Addr).add i) = some u := fun i u h => by
  rw [List.getElem?_map] at h
  obtain ⟨x, hx, rfl⟩ := Option.map_eq_some_iff.1 h
  obtain ⟨h1, h2⟩ := List.getElem?_eq_some_iff.1 hx
  rw [List.length_take] at h1
  rw [addr_add, hc i (by omega), gi_get (by omega)]
  rw [List.getElem_take] at h2
  rw [h2]; rfl
theorem news_drop {w : World} {b o n : Nat} {xs : List Int} (hl : xs.length = n) (hc : ∀ k, k < n → w.cell? ⟨b, o + k, none⟩ = some (.int .i64 (gi xs k))) (j : Nat) :
    ∀ i u, ((xs.drop j).map iv)[i]? = some u → w.cell? ((⟨b, o + j, none⟩ : Addr).add i) = some u := fun i u h => by
  rw [List.getElem?_map] at h
  obtain ⟨x, hx, rfl⟩ := Option.map_eq_some_iff.1 h
  obtain ⟨h1, h2⟩ := List.getElem?_eq_some_iff.1 hx
  rw [List.length_drop] at h1
  rw [addr_add, Nat.add_assoc, hc (j + i) (by omega), gi_get (by omega)]
  rw [List.getElem_drop] at h2
  rw [h2]; rfl
theorem ones_map (xs : List Int) : ∀ u ∈ xs.map iv, u.oneCell' = true := fun u hu => by
  obtain ⟨x, _, rfl⟩ := List.mem_map.1 hu; rfl
/-- Some numbers more, appended without a new array for them. -/
theorem IU.pushs {wb v v' ys zs w w'} (h : IU wb v ys w) (hown : w'.ownsRow wb.heap.size 3 1 v' (ys.length + zs.length) (ys.map iv ++ zs.map iv))
    (hgrow : w.grownBy w' v.ownBlock) : IU wb v' (ys ++ zs) w' := by
  have hu : ∀ k, v.ownBlock = some k → wb.heap.size ≤ k := fun k hk => (h.bi.own.lt k hk).1
  refine ⟨⟨by rw [List.length_append, List.map_append]; exact hown, fun k _ => ?_⟩, h.up.grown hgrow h.up.size fun k hk => hu k hk⟩
  rename_i hk
  exact (hown.lt k hk).2
theorem IU.made (wb : World) (cap : Nat) (hm : cap ≤ 100) : IU wb (.slice (some ⟨wb.heap.size, 0, none⟩) 0 cap) [] (wb.alloc (.cells (Array.replicate cap (.int .i64 0)) 3)) :=
  ⟨⟨World.ownsRow_made (e := 3) (size := 1) wb _ cap (Nat.le_refl _) (by unfold maxLen; omega) (by simp), fun k hk => by simp [Value.ownBlock] at hk; simp; omega⟩, below_alloc _ _⟩

end Go.Proofs.Ytlfljcemcaphcaa

/- Cofactors and determinants, by the program. -/
namespace Go.Proofs.Ytlfljcemcaphcaa
open Go.RowKit
open V (sumN detN rowC colC cofN minorN skip sgn)

theorem TM.nil (wb : World) : TM wb (.slice none 0 0) [] [] wb := ⟨Bld.nil _ _ _, Below.refl _ _⟩
theorem TM.push {wb v v' vs xss w w1 w' r} {A : Option Addr} {c g : Nat} (h : TM wb v vs xss w) (hk : Below w.heap.size w w1) (hr : OwnI w.heap.size w1.heap.size w1 g A r.length c r)
    (hown : w'.ownsRow wb.heap.size 43 1 v' (xss.length + 1) (vs ++ [.slice A r.length c])) (hgrow : (w1.alloc (.cells #[.slice A r.length c] 43)).grownBy w' v.ownBlock)
    (hat : v'.ownBlock = v.ownBlock ∨ v'.ownBlock = some (w1.heap.size + 1)) : TM wb v' (vs ++ [.slice A r.length c]) (xss ++ [r]) w' := by
  have hv : ∀ k, v.ownBlock = some k → wb.heap.size ≤ k := fun k hk => (h.bo.own.lt k hk).1
  have hb := below_alloc w1 (.cells #[.slice A r.length c] 43)
  have hz := h.up.size
  have hz1 := hk.size
  refine ⟨Bld.push (hi := w.heap.size) h.bo (below_up hk hb) ((hr.below hb).mono (Nat.le_refl _) (by simp)) hown hgrow (by simpa using hat) hz (Nat.le_refl _), ?_⟩
  exact (below_up h.up (below_up hk hb)).grown hgrow (by simp; omega) fun k hk => hv k hk
theorem TM.next {wb v vs xss w w'} (h : TM wb v vs xss w) (k : Below w.heap.size w w') : TM wb v vs xss w' := ⟨(h.bo.below k).mono k.size, below_up h.up k⟩

theorem cofN_odd {k : Nat} {f : Nat → Nat → Int} {i j : Nat} (h : (i + j) % 2 = 1) : cofN k f i j = -(detN (k - 1) (minorN f i j)) := by
  rw [cofN, sgn, if_pos h]; omega
theorem cofN_even {k : Nat} {f : Nat → Nat → Int} {i j : Nat} (h : ¬ (i + j) % 2 = 1) : cofN k f i j = detN (k - 1) (minorN f i j) := by
  rw [cofN, sgn, if_neg h]; omega

/-- The terms of a determinant. -/
def detT (n : Nat) (f : Nat → Nat → Int) (j : Nat) : List Int := (List.range j).map fun j => f 0 j * cofN n f 0 j
theorem detT_succ (n : Nat) (f : Nat → Nat → Int) (j : Nat) : detT n f (j + 1) = detT n f j ++ [f 0 j * cofN n f 0 j] := by simp [detT, List.range_succ]
theorem detT_len (n : Nat) (f : Nat → Nat → Int) (j : Nat) : (detT n f j).length = j := by simp [detT]
theorem detT_tot (k : Nat) (f : Nat → Nat → Int) : ∀ j, tot (detT (k + 1) f j) = detS k f j
  | 0 => rfl
  | j + 1 => by
    rw [detT_succ, tot_snoc, detT_tot k f j, detS_succ, cofN, Nat.zero_add, Nat.add_sub_cancel]
    grind
theorem detT_bd {n : Nat} {f : Nat → Nat → Int} (hn : n ≤ 3) (h : Ab n f) {j : Nat} (hj : j ≤ n) : ∀ x ∈ detT n f j, -10000000 ≤ x ∧ x ≤ 10000000 := fun x hx => by
  obtain ⟨i, hi, rfl⟩ := List.mem_map.1 hx
  have hi := List.mem_range.1 hi
  have h1 := mulbd (h 0 i (by omega) (by omega)) (cof_bd hn h (i := 0) (j := i) (by omega) (by omega))
  omega
theorem sumOk_of {xs : List Int} (hl : xs.length ≤ 100) (h : ∀ x ∈ xs, -10000000 ≤ x ∧ x ≤ 10000000) : SumOk xs := ⟨by omega, fun j hj => by have := h _ (gi_mem hj); omega⟩
theorem IU.ints {wb ys w} {A : Option Addr} {c : Nat} (h : IU wb (.slice A ys.length c) ys w) (hm : ys.length ≤ 100) (hb : ∀ y ∈ ys, -1000000000000000 ≤ y ∧ y ≤ 1000000000000000) : Ints w A ys.length c ys := by
  obtain ⟨A', n, c', g, e, _, ho, _⟩ := h.new hm hb
  injection e with e
  injection e with e1 e2 e3
  subst e1
  subst e2
  subst e3
  exact ho.ints

end Go.Proofs.Ytlfljcemcaphcaa

/- TraitChange, by both programs. -/
namespace Go.Proofs.Ytlfljcemcaphcaa
open Go.RowKit

def tzF (a : List (List Int)) : Nat → Int := sf (fun i => g2 a i 0)
def tpF (a : List (List Int)) : Nat → Int := sf (fun i => g2 a i 0 * g2 a i 1)
def tdF (a : List (List Int)) : Nat → Int := sf (fun i => (g2 a i 2 - g2 a i 0) * g2 a i 1)
theorem xy_bd {x y A : Int} (hx : -A ≤ x ∧ x ≤ A) (hy : 0 ≤ y ∧ y ≤ 9) (hA : 0 ≤ A) : -(A * 9) ≤ x * y ∧ x * y ≤ A * 9 := by
  have h1 : x * y ≤ A * y := Int.mul_le_mul_of_nonneg_right hx.2 hy.1
  have h2 : -A * y ≤ x * y := Int.mul_le_mul_of_nonneg_right hx.1 hy.1
  have h3 : A * y ≤ A * 9 := Int.mul_le_mul_of_nonneg_left hy.2 hA
  have h4 : -A * y = -(A * y) := Int.neg_mul A y
  omega
theorem VTr.row {a : List (List Int)} (v : VTr a) {i : Nat} (hi : i < a.length) : (-9 ≤ g2 a i 0 ∧ g2 a i 0 ≤ 9) ∧ (0 ≤ g2 a i 1 ∧ g2 a i 1 ≤ 9) ∧ (-9 ≤ g2 a i 2 ∧ g2 a i 2 ≤ 9) := (v.rows i hi).2
theorem VTr.prod {a : List (List Int)} (v : VTr a) {i : Nat} (hi : i < a.length) : (-81 ≤ g2 a i 0 * g2 a i 1 ∧ g2 a i 0 * g2 a i 1 ≤ 81) ∧ (-162 ≤ (g2 a i 2 - g2 a i 0) * g2 a i 1 ∧ (g2 a i 2 - g2 a i 0) * g2 a i 1 ≤ 162) := by
  obtain ⟨h0, h1, h2⟩ := v.row hi
  have a1 := xy_bd (A := 9) h0 h1 (by omega)
  have a2 := xy_bd (x := g2 a i 2 - g2 a i 0) (A := 18) (by omega) h1 (by omega)
  omega
theorem VTr.sums {a : List (List Int)} (v : VTr a) {k : Nat} (hk : k ≤ a.length) : (-54 ≤ tzF a k ∧ tzF a k ≤ 54) ∧ (0 ≤ twF a k ∧ twF a k ≤ 54) ∧ (-486 ≤ tpF a k ∧ tpF a k ≤ 486) ∧ (-972 ≤ tdF a k ∧ tdF a k ≤ 972) := by
  have n6 := v.n6
  have h1 := sf_bd (g := fun i => g2 a i 0) (lo := -9) (hi := 9) (k := k) (fun j hj => (v.row (by omega)).1)
  have h2 := sf_bd (g := fun i => g2 a i 1) (lo := 0) (hi := 9) (k := k) (fun j hj => (v.row (by omega)).2.1)
  have h3 := sf_bd (g := fun i => g2 a i 0 * g2 a i 1) (lo := -81) (hi := 81) (k := k) (fun j hj => (v.prod (by omega)).1)
  have h4 := sf_bd (g := fun i => (g2 a i 2 - g2 a i 0) * g2 a i 1) (lo := -162) (hi := 162) (k := k) (fun j hj => (v.prod (by omega)).2)
  unfold tzF twF tpF tdF
  omega
theorem VTr.fin {a : List (List Int)} (v : VTr a) {n : Nat} (hn : a.length = n) : (-2916 ≤ tpF a n * n ∧ tpF a n * n ≤ 2916) ∧ (-2916 ≤ tzF a n * twF a n ∧ tzF a n * twF a n ≤ 2916) ∧ (1 ≤ (n : Int) * twF a n ∧ (n : Int) * twF a n ≤ 324) ∧ 1 ≤ twF a n := by
  obtain ⟨⟨z1, z2⟩, ⟨w1, w2⟩, ⟨p1, p2⟩, _⟩ := v.sums (k := n) (by omega)
  have n1 := v.n1
  have n6 := v.n6
  have hp := v.pos
  rw [hn] at hp
  have e1 : tpF a n * n ≤ 486 * n := Int.mul_le_mul_of_nonneg_right p2 (by omega)
  have e2 : -486 * (n : Int) ≤ tpF a n * n := Int.mul_le_mul_of_nonneg_right p1 (by omega)
  have e3 : tzF a n * twF a n ≤ 54 * twF a n := Int.mul_le_mul_of_nonneg_right z2 w1
  have e4 : -54 * twF a n ≤ tzF a n * twF a n := Int.mul_le_mul_of_nonneg_right z1 w1
  have e5 : (n : Int) * twF a n ≤ 6 * 54 := Int.mul_le_mul (by omega) w2 w1 (by omega)
  have e6 : 1 * 1 ≤ (n : Int) * twF a n := Int.mul_le_mul (by omega) (by omega) (by omega) (by omega)
  omega
noncomputable def trP (a : List (List Int)) : Value := if pb (VTr a) = true then frV (tpF a a.length * (a.length : Int) - tzF a a.length * twF a a.length) ((a.length : Int) * twF a a.length) else .agg #[.int .i64 0, .int .i64 0]
noncomputable def trQ (a : List (List Int)) : Value := if pb (VTr a) = true then frV (tdF a a.length) (twF a a.length) else .agg #[.int .i64 0, .int .i64 0]
theorem tr_yes {a n} (h : VTr a) (hn : a.length = n) : trP a = frV (tpF a n * n - tzF a n * twF a n) (n * twF a n) ∧ trQ a = frV (tdF a n) (twF a n) := by
  rw [trP, trQ, if_pos (pb_true h), if_pos (pb_true h), hn]; exact ⟨rfl, rfl⟩
theorem tr_no {a} (h : ¬ VTr a) : trP a = .agg #[.int .i64 0, .int .i64 0] ∧ trQ a = .agg #[.int .i64 0, .int .i64 0] := by
  rw [trP, trQ, if_neg (by rw [pb_false h]; decide), if_neg (by rw [pb_false h]; decide)]; exact ⟨rfl, rfl⟩
theorem tr_form (a : List (List Int)) : ∃ U D V E, trP a = .agg #[.int .i64 U, .int .i64 D] ∧ trQ a = .agg #[.int .i64 V, .int .i64 E] := by
  unfold trP trQ
  split
  · exact ⟨_, _, _, _, rfl, rfl⟩
  · exact ⟨_, _, _, _, rfl, rfl⟩
/-- Both results' boxes. -/
structure T2X (w W : World) : Prop where
  b0 : Blk W w.heap.size 28 #[.int .i64 0, .int .i64 0]
  b1 : Blk W (w.heap.size + 1) 28 #[.int .i64 0, .int .i64 0]
  up : Below w.heap.size w W
theorem T2X.start (w : World) : T2X w ((w.alloc (.cells #[.int .i64 0, .int .i64 0] 28)).alloc (.cells #[.int .i64 0, .int .i64 0] 28)) := by
  have b := blk_new (w.alloc (.cells #[.int .i64 0, .int .i64 0] 28)) 28 #[.int .i64 0, .int .i64 0]
  rw [World.size_alloc] at b
  exact ⟨blk_old (blk_new w _ _) _, b, below_up (below_alloc _ _) (below_alloc _ _)⟩
theorem T2X.next {w W W'} (h : T2X w W) (k : Below W.heap.size W W') : T2X w W' := ⟨blk_below h.b0 k, blk_below h.b1 k, below_up h.up k⟩
set_option maxRecDepth 100000 in
set_option maxHeartbeats 4000000 in
theorem TraitChange_spec (A : Option Addr) (n c : Nat) (a : List (List Int)) (w : World) (hx : IntRows w A n c a) :
    Calls Try.prog 25 #[.slice A n c] w (Ret (.tuple #[trP a, trQ a, .bool (pb (VTr a))]) w) := by
  have hm := hx.max
  have HLN := Lib.hid hx.len
  have HT2 := Lib.hid (T2X.start w)
  have HXA := Lib.hid (hx.keep (Keep.below HT2.out.up))
  clear hx
  have HC := Lib.hid (validTraits_any A n c a _ HXA.out)
  by_cases hv : VTr a
  · rw [pb_true hv] at HC ⊢
    have hn6 : n ≤ 6 := by rw [← HLN.out]; exact hv.n6
    have HV := Lib.hid hv
    have HY := Lib.hid (tr_yes hv HLN.out)
    rw [HY.out.1, HY.out.2]
    obtain ⟨⟨fp1, fp2⟩, ⟨fz1, fz2⟩, ⟨fn1, fn2⟩, fw⟩ := hv.fin HLN.out
    obtain ⟨_, ⟨_, fw2⟩, _, ⟨fd1, fd2⟩⟩ := hv.sums (k := n) (by rw [HLN.out]; exact Nat.le_refl _)
    have HC1 := Lib.hid (fun W => frac_any (tpF a n * n - tzF a n * twF a n) (n * twF a n) W (by unfold Mid; omega) (by unfold Mid; omega) fn1)
    have HC2 := Lib.hid (fun W => frac_any (tdF a n) (twF a n) W (by unfold Mid; omega) (by unfold Mid; omega) fw)
    obtain ⟨U, D, hf1⟩ : ∃ U D, frV (tpF a n * n - tzF a n * twF a n) (n * twF a n) = .agg #[.int .i64 U, .int .i64 D] := ⟨_, _, rfl⟩
    obtain ⟨V, E, hf2⟩ : ∃ V E, frV (tdF a n) (twF a n) = .agg #[.int .i64 V, .int .i64 E] := ⟨_, _, rfl⟩
    rw [hf1] at HC1 ⊢
    rw [hf2] at HC2 ⊢
    clear hf1 hf2 HY hv
    go_enter Try.func25, Try.ntmps25
    go_wp2_with fail
    refine HC.out.mono ?_
    rintro e w1 ⟨rfl, hq⟩
    have hb := hq.below (B := ((w.alloc (.cells #[.int .i64 0, .int .i64 0] 28)).alloc (.cells #[.int .i64 0, .int .i64 0] 28)).heap.size)
    have HT2 := Lib.hid (HT2.out.next hb)
    have HXA := Lib.hid (HXA.out.keep (Keep.below hb))
    clear hb hq HC
    go_wp2
    go_loopw [6, 7, 8, 9, 10] (fun z s p d i wr => ∃ k : Nat, k ≤ n ∧ i = .int .i64 k ∧ z = .int .i64 (tzF a k) ∧ s = .int .i64 (twF a k) ∧ p = .int .i64 (tpF a k) ∧ d = .int .i64 (tdF a k) ∧ Quiet w1 wr) (fun _ _ _ _ i _ => n - (intOf i).toNat)
    case atStart => exact ⟨0, Nat.zero_le _, rfl, rfl, rfl, rfl, rfl, Quiet.refl _⟩
    case round =>
      obtain ⟨k, hk, rfl, rfl, rfl, rfl, rfl, q, rfl⟩ := hrel
      by_cases hlt : k < n
      · obtain ⟨b, o, rfl, hc⟩ := HXA.out.at_ (by omega)
        obtain ⟨R, cc, c1, hR⟩ := hc k hlt
        have hka : k < a.length := by rw [HLN.out]; exact hlt
        have hlen := (HV.out.rows k hka).1
        rw [hlen] at c1 hR
        obtain ⟨b2, o2, rfl, hc2⟩ := hR.at_ (by omega)
        have c20 := hc2 0 (by omega)
        have c21 := hc2 1 (by omega)
        have c22 := hc2 2 (by omega)
        simp only [Nat.add_zero] at c20
        replace c20 : w1.cell? ⟨b2, o2, none⟩ = some (.int .i64 (g2 a k 0)) := c20
        replace c21 : w1.cell? ⟨b2, o2 + 1, none⟩ = some (.int .i64 (g2 a k 1)) := c21
        replace c22 : w1.cell? ⟨b2, o2 + 2, none⟩ = some (.int .i64 (g2 a k 2)) := c22
        obtain ⟨⟨x1, x2⟩, ⟨y1, y2⟩, ⟨z1, z2⟩⟩ := HV.out.row hka
        obtain ⟨⟨p1, p2⟩, ⟨d1, d2⟩⟩ := HV.out.prod hka
        obtain ⟨⟨s1, s2⟩, ⟨s3, s4⟩, ⟨s5, s6⟩, ⟨s7, s8⟩⟩ := HV.out.sums (k := k) (by omega)
        have HS : Hid ((tzF a (k + 1) = tzF a k + g2 a k 0 ∧ twF a (k + 1) = twF a k + g2 a k 1) ∧ (tpF a (k + 1) = tpF a k + g2 a k 0 * g2 a k 1 ∧ tdF a (k + 1) = tdF a k + (g2 a k 2 - g2 a k 0) * g2 a k 1)) := Lib.hid ⟨⟨rfl, rfl⟩, rfl, rfl⟩
        clear hc hc2 hR hlen hka
        generalize g2 a k 0 = x at *
        generalize g2 a k 1 = y at *
        generalize g2 a k 2 = z at *
        generalize tzF a k = TZ at *
        generalize twF a k = TW at *
        generalize tpF a k = TP at *
        generalize tdF a k = TD at *
        go_wp2
        go_quiet (fail)
        go_wp2
        go_quiet (fail)
        go_wp2
        go_roundw
        case rel => exact ⟨k + 1, by omega, by go_num, by rw [HS.out.1.1], by rw [HS.out.1.2], by rw [HS.out.2.1], by rw [HS.out.2.2], by first | exact ⟨_, rfl⟩ | exact Quiet.two _ _ _⟩
        case measure => simp [intOf]; omega
      · obtain rfl : n = k := by omega
        have HT2 := Lib.hid (HT2.out.next (Quiet.below (B := w1.heap.size) (w' := w1.drewN q) ⟨q, rfl⟩))
        generalize w1.drewN q = w2 at *
        generalize hTZ : tzF a n = TZ at *
        generalize hTW : twF a n = TW at *
        generalize hTP : tpF a n = TP at *
        generalize hTD : tdF a n = TD at *
        clear hTZ hTW hTP hTD
        go_wp2_with fail
        refine (HC1.out _).mono ?_
        rintro e w3 ⟨rfl, hb⟩
        have HT2 := Lib.hid (HT2.out.next hb)
        clear hb HC1
        go_wp2_with fail
        refine (HC2.out _).mono ?_
        rintro e w4 ⟨rfl, hb⟩
        have HT2 := Lib.hid (HT2.out.next hb)
        clear hb HC2
        have d0 := blk_cell HT2.out.b0 (i := 0) rfl
        have d1 := blk_cell HT2.out.b0 (i := 1) rfl
        have d2 := blk_cell HT2.out.b1 (i := 0) rfl
        have d3 := blk_cell HT2.out.b1 (i := 1) rfl
        have f0 := blk_frozen HT2.out.b0 0
        have f1 := blk_frozen HT2.out.b0 1
        have f2 := blk_frozen HT2.out.b1 0
        have f3 := blk_frozen HT2.out.b1 1
        go_wp2
        clear d0 d1 d2 d3 f0 f1 f2 f3
        have B0 := blk_other (p := ⟨w.heap.size + 1, 1, none⟩) (blk_other (p := ⟨w.heap.size + 1, 0, none⟩) (blk_set (blk_set HT2.out.b0 0 (.int .i64 U)) 1 (.int .i64 D)) (by show w.heap.size ≠ w.heap.size + 1; omega) (.int .i64 V)) (by show w.heap.size ≠ w.heap.size + 1; omega) (.int .i64 E)
        have B1 := blk_set (blk_set (blk_other (p := ⟨w.heap.size, 1, none⟩) (blk_other (p := ⟨w.heap.size, 0, none⟩) HT2.out.b1 (by show w.heap.size + 1 ≠ w.heap.size; omega) (.int .i64 U)) (by show w.heap.size + 1 ≠ w.heap.size; omega) (.int .i64 D)) 0 (.int .i64 V)) 1 (.int .i64 E)
        have r0 := blk_cell B0 (i := 0) (v := .int .i64 U) rfl
        have r1 := blk_cell B0 (i := 1) (v := .int .i64 D) rfl
        have r2 := blk_cell B1 (i := 0) (v := .int .i64 V) rfl
        have r3 := blk_cell B1 (i := 1) (v := .int .i64 E) rfl
        have HBX := Lib.hid ((((HT2.out.up.setCell (p := ⟨w.heap.size, 0, none⟩) (Nat.le_refl _) (.int .i64 U)).setCell (p := ⟨w.heap.size, 1, none⟩) (Nat.le_refl _) (.int .i64 D)).setCell (p := ⟨w.heap.size + 1, 0, none⟩) (Nat.le_succ _) (.int .i64 V)).setCell (p := ⟨w.heap.size + 1, 1, none⟩) (Nat.le_succ _) (.int .i64 E))
        clear B0 B1
        generalize (((w4.setCell ⟨w.heap.size, 0, none⟩ (.int .i64 U)).setCell ⟨w.heap.size, 1, none⟩ (.int .i64 D)).setCell ⟨w.heap.size + 1, 0, none⟩ (.int .i64 V)).setCell ⟨w.heap.size + 1, 1, none⟩ (.int .i64 E) = WE at *
        refine bodyPost_ret (v := .tuple #[.agg #[.int .i64 U, .int .i64 D], .agg #[.int .i64 V, .int .i64 E], .bool true]) (by simp [results, Try.results25, go_sem, r0, r1, r2, r3]) rfl ?_
        exact ⟨rfl, HBX.out⟩
  · rw [pb_false hv] at HC ⊢
    rw [(tr_no hv).1, (tr_no hv).2]
    clear hv
    go_enter Try.func25, Try.ntmps25
    go_wp2_with fail
    refine HC.out.mono ?_
    rintro e w1 ⟨rfl, hq⟩
    have HT2 := Lib.hid (HT2.out.next (hq.below (B := ((w.alloc (.cells #[.int .i64 0, .int .i64 0] 28)).alloc (.cells #[.int .i64 0, .int .i64 0] 28)).heap.size)))
    clear hq HC
    have d0 := blk_cell HT2.out.b0 (i := 0) rfl
    have d1 := blk_cell HT2.out.b0 (i := 1) rfl
    have d2 := blk_cell HT2.out.b1 (i := 0) rfl
    have d3 := blk_cell HT2.out.b1 (i := 1) rfl
    have f0 := blk_frozen HT2.out.b0 0
    have f1 := blk_frozen HT2.out.b0 1
    have f2 := blk_frozen HT2.out.b1 0
    have f3 := blk_frozen HT2.out.b1 1
    go_wp2
    clear d0 d1 d2 d3 f0 f1 f2 f3
    have B0 := blk_other (p := ⟨w.heap.size + 1, 1, none⟩) (blk_other (p := ⟨w.heap.size + 1, 0, none⟩) (blk_set (blk_set HT2.out.b0 0 (.int .i64 0)) 1 (.int .i64 0)) (by show w.heap.size ≠ w.heap.size + 1; omega) (.int .i64 0)) (by show w.heap.size ≠ w.heap.size + 1; omega) (.int .i64 0)
    have B1 := blk_set (blk_set (blk_other (p := ⟨w.heap.size, 1, none⟩) (blk_other (p := ⟨w.heap.size, 0, none⟩) HT2.out.b1 (by show w.heap.size + 1 ≠ w.heap.size; omega) (.int .i64 0)) (by show w.heap.size + 1 ≠ w.heap.size; omega) (.int .i64 0)) 0 (.int .i64 0)) 1 (.int .i64 0)
    have r0 := blk_cell B0 (i := 0) (v := .int .i64 0) rfl
    have r1 := blk_cell B0 (i := 1) (v := .int .i64 0) rfl
    have r2 := blk_cell B1 (i := 0) (v := .int .i64 0) rfl
    have r3 := blk_cell B1 (i := 1) (v := .int .i64 0) rfl
    have HBX := Lib.hid ((((HT2.out.up.setCell (p := ⟨w.heap.size, 0, none⟩) (Nat.le_refl _) (.int .i64 0)).setCell (p := ⟨w.heap.size, 1, none⟩) (Nat.le_refl _) (.int .i64 0)).setCell (p := ⟨w.heap.size + 1, 0, none⟩) (Nat.le_succ _) (.int .i64 0)).setCell (p := ⟨w.heap.size + 1, 1, none⟩) (Nat.le_succ _) (.int .i64 0))
    clear B0 B1
    generalize (((w1.setCell ⟨w.heap.size, 0, none⟩ (.int .i64 0)).setCell ⟨w.heap.size, 1, none⟩ (.int .i64 0)).setCell ⟨w.heap.size + 1, 0, none⟩ (.int .i64 0)).setCell ⟨w.heap.size + 1, 1, none⟩ (.int .i64 0) = WE at *
    refine bodyPost_ret (v := .tuple #[.agg #[.int .i64 0, .int .i64 0], .agg #[.int .i64 0, .int .i64 0], .bool false]) (by simp [results, Try.results25, go_sem, r0, r1, r2, r3]) rfl ?_
    exact ⟨rfl, HBX.out⟩

end Go.Proofs.Ytlfljcemcaphcaa

/- TraitChange, by the program. -/
namespace Go.Proofs.Ytlfljcemcaphcaa
open Go.RowKit

/-- Two lists under way, each in memory of its own. -/
structure TB (wb : World) (vp vg : Value) (ps gs : List Int) (w : World) : Prop where
  p : BldI wb.heap.size w.heap.size w vp ps
  g : BldI wb.heap.size w.heap.size w vg gs
  ne : ∀ k, vp.ownBlock = some k → vg.ownBlock = some k → False
  up : Below wb.heap.size wb w
theorem TB.nil (w : World) : TB w (.slice none 0 0) (.slice none 0 0) [] [] w := ⟨BldI.nil _ _ _, BldI.nil _ _ _, fun k h => by simp [Value.ownBlock] at h, Below.refl _ _⟩
theorem TB.next {wb vp vg ps gs w w'} (h : TB wb vp vg ps gs w) (k : Below w.heap.size w w') : TB wb vp vg ps gs w' := ⟨(h.p.below k).mono k.size, (h.g.below k).mono k.size, h.ne, below_up h.up k⟩
theorem TB.swap {wb vp vg ps gs w} (h : TB wb vp vg ps gs w) : TB wb vg vp gs ps w := ⟨h.g, h.p, fun k a b => h.ne k b a, h.up⟩
theorem TB.push {wb vp vg v' ps gs w w' x} (h : TB wb vp vg ps gs w) (hown : w'.ownsRow wb.heap.size 3 1 v' (ps.length + 1) (ps.map iv ++ [iv x]))
    (hgrow : (w.alloc (.cells #[iv x] 3)).grownBy w' vp.ownBlock) (hat : v'.ownBlock = vp.ownBlock ∨ v'.ownBlock = some (w.heap.size + 1)) : TB wb v' vg (ps ++ [x]) gs w' := by
  have hi := IU.push ⟨h.p, h.up⟩ hown hgrow hat
  have hsz := hgrow.size
  simp only [World.size_alloc] at hsz
  refine ⟨hi.bi, ⟨blk_kept h.g.own fun g hg => ?_, fun k hk => by have := h.g.hi_ k hk; omega⟩, fun k a b => ?_, hi.up⟩
  · have hlt := h.g.hi_ g hg
    exact (hgrow.block g (by simp; omega) (fun e => h.ne g e.symm hg)).trans (Below.heap_alloc _ _ _ hlt)
  · rcases hat with hat | hat
    · exact h.ne k (by rw [← hat]; exact a) b
    · have := h.g.hi_ k b
      rw [hat] at a
      injection a with a
      omega
theorem tl_mem {g : Nat → Int} : ∀ {k : Nat} {t : Int}, t ∈ tl g k → ∃ i, i < k ∧ t = g i
  | 0, t, h => by simp [tl] at h
  | k + 1, t, h => by
    rw [tl, List.mem_append] at h
    rcases h with h | h
    · obtain ⟨i, hi, e⟩ := tl_mem h; exact ⟨i, by omega, e⟩
    · exact ⟨k, by omega, by simpa using h⟩
theorem TB.intsP {wb vg ps gs w n m} {A : Option Addr} {c : Nat} (h : TB wb (.slice A m c) vg ps gs w) (hl : ps.length = n) (hm : n ≤ 1000) (hb : ∀ t ∈ ps, -1000000000000000 ≤ t ∧ t ≤ 1000000000000000) : Ints w A n c ps := by
  obtain ⟨A', n', c', g, e, hn, ho, _⟩ := h.p.owns (by omega) (fun t ht => by have := hb t ht; omega)
  injection e with e1 e2 e3
  subst e1
  subst e3
  rw [hn, hl] at ho
  exact ho.ints
theorem Try.info_intK : (Try.prog.info? 3).map (fun i => (i.zero, i.size, i.bytes)) = some (some (.int .i64 0), 1, 8) := by kernel_rfl
set_option maxRecDepth 100000 in
set_option maxHeartbeats 4000000 in
theorem TraitChange_impl (A : Option Addr) (n c : Nat) (a : List (List Int)) (w : World) (hx : IntRows w A n c a) :
    Calls Try.prog 26 #[.slice A n c] w (Ret (.tuple #[trP a, trQ a, .bool (pb (VTr a))]) w) := by
  have hm := hx.max
  have HLN := Lib.hid hx.len
  have HT2 := Lib.hid (T2X.start w)
  have HXA := Lib.hid (hx.keep (Keep.below HT2.out.up))
  clear hx
  have HC := Lib.hid (areTraits_any A n c a _ HXA.out)
  by_cases hv : VTr a
  · rw [pb_true hv] at HC ⊢
    have hn6 : n ≤ 6 := by rw [← HLN.out]; exact hv.n6
    have hn1 : 1 ≤ n := by rw [← HLN.out]; exact hv.n1
    have HV := Lib.hid hv
    have HY := Lib.hid (tr_yes hv HLN.out)
    rw [HY.out.1, HY.out.2]
    obtain ⟨⟨fp1, fp2⟩, ⟨fz1, fz2⟩, ⟨fn1, fn2⟩, fw⟩ := hv.fin HLN.out
    obtain ⟨_, ⟨_, fw2⟩, ⟨fq1, fq2⟩, ⟨fd1, fd2⟩⟩ := hv.sums (k := n) (by rw [HLN.out]; exact Nat.le_refl _)
    obtain ⟨⟨ft1, ft2⟩, _⟩ := hv.sums (k := n) (by rw [HLN.out]; exact Nat.le_refl _)
    have HC1 := Lib.hid (fun W => fracOf_any (tpF a n * n - tzF a n * twF a n) (n * twF a n) W (by unfold Mid; omega) (by unfold Mid; omega) fn1)
    have HC2 := Lib.hid (fun W => fracOf_any (tdF a n) (twF a n) W (by unfold Mid; omega) (by unfold Mid; omega) fw)
    obtain ⟨U, D, hf1⟩ : ∃ U D, frV (tpF a n * n - tzF a n * twF a n) (n * twF a n) = .agg #[.int .i64 U, .int .i64 D] := ⟨_, _, rfl⟩
    obtain ⟨V, E, hf2⟩ : ∃ V E, frV (tdF a n) (twF a n) = .agg #[.int .i64 V, .int .i64 E] := ⟨_, _, rfl⟩
    rw [hf1] at HC1 ⊢
    rw [hf2] at HC2 ⊢
    have HSZ : Hid (∀ A c W, Ints W A n c (tl (fun i => g2 a i 0) n) → Calls Try.prog 56 #[.slice A n c] W fun e w' => e = .returned (.int .i64 (tzF a n)) ∧ Quiet W w') := Lib.hid (fun A c W (h : Ints W A n c (tl (fun i => g2 a i 0) n)) => (show tot (tl (fun i => g2 a i 0) n) = tzF a n from tl_tot _ n) ▸ sumOf_any A n c (tl (fun i => g2 a i 0) n) W h ⟨by rw [tl_len]; omega, fun j hj => by rw [tl_len] at hj; rw [gi_tl hj]; have := (hv.row (i := j) (by rw [HLN.out]; exact hj)).1; omega⟩)
    have HSW : Hid (∀ A c W, Ints W A n c (tl (fun i => g2 a i 1) n) → Calls Try.prog 56 #[.slice A n c] W fun e w' => e = .returned (.int .i64 (twF a n)) ∧ Quiet W w') := Lib.hid (fun A c W (h : Ints W A n c (tl (fun i => g2 a i 1) n)) => (show tot (tl (fun i => g2 a i 1) n) = twF a n from tl_tot _ n) ▸ sumOf_any A n c (tl (fun i => g2 a i 1) n) W h ⟨by rw [tl_len]; omega, fun j hj => by rw [tl_len] at hj; rw [gi_tl hj]; have := (hv.row (i := j) (by rw [HLN.out]; exact hj)).2.1; omega⟩)
    have HSP : Hid (∀ A c W, Ints W A n c (tl (fun i => g2 a i 0 * g2 a i 1) n) → Calls Try.prog 56 #[.slice A n c] W fun e w' => e = .returned (.int .i64 (tpF a n)) ∧ Quiet W w') := Lib.hid (fun A c W (h : Ints W A n c (tl (fun i => g2 a i 0 * g2 a i 1) n)) => (show tot (tl (fun i => g2 a i 0 * g2 a i 1) n) = tpF a n from tl_tot _ n) ▸ sumOf_any A n c (tl (fun i => g2 a i 0 * g2 a i 1) n) W h ⟨by rw [tl_len]; omega, fun j hj => by rw [tl_len] at hj; rw [gi_tl hj]; have := (hv.prod (i := j) (by rw [HLN.out]; exact hj)).1; omega⟩)
    have HSD : Hid (∀ A c W, Ints W A n c (tl (fun i => (g2 a i 2 - g2 a i 0) * g2 a i 1) n) → Calls Try.prog 56 #[.slice A n c] W fun e w' => e = .returned (.int .i64 (tdF a n)) ∧ Quiet W w') := Lib.hid (fun A c W (h : Ints W A n c (tl (fun i => (g2 a i 2 - g2 a i 0) * g2 a i 1) n)) => (show tot (tl (fun i => (g2 a i 2 - g2 a i 0) * g2 a i 1) n) = tdF a n from tl_tot _ n) ▸ sumOf_any A n c (tl (fun i => (g2 a i 2 - g2 a i 0) * g2 a i 1) n) W h ⟨by rw [tl_len]; omega, fun j hj => by rw [tl_len] at hj; rw [gi_tl hj]; have := (hv.prod (i := j) (by rw [HLN.out]; exact hj)).2; omega⟩)
    clear hf1 hf2 HY hv
    go_enter Try.func26, Try.ntmps26
    go_wp2_with fail
    refine HC.out.mono ?_
    rintro e w1 ⟨rfl, hq⟩
    have hb := hq.below (B := ((w.alloc (.cells #[.int .i64 0, .int .i64 0] 28)).alloc (.cells #[.int .i64 0, .int .i64 0] 28)).heap.size)
    have HT2 := Lib.hid (HT2.out.next hb)
    have HXA := Lib.hid (HXA.out.keep (Keep.below hb))
    clear hb hq HC
    obtain ⟨b, o, rb, ro, cc, rfl, htab⟩ := HXA.out.tab6 HV.out
    have HTU := Lib.hid (turned6_any b o rb ro cc n 3 c a w1 htab)
    clear HXA
    go_wp2_with fail
    refine HTU.out.mono ?_
    rintro e w3 ⟨rfl, hown, hb, _⟩
    have HT2 := Lib.hid (HT2.out.next hb)
    have HTAB := Lib.hid (htab.keep (Keep.below hb))
    clear HTU htab
    obtain ⟨b9, o9, e9, hcol⟩ := hown.rows.at_ (by omega)
    injection e9 with e9
    injection e9 with e91 e92 _
    subst e91
    subst e92
    obtain ⟨R0, cc0, k0, hR0⟩ := hcol 0 (by omega)
    obtain ⟨R1, cc1, k1, hR1⟩ := hcol 1 (by omega)
    rw [gr_flip (by omega), tl_range] at hR0 k0
    rw [gr_flip (by omega), tl_range] at hR1 k1
    rw [tl_len] at hR0 k0 hR1 k1
    have HR0 := Lib.hid hR0
    have HR1 := Lib.hid hR1
    simp only [Nat.zero_add] at k0 k1
    clear hcol hown hR0 hR1 hb
    go_wp2
    go_quiet (fail)
    go_wp2
    clear k0 k1
    go_loopw [8, 9, 30] (fun vp vg i wr => ∃ k : Nat, k ≤ n ∧ i = .int .i64 k ∧ Hid (TB w3 vp vg (tl (fun i => g2 a i 0 * g2 a i 1) k) (tl (fun i => (g2 a i 2 - g2 a i 0) * g2 a i 1) k) wr)) (fun _ _ i _ => n - (intOf i).toNat)
    case atStart => exact ⟨0, Nat.zero_le _, rfl, Lib.hid ((TB.nil w3).next (Quiet.below (by first | exact ⟨_, rfl⟩ | exact Quiet.two _ _ _)))⟩
    case round =>
      obtain ⟨k, hk, rfl, HB⟩ := hrel
      obtain ⟨Ap, cp, rfl⟩ := HB.out.p.form
      obtain ⟨Ag, cg, rfl⟩ := HB.out.g.form
      by_cases hlt : k < n
      · have ht := HTAB.out.keep (Keep.below HB.out.up)
        have r1 := ht.row k hlt
        have c0 := ht.cell k 0 hlt (by omega)
        have c1 := ht.cell k 1 hlt (by omega)
        simp only [Nat.add_zero] at c0
        have hka : k < a.length := by rw [HLN.out]; exact hlt
        obtain ⟨⟨x1, x2⟩, ⟨y1, y2⟩, ⟨z1, z2⟩⟩ := HV.out.row hka
        obtain ⟨⟨p1, p2⟩, ⟨d1, d2⟩⟩ := HV.out.prod hka
        have HCEL := Lib.hid (And.intro (HTAB.out.cell k 0 hlt (by omega)) (And.intro (HTAB.out.cell k 1 hlt (by omega)) (HTAB.out.cell k 2 hlt (by omega))))
        have HSP1 : Hid (tl (fun i => g2 a i 0 * g2 a i 1) (k + 1) = tl (fun i => g2 a i 0 * g2 a i 1) k ++ [g2 a k 0 * g2 a k 1]) := Lib.hid rfl
        have HSG1 : Hid (tl (fun i => (g2 a i 2 - g2 a i 0) * g2 a i 1) (k + 1) = tl (fun i => (g2 a i 2 - g2 a i 0) * g2 a i 1) k ++ [(g2 a k 2 - g2 a k 0) * g2 a k 1]) := Lib.hid rfl
        have HML := Lib.hid (And.intro (tl_len (fun i => g2 a i 0 * g2 a i 1) k) (tl_len (fun i => (g2 a i 2 - g2 a i 0) * g2 a i 1) k))
        clear ht hka
        generalize g2 a k 0 = x at *
        generalize g2 a k 1 = y at *
        generalize g2 a k 2 = z at *
        generalize tl (fun i => g2 a i 0 * g2 a i 1) k = ys at *
        generalize tl (fun i => (g2 a i 2 - g2 a i 0) * g2 a i 1) k = zs at *
        generalize rb k = bR at *
        generalize ro k = oR at *
        obtain ⟨i0, hi0, hz0, hz1, hz2⟩ := info_parts Try.info_intK
        have hwz0 := HB.out.up.size
        have HCEL : Hid (w3.cell? ⟨bR, oR, none⟩ = some (.int .i64 x) ∧ w3.cell? ⟨bR, oR + 1, none⟩ = some (.int .i64 y) ∧ w3.cell? ⟨bR, oR + 2, none⟩ = some (.int .i64 z)) := HCEL
        go_wp2
        have HW : Hid (IntKind.i64.wrap (x * y) = x * y) := Lib.hid (wrap_in64 (by omega))
        have HBd := Lib.hid ((HB.out).next (Quiet.below (B := wr.heap.size) (w' := wr.drew) ⟨1, rfl⟩))
        go_region_held3 (fun W => W.cell? ⟨bR, oR, none⟩ = some (.int .i64 x) ∧ W.cell? ⟨bR, oR + 1, none⟩ = some (.int .i64 y))
          (first | go_keep | exact HKK.out)
          ((refine step_append_lies _ (by rfl) _ _ _ (by rfl) w3.heap.size 3 i0 _ 1 8 Try.underlying43 hi0 hz0 hz1 hz2 rfl (by omega) (.slice Ap ys.length cp) ys.length (ys.map iv) (by rfl) (((HB.out).p.own.alloc _).drew) ⟨wr.heap.size, 0, none⟩ 1 1 [iv (IntKind.i64.wrap (x * y))] (by rfl) (by rfl) (World.news_of_block (w := (wr.alloc (.cells #[iv (IntKind.i64.wrap (x * y))] 3)).drew) (cs := #[iv (IntKind.i64.wrap (x * y))]) (t := 3) (fr := (0, 0)) (heap_alloc_new wr _)) (by simp [Value.oneCell', iv]) (by omega) (by have := HML.out; unfold maxLen; omega) (by have := HML.out; omega) (by simp; omega) (wr.heap.size + 1) (by simp) ?_; intro gg cap w5 hown1 hgrow hat hlt1; rw [HW.out] at hown1 hgrow; have HB5 := Lib.hid (HBd.out.push (v' := .slice (some ⟨gg, 0, none⟩) (ys.length + 1) cap) hown1 hgrow (hat.elim (fun h => .inl h.symm) (fun h => .inr (by rw [h]; rfl)))); have HKK := Lib.hid (show w5.cell? ⟨bR, oR, none⟩ = some (.int .i64 x) ∧ w5.cell? ⟨bR, oR + 1, none⟩ = some (.int .i64 y) from ⟨Keep.below HB5.out.up _ _ HCEL.out.1, Keep.below HB5.out.up _ _ HCEL.out.2.1⟩); clear hown1 hgrow hat hlt1 HBd))
        clear c0 c1 r1 HB HW HKK
        have HLY := Lib.hid (show (ys ++ [x * y]).length = k + 1 by rw [List.length_append, List.length_singleton, HML.out.1])
        generalize hys : ys ++ [x * y] = ys2 at *
        clear hys
        have HKS := Lib.hid (show w5.cell? ⟨bR, oR, none⟩ = some (.int .i64 x) ∧ w5.cell? ⟨bR, oR + 1, none⟩ = some (.int .i64 y) ∧ w5.cell? ⟨bR, oR + 2, none⟩ = some (.int .i64 z) from ⟨Keep.below HB5.out.up _ _ HCEL.out.1, Keep.below HB5.out.up _ _ HCEL.out.2.1, Keep.below HB5.out.up _ _ HCEL.out.2.2⟩)
        have c0 := HKS.out.1
        have c1 := HKS.out.2.1
        have c2 := HKS.out.2.2
        have hwz := HB5.out.up.size
        have HB := Lib.hid HB5.out.swap
        clear HB5 HKS
        go_wp2
        have HW : Hid (IntKind.i64.wrap (IntKind.i64.wrap (z - x) * y) = (z - x) * y) := Lib.hid (by rw [wrap_in64 (x := z - x) (by omega), wrap_in64 (by omega)])
        have HBd := Lib.hid ((HB.out).next (Quiet.below (B := w5.heap.size) (w' := w5.drew) ⟨1, rfl⟩))
        go_region_held3 (fun W => W.cell? ⟨bR, oR, none⟩ = some (.int .i64 x) ∧ W.cell? ⟨bR, oR + 1, none⟩ = some (.int .i64 y) ∧ W.cell? ⟨bR, oR + 2, none⟩ = some (.int .i64 z))
          (first | go_keep | exact HKK.out)
          ((refine step_append_lies _ (by rfl) _ _ _ (by rfl) w3.heap.size 3 i0 _ 1 8 Try.underlying43 hi0 hz0 hz1 hz2 rfl (by omega) (.slice Ag zs.length cg) zs.length (zs.map iv) (by rfl) (((HB.out).p.own.alloc _).drew) ⟨w5.heap.size, 0, none⟩ 1 1 [iv (IntKind.i64.wrap (IntKind.i64.wrap (z - x) * y))] (by rfl) (by rfl) (World.news_of_block (w := (w5.alloc (.cells #[iv (IntKind.i64.wrap (IntKind.i64.wrap (z - x) * y))] 3)).drew) (cs := #[iv (IntKind.i64.wrap (IntKind.i64.wrap (z - x) * y))]) (t := 3) (fr := (0, 0)) (heap_alloc_new w5 _)) (by simp [Value.oneCell', iv]) (by omega) (by have := HML.out; unfold maxLen; omega) (by have := HML.out; omega) (by simp; omega) (w5.heap.size + 1) (by simp) ?_; intro gg cap w6 hown1 hgrow hat hlt1; rw [HW.out] at hown1 hgrow; have HB5 := Lib.hid (HBd.out.push (v' := .slice (some ⟨gg, 0, none⟩) (zs.length + 1) cap) hown1 hgrow (hat.elim (fun h => .inl h.symm) (fun h => .inr (by rw [h]; rfl)))); have HKK := Lib.hid (show w6.cell? ⟨bR, oR, none⟩ = some (.int .i64 x) ∧ w6.cell? ⟨bR, oR + 1, none⟩ = some (.int .i64 y) ∧ w6.cell? ⟨bR, oR + 2, none⟩ = some (.int .i64 z) from ⟨Keep.below HB5.out.up _ _ HCEL.out.1, Keep.below HB5.out.up _ _ HCEL.out.2.1, Keep.below HB5.out.up _ _ HCEL.out.2.2⟩); clear hown1 hgrow hat hlt1 HBd))
        clear c0 c1 c2 HB HW HKK
        have HB := Lib.hid HB5.out.swap
        clear HB5
        go_wp2
        go_roundw
        case rel => exact ⟨k + 1, by omega, by go_num, Lib.hid (by rw [HSP1.out, HSG1.out]; first | exact HB.out | exact HB.out.next (Quiet.below ⟨1, rfl⟩) | exact HB.out.next (Quiet.below ⟨_, rfl⟩))⟩
        case measure => simp [intOf]; omega
      · obtain rfl : n = k := by omega
        have HIP := Lib.hid (HB.out.intsP (tl_len _ n) (by omega) (fun t ht => by obtain ⟨i, hi, rfl⟩ := tl_mem ht; have := (HV.out.prod (i := i) (by rw [HLN.out]; exact hi)).1; omega))
        have HIG := Lib.hid (HB.out.swap.intsP (tl_len _ n) (by omega) (fun t ht => by obtain ⟨i, hi, rfl⟩ := tl_mem ht; have := (HV.out.prod (i := i) (by rw [HLN.out]; exact hi)).2; omega))
        have HIZ := Lib.hid (HR0.out.keep (Keep.below HB.out.up))
        have HIW := Lib.hid (HR1.out.keep (Keep.below HB.out.up))
        have HT2 := Lib.hid (HT2.out.next HB.out.up)
        rw [Int.mul_comm (tpF a n)] at HC1 fp1 fp2
        rw [tl_len, tl_len]
        clear HB HR0 HR1 HTAB HV
        generalize tl (fun i => g2 a i 0 * g2 a i 1) n = lp at *
        generalize tl (fun i => (g2 a i 2 - g2 a i 0) * g2 a i 1) n = lg at *
        generalize tl (fun i => g2 a i 0) n = lz at *
        generalize tl (fun i => g2 a i 1) n = lw at *
        generalize tzF a n = TZ at *
        generalize twF a n = TW at *
        generalize tpF a n = TP at *
        generalize tdF a n = TD at *
        have HSP2 := Lib.hid (HSP.out _ _ _ HIP.out)
        go_wp2_with fail
        refine (HSW.out _ _ _ HIW.out).mono ?_
        rintro e w4 ⟨rfl, hq⟩
        have hb := hq.below (B := wr.heap.size)
        have HIP := Lib.hid (HIP.out.keep (Keep.below hb))
        have HIG := Lib.hid (HIG.out.keep (Keep.below hb))
        have HIZ := Lib.hid (HIZ.out.keep (Keep.below hb))
        have HT2 := Lib.hid (HT2.out.next hb)
        clear hb hq HSW HIW HSP2
        go_wp2_with fail
        refine (HSP.out _ _ _ HIP.out).mono ?_
        rintro e w5 ⟨rfl, hq⟩
        have hb := hq.below (B := w4.heap.size)
        have HIG := Lib.hid (HIG.out.keep (Keep.below hb))
        have HIZ := Lib.hid (HIZ.out.keep (Keep.below hb))
        have HT2 := Lib.hid (HT2.out.next hb)
        clear hb hq HSP HIP
        go_wp2_with fail
        refine (HSZ.out _ _ _ HIZ.out).mono ?_
        rintro e w6 ⟨rfl, hq⟩
        have hb := hq.below (B := w5.heap.size)
        have HIG := Lib.hid (HIG.out.keep (Keep.below hb))
        have HT2 := Lib.hid (HT2.out.next hb)
        clear hb hq HSZ HIZ
        go_wp2_with fail
        refine (HC1.out _).mono ?_
        rintro e w7 ⟨rfl, hb⟩
        have HIG := Lib.hid (HIG.out.keep (Keep.below hb))
        have HT2 := Lib.hid (HT2.out.next hb)
        clear hb HC1
        have hb := below_alloc w7 (.cells #[.int .i64 U, .int .i64 D] 28)
        have HIG := Lib.hid (HIG.out.keep (Keep.below hb))
        have HT2 := Lib.hid (HT2.out.next hb)
        have HBX := Lib.hid (blk_new w7 28 #[.int .i64 U, .int .i64 D])
        clear hb
        go_wp2
        generalize w7.alloc (.cells #[.int .i64 U, .int .i64 D] 28) = w8 at *
        generalize w7.heap.size = q14 at *
        have HIG := Lib.hid (show Ints w8.drew _ n _ lg from HIG.out.keep (Keep.drewN w8 1))
        have HT2 := Lib.hid (HT2.out.next (Quiet.below (B := w8.heap.size) (w' := w8.drew) ⟨1, rfl⟩))
        have HBX := Lib.hid (show Blk w8.drew q14 28 #[.int .i64 U, .int .i64 D] from HBX.out)
        have m0 := blk_cell HBX.out (i := 0) rfl
        have m1 := blk_cell HBX.out (i := 1) rfl
        replace m0 : w8.cell? ⟨q14, 0, none⟩ = some (.int .i64 U) := m0
        replace m1 : w8.cell? ⟨q14, 1, none⟩ = some (.int .i64 D) := m1
        go_region_law ((first
          | (go_simp; go_at_call 56; (with_reducible refine (HSD.out _ _ _ HIG.out).mono ?_); rintro e x1 ⟨rfl, hq⟩; have hb := hq.below (B := w8.drew.heap.size); have HT2 := Lib.hid (HT2.out.next hb); have HBX := Lib.hid (blk_below HBX.out hb); have m2 := blk_cell HBX.out (i := 0) rfl; have m3 := blk_cell HBX.out (i := 1) rfl; clear hb hq)
          | (go_simp; go_at_call 51; (with_reducible refine (HC2.out _).mono ?_); rintro e x2 ⟨rfl, hb⟩; have HT2 := Lib.hid (HT2.out.next hb); have HBX := Lib.hid (blk_below HBX.out hb); have m4 := blk_cell HBX.out (i := 0) rfl; have m5 := blk_cell HBX.out (i := 1) rfl; have d0 := blk_cell HT2.out.b0 (i := 0) rfl; have d1 := blk_cell HT2.out.b0 (i := 1) rfl; have d2 := blk_cell HT2.out.b1 (i := 0) rfl; have d3 := blk_cell HT2.out.b1 (i := 1) rfl; have f0 := blk_frozen HT2.out.b0 0; have f1 := blk_frozen HT2.out.b0 1; have f2 := blk_frozen HT2.out.b1 0; have f3 := blk_frozen HT2.out.b1 1; clear hb)
          | fail))
        all_goals
          clear d0 d1 d2 d3 f0 f1 f2 f3 m0 m1 m2 m3 m4 m5 HBX
          go_wp2
          have B0 := blk_other (p := ⟨w.heap.size + 1, 1, none⟩) (blk_other (p := ⟨w.heap.size + 1, 0, none⟩) (blk_set (blk_set HT2.out.b0 0 (.int .i64 U)) 1 (.int .i64 D)) (by show w.heap.size ≠ w.heap.size + 1; omega) (.int .i64 V)) (by show w.heap.size ≠ w.heap.size + 1; omega) (.int .i64 E)
          have B1 := blk_set (blk_set (blk_other (p := ⟨w.heap.size, 1, none⟩) (blk_other (p := ⟨w.heap.size, 0, none⟩) HT2.out.b1 (by show w.heap.size + 1 ≠ w.heap.size; omega) (.int .i64 U)) (by show w.heap.size + 1 ≠ w.heap.size; omega) (.int .i64 D)) 0 (.int .i64 V)) 1 (.int .i64 E)
          have r0 := blk_cell B0 (i := 0) (v := .int .i64 U) rfl
          have r1 := blk_cell B0 (i := 1) (v := .int .i64 D) rfl
          have r2 := blk_cell B1 (i := 0) (v := .int .i64 V) rfl
          have r3 := blk_cell B1 (i := 1) (v := .int .i64 E) rfl
          have HBX := Lib.hid ((((HT2.out.up.setCell (p := ⟨w.heap.size, 0, none⟩) (Nat.le_refl _) (.int .i64 U)).setCell (p := ⟨w.heap.size, 1, none⟩) (Nat.le_refl _) (.int .i64 D)).setCell (p := ⟨w.heap.size + 1, 0, none⟩) (Nat.le_succ _) (.int .i64 V)).setCell (p := ⟨w.heap.size + 1, 1, none⟩) (Nat.le_succ _) (.int .i64 E))
          clear B0 B1
          generalize (((x2.setCell ⟨w.heap.size, 0, none⟩ (.int .i64 U)).setCell ⟨w.heap.size, 1, none⟩ (.int .i64 D)).setCell ⟨w.heap.size + 1, 0, none⟩ (.int .i64 V)).setCell ⟨w.heap.size + 1, 1, none⟩ (.int .i64 E) = WE at *
          refine bodyPost_ret (v := .tuple #[.agg #[.int .i64 U, .int .i64 D], .agg #[.int .i64 V, .int .i64 E], .bool true]) (by simp [results, Try.results26, go_sem, r0, r1, r2, r3]) rfl ?_
          exact ⟨rfl, HBX.out⟩
  · rw [pb_false hv] at HC ⊢
    rw [(tr_no hv).1, (tr_no hv).2]
    clear hv
    go_enter Try.func26, Try.ntmps26
    go_wp2_with fail
    refine HC.out.mono ?_
    rintro e w1 ⟨rfl, hq⟩
    have HT2 := Lib.hid (HT2.out.next (hq.below (B := ((w.alloc (.cells #[.int .i64 0, .int .i64 0] 28)).alloc (.cells #[.int .i64 0, .int .i64 0] 28)).heap.size)))
    clear hq HC
    have d0 := blk_cell HT2.out.b0 (i := 0) rfl
    have d1 := blk_cell HT2.out.b0 (i := 1) rfl
    have d2 := blk_cell HT2.out.b1 (i := 0) rfl
    have d3 := blk_cell HT2.out.b1 (i := 1) rfl
    have f0 := blk_frozen HT2.out.b0 0
    have f1 := blk_frozen HT2.out.b0 1
    have f2 := blk_frozen HT2.out.b1 0
    have f3 := blk_frozen HT2.out.b1 1
    go_wp2
    clear d0 d1 d2 d3 f0 f1 f2 f3
    have B0 := blk_other (p := ⟨w.heap.size + 1, 1, none⟩) (blk_other (p := ⟨w.heap.size + 1, 0, none⟩) (blk_set (blk_set HT2.out.b0 0 (.int .i64 0)) 1 (.int .i64 0)) (by show w.heap.size ≠ w.heap.size + 1; omega) (.int .i64 0)) (by show w.heap.size ≠ w.heap.size + 1; omega) (.int .i64 0)
    have B1 := blk_set (blk_set (blk_other (p := ⟨w.heap.size, 1, none⟩) (blk_other (p := ⟨w.heap.size, 0, none⟩) HT2.out.b1 (by show w.heap.size + 1 ≠ w.heap.size; omega) (.int .i64 0)) (by show w.heap.size + 1 ≠ w.heap.size; omega) (.int .i64 0)) 0 (.int .i64 0)) 1 (.int .i64 0)
    have r0 := blk_cell B0 (i := 0) (v := .int .i64 0) rfl
    have r1 := blk_cell B0 (i := 1) (v := .int .i64 0) rfl
    have r2 := blk_cell B1 (i := 0) (v := .int .i64 0) rfl
    have r3 := blk_cell B1 (i := 1) (v := .int .i64 0) rfl
    have HBX := Lib.hid ((((HT2.out.up.setCell (p := ⟨w.heap.size, 0, none⟩) (Nat.le_refl _) (.int .i64 0)).setCell (p := ⟨w.heap.size, 1, none⟩) (Nat.le_refl _) (.int .i64 0)).setCell (p := ⟨w.heap.size + 1, 0, none⟩) (Nat.le_succ _) (.int .i64 0)).setCell (p := ⟨w.heap.size + 1, 1, none⟩) (Nat.le_succ _) (.int .i64 0))
    clear B0 B1
    generalize (((w1.setCell ⟨w.heap.size, 0, none⟩ (.int .i64 0)).setCell ⟨w.heap.size, 1, none⟩ (.int .i64 0)).setCell ⟨w.heap.size + 1, 0, none⟩ (.int .i64 0)).setCell ⟨w.heap.size + 1, 1, none⟩ (.int .i64 0) = WE at *
    refine bodyPost_ret (v := .tuple #[.agg #[.int .i64 0, .int .i64 0], .agg #[.int .i64 0, .int .i64 0], .bool false]) (by simp [results, Try.results26, go_sem, r0, r1, r2, r3]) rfl ?_
    exact ⟨rfl, HBX.out⟩

end Go.Proofs.Ytlfljcemcaphcaa

/- Rows that stay beside a reader; rows written out; one of some rows. -/
namespace Go.Proofs.Ytlfljcemcaphcaa
open Go.RowKit

/-- Rows of which no block is g. -/
structure RowsN (g : Nat) (w : World) (A : Option Addr) (n c : Nat) (xss : List (List Int)) : Prop where
  len : xss.length = n
  cap : n ≤ c
  max : n ≤ 5864062014805
  at_ : 0 < n → ∃ b o, A = some ⟨b, o, none⟩ ∧ b ≠ g ∧ ∀ k, k < n → ∃ R cc, w.cell? ⟨b, o + k, none⟩ = some (.slice R (gr xss k).length cc) ∧ Ints w R (gr xss k).length cc (gr xss k) ∧ ∀ b' o', 0 < (gr xss k).length → R = some ⟨b', o', none⟩ → b' ≠ g
theorem RowsN.rows {g w A n c xss} (h : RowsN g w A n c xss) : IntRows w A n c xss :=
  ⟨h.len, h.cap, h.max, fun hn => by
    obtain ⟨b, o, e, _, hr⟩ := h.at_ hn
    exact ⟨b, o, e, fun k hk => by obtain ⟨R, cc, h1, h2, _⟩ := hr k hk; exact ⟨R, cc, h1, h2⟩⟩⟩
theorem grown_cell {g : Nat} {w W : World} (k : w.grownBy W (some g)) {p : Addr} {v : Value} (h : w.cell? p = some v) (hne : p.block ≠ g) : W.cell? p = some v := by
  rw [World.cell?_of_block (w := w) (k.block _ (World.block_lt_of_cell? w _ h) (fun e => hne (by injection e)))]; exact h
theorem Ints.grown {g : Nat} {w W : World} {A : Option Addr} {n c : Nat} {xs : List Int} (h : Ints w A n c xs) (k : w.grownBy W (some g)) (hne : ∀ b o, 0 < n → A = some ⟨b, o, none⟩ → b ≠ g) : Ints W A n c xs :=
  ⟨h.len, h.cap, h.max, h.wf, fun hn => by
    obtain ⟨b, o, e, hc⟩ := h.at_ hn
    exact ⟨b, o, e, fun i hi => grown_cell k (hc i hi) (hne b o hn e)⟩⟩
theorem RowsN.grown {g w W A n c xss} (h : RowsN g w A n c xss) (k : w.grownBy W (some g)) : RowsN g W A n c xss :=
  ⟨h.len, h.cap, h.max, fun hn => by
    obtain ⟨b, o, e, hb, hr⟩ := h.at_ hn
    exact ⟨b, o, e, hb, fun i hi => by obtain ⟨R, cc, h1, h2, h3⟩ := hr i hi; exact ⟨R, cc, grown_cell k h1 hb, h2.grown k h3, h3⟩⟩⟩
theorem OwnR.rowsN {lo hi w b A n c xss} (h : OwnR lo hi w b A n c xss) {g : Nat} (hg : g < lo) : RowsN g w A n c xss :=
  ⟨h.len, h.cap, h.max, fun hn => by
    obtain ⟨o, G, R, C, e, h1, _, hr, _⟩ := h.at_ hn
    refine ⟨b, o, e, by omega, fun k hk => ⟨R k, C k, (hr k hk).2.1, (hr k hk).2.2.1.ints, fun b' o' hp e' => ?_⟩⟩
    obtain ⟨o2, e2, h3, _⟩ := (hr k hk).2.2.1.own hp
    rw [e'] at e2
    injection e2 with e2
    injection e2 with e2 _ _
    omega⟩
/-- One row is another one. -/
theorem OwnR.setRowN {lo hi w b o n c xss} (h : OwnR lo hi w b (some ⟨b, o, none⟩) n c xss) {g q m cc i : Nat} {ys : List Int} (hg : g < lo) (hi' : i < n) (hy : Ints w (some ⟨q, 0, none⟩) m cc ys) (hm : ys.length = m) (hq : q ≠ b) (hqg : q ≠ g) :
    w.frozen? ⟨b, o + i, none⟩ = false ∧ (∃ v, w.cell? ⟨b, o + i, none⟩ = some v) ∧ RowsN g (w.setCell ⟨b, o + i, none⟩ (.slice (some ⟨q, 0, none⟩) m cc)) (some ⟨b, o, none⟩) n c (xss.set i ys) := by
  obtain ⟨o', G, R, C, e, h1, _, hr, _⟩ := h.at_ (by omega)
  injection e with e
  injection e with _ e _
  subst e
  have other : ∀ a k u, a ≠ b → (w.setCell ⟨b, o + i, none⟩ u).cell? ⟨a, k, none⟩ = w.cell? ⟨a, k, none⟩ := fun a k u hab => World.cell?_setCell_other w _ _ _ (fun e' => by injection e' with e' _ _; first | exact hab e' | exact hab e'.symm)
  refine ⟨(hr i hi').1, ⟨_, (hr i hi').2.1⟩, by rw [List.length_set]; exact h.len, h.cap, h.max, fun _ => ⟨b, o, rfl, by omega, fun k hk => ?_⟩⟩
  by_cases e : k = i
  · subst e
    have hgr : gr (xss.set k ys) k = ys := by rw [gr_get (by rw [List.length_set, h.len]; exact hk)]; simp
    rw [hgr, hm]
    refine ⟨some ⟨q, 0, none⟩, cc, World.cell?_setCell_same w _ _ (hr k hk).2.1, ⟨hy.len, hy.cap, hy.max, hy.wf, fun hn => ?_⟩, fun b' o' _ e' => by injection e' with e'; injection e' with e' _ _; rw [← e']; exact hqg⟩
    obtain ⟨b2, o2, e2, hc⟩ := hy.at_ hn
    injection e2 with e2
    injection e2 with e2 e3 _
    subst e2
    subst e3
    exact ⟨q, 0, rfl, fun j hj => by rw [other _ _ _ hq]; exact hc j hj⟩
  · have hgr : gr (xss.set i ys) k = gr xss k := by rw [gr_get (by rw [List.length_set, h.len]; exact hk), gr_get (by rw [h.len]; exact hk)]; simp [Ne.symm e]
    rw [hgr]
    refine ⟨R k, C k, ?_, ⟨(hr k hk).2.2.1.ints.len, (hr k hk).2.2.1.ints.cap, (hr k hk).2.2.1.ints.max, (hr k hk).2.2.1.ints.wf, fun hn => ?_⟩, fun b' o' hp e' => ?_⟩
    · rw [World.cell?_setCell_other w _ _ _ (fun e' => by injection e' with _ e' _; omega)]; exact (hr k hk).2.1
    · obtain ⟨b2, o2, e2, hc⟩ := (hr k hk).2.2.1.ints.at_ hn
      obtain ⟨o3, e3, _, _⟩ := (hr k hk).2.2.1.own hn
      have hbb : b2 ≠ b := by
        rw [e2] at e3
        injection e3 with e3
        injection e3 with e3 _ _
        rw [e3]; exact (hr k hk).2.2.2 hn
      exact ⟨b2, o2, e2, fun j hj => by rw [other _ _ _ hbb]; exact hc j hj⟩
    · obtain ⟨o2, e2, h3, _⟩ := (hr k hk).2.2.1.own hp
      rw [e'] at e2
      injection e2 with e2
      injection e2 with e2 _ _
      omega
/-- A row written out. -/
theorem TO.litn2 {w0 wb g A l c p v vs xss w} (h : TO w0 wb g A l c p v vs xss w) (x y : Int) :
    TI w0 wb g A l c p w.heap.size v vs xss (.slice (some ⟨w.heap.size, 0, none⟩) 2 2) [x, y] (w.alloc (.cells #[iv x, iv y] 3)) :=
  ⟨h.rd.below_ (below_alloc _ _), h.bo.below (below_alloc _ _), by rw [World.size_alloc]; exact ⟨⟨by simp, .inr ⟨w.heap.size, 2, #[iv x, iv y], rfl, Nat.le_refl _, heap_alloc_new w _, Nat.le_refl _, by decide, rfl, by simp⟩⟩, fun k hk => by simp [Value.ownBlock] at hk; omega⟩, h.gl, h.up.size, by simp, grown_below h.up (below_alloc _ _)⟩
theorem TO.litn3 {w0 wb g A l c p v vs xss w} (h : TO w0 wb g A l c p v vs xss w) (x y z : Int) :
    TI w0 wb g A l c p w.heap.size v vs xss (.slice (some ⟨w.heap.size, 0, none⟩) 3 3) [x, y, z] (w.alloc (.cells #[iv x, iv y, iv z] 3)) :=
  ⟨h.rd.below_ (below_alloc _ _), h.bo.below (below_alloc _ _), by rw [World.size_alloc]; exact ⟨⟨by simp, .inr ⟨w.heap.size, 3, #[iv x, iv y, iv z], rfl, Nat.le_refl _, heap_alloc_new w _, Nat.le_refl _, by decide, rfl, by simp⟩⟩, fun k hk => by simp [Value.ownBlock] at hk; omega⟩, h.gl, h.up.size, by simp, grown_below h.up (below_alloc _ _)⟩
/-- One of some rows. -/
def OneRow (w0 : World) (g : Nat) (A : Option Addr) (l c p : Nat) (b n : Nat) (w : World) (e : Ending) (w' : World) : Prop :=
  ∃ (k : Nat) (v : Value), k < n ∧ e = .returned v ∧ w.cell? ⟨b, k, none⟩ = some v ∧ Rdr w0 w' g A l c (p + 1) ∧ One g w w'
set_option maxHeartbeats 400000 in
theorem one2_any (w0 w : World) (g : Nat) (A : Option Addr) (l c p : Nat) (b n : Nat) (h : Rdr w0 w g A l c p) (hp : p < 1000000000)
    (hx : ∀ k, k < n → ∃ v, w.cell? ⟨b, k, none⟩ = some v) (h0 : 0 < n) (hn : n ≤ 100) (hne : b ≠ g) :
    Calls Try.prog 62 #[.pointer (some ⟨g, 0, none⟩), .slice (some ⟨b, 0, none⟩) n n] w (OneRow w0 g A l c p b n w) := by
  have HX := Lib.hid hx
  have HC := Lib.hid (pick_any w0 w g A l c p n h hp)
  clear hx h
  go_enter Try.func62, Try.ntmps62
  go_wp2_with fail
  refine HC.out.mono ?_
  rintro e w1 ⟨m, rfl, hk1, _, hr, z, hw⟩
  obtain ⟨m0, m1⟩ := hk1 (by omega)
  obtain ⟨k, rfl⟩ := Int.eq_ofNat_of_zero_le m0
  have hkn : k < n := by omega
  obtain ⟨v, hv⟩ := HX.out k hkn
  have hone := Rdr.one (g := g) w (.int .i64 (p + 1 : Nat)) z
  rw [← hw] at hone
  have c1 : w1.cell? ⟨b, k, none⟩ = some v := by rw [World.cell?_of_block (w := w) (hone.block b hne)]; exact hv
  have HR := Lib.hid (And.intro hr (And.intro hone hv))
  clear hk1 hr hw hone hv HC HX
  go_wp2
  go_ret
  exact ⟨k, v, hkn, rfl, HR.out.2.2, HR.out.1, HR.out.2.1⟩

end Go.Proofs.Ytlfljcemcaphcaa

/- People drawn. -/
namespace Go.Proofs.Ytlfljcemcaphcaa
open Go.RowKit

theorem ints_blk2 {w : World} {q : Nat} (x y : Int) (b : Blk w q 3 #[.int .i64 x, .int .i64 y]) (hx : -1000 ≤ x ∧ x ≤ 1000 := by omega) (hy : -1000 ≤ y ∧ y ≤ 1000 := by omega) : Ints w (some ⟨q, 0, none⟩) 2 2 [x, y] :=
  ⟨rfl, Nat.le_refl _, by omega, fun z hz => by simp at hz; omega, fun _ => ⟨_, _, rfl, fun k hk => by
    have h : k = 0 ∨ k = 1 := by omega
    rcases h with rfl | rfl
    · exact blk_cell b rfl
    · exact blk_cell b rfl⟩⟩
theorem ints_blk3 {w : World} {q : Nat} (x y z : Int) (b : Blk w q 3 #[.int .i64 x, .int .i64 y, .int .i64 z]) (hx : -1000 ≤ x ∧ x ≤ 1000 := by omega) (hy : -1000 ≤ y ∧ y ≤ 1000 := by omega) (hz : -1000 ≤ z ∧ z ≤ 1000 := by omega) : Ints w (some ⟨q, 0, none⟩) 3 3 [x, y, z] :=
  ⟨rfl, Nat.le_refl _, by omega, fun t ht => by simp at ht; omega, fun _ => ⟨_, _, rfl, fun k hk => by
    have h : k = 0 ∨ k = 1 ∨ k = 2 := by omega
    rcases h with rfl | rfl | rfl
    · exact blk_cell b rfl
    · exact blk_cell b rfl
    · exact blk_cell b rfl⟩⟩
theorem ints_blk1 {w : World} {q : Nat} (x : Int) (b : Blk w q 3 #[.int .i64 x]) (hx : -1000 ≤ x ∧ x ≤ 1000 := by omega) : Ints w (some ⟨q, 0, none⟩) 1 1 [x] :=
  ⟨rfl, Nat.le_refl _, by omega, fun z hz => by simp at hz; omega, fun _ => ⟨_, _, rfl, fun k hk => by
    have h : k = 0 := by omega
    subst h
    exact blk_cell b rfl⟩⟩
/-- People that the reader drew, beside its block. -/
def SomeF (w0 : World) (g : Nat) (A : Option Addr) (l c p : Nat) (e : Ending) (w' : World) : Prop :=
  ∃ Av n cv xss p', e = .returned (.slice Av n cv) ∧ (1 ≤ n ∧ n ≤ 6) ∧ RowsN g w' Av n cv xss ∧ Rdr w0 w' g A l c p' ∧ p' ≤ p + 40
set_option maxRecDepth 100000 in
set_option maxHeartbeats 16000000 in
theorem someFolk_any (w0 w : World) (g : Nat) (A : Option Addr) (l c p : Nat) (h : Rdr w0 w g A l c p) (hp : p < 800000000) :
    Calls Try.prog 57 #[.pointer (some ⟨g, 0, none⟩)] w (SomeF w0 g A l c p) := by
  have hgl := blk_lt h.box
  have HT1 := Lib.hid ((TO.start h).below (below_alloc (w.alloc (.cells #[] 43)) (.cells #[iv 5, iv 6, iv 4, iv 3, iv 2, iv 1] 3)))
  have hlit := Ints.lit (w.alloc (.cells #[] 43)) [5, 6, 4, 3, 2, 1] (by decide) (by decide)
  rw [World.size_alloc] at hlit
  have H1 := Lib.hid (one_any w0 _ g A l c p _ 6 6 [5, 6, 4, 3, 2, 1] HT1.out.rd (by omega) hlit (by omega) (fun b o e => by injection e with e; injection e with e _ _; omega))
  clear h hlit
  go_enter Try.func57, Try.ntmps57
  go_wp2_with fail
  refine H1.out.mono ?_
  rintro e w2 ⟨x, rfl, hx, hr, ho⟩
  have HT2 := Lib.hid (HT1.out.one hr ho)
  have hx1 : 1 ≤ x ∧ x ≤ 6 := by simp at hx; omega
  obtain ⟨n, rfl⟩ := Int.eq_ofNat_of_zero_le (show 0 ≤ x by omega)
  clear hx hr ho H1 HT1
  go_wp2
  go_loopw [3] (fun v wr => ∃ (vs : List Value) (xss : List (List Int)) (p' : Nat), Hid (TO w0 w g A l c p' v vs xss wr) ∧ xss.length ≤ n ∧ p' ≤ p + 1 + 3 * xss.length) (fun v _ => n - (match v with | .slice _ k _ => k | _ => 0))
  case atStart => exact ⟨[], [], p + 1, HT2, by simp, by simp⟩
  case round =>
    clear HT2
    obtain ⟨vs, xss, p3, HT, hlen, hp3⟩ := hrel
    obtain ⟨Av, cv, rfl⟩ := HT.out.bo.form
    by_cases hlt : xss.length < n
    · by_cases h2 : xss.length < 2
      · have h2' : decide ((xss.length : Int) < 2) = true := by simp; omega
        have HI := Lib.hid (HT.out.litn2 (-1) (-1))
        have hWs : (wr.alloc (.cells #[iv (-1), iv (-1)] 3)).heap.size = wr.heap.size + 1 := by simp
        obtain ⟨Ar, nr, cr, gg, e, hn, ho, _⟩ := HI.out.bi.owns (by simp) (fun x hx => by simp at hx; omega)
        injection e with e1 e2 e3
        subst e1
        subst e2
        subst e3
        have HO := Lib.hid ho
        have hb := below_alloc (wr.alloc (.cells #[iv (-1), iv (-1)] 3)) (.cells #[.slice (some ⟨wr.heap.size, 0, none⟩) 2 2] 43)
        have HB4 := Lib.hid (HI.out.bo.below hb).own
        have HN := Lib.hid (cell_one_new (wr.alloc (.cells #[iv (-1), iv (-1)] 3)) (.slice (some ⟨wr.heap.size, 0, none⟩) 2 2) 43)
        have hHs := HI.out.hs
        have hlh := HI.out.lh
        clear hb ho hn
        obtain ⟨i0, hi0, hz0, hz1, hz2⟩ := info_parts Try.info_row
        go_wp2_with (at_builtin; refine wpList_append_own_at _ rfl _ _ 22 rfl w.heap.size 43 i0 (.slice none 0 0) 1 24 Try.underlying22 hi0 hz0 hz1 hz2 rfl (by decide) _ xss.length vs rfl HB4.out ⟨wr.heap.size + 1, 0, none⟩ 1 1 [.slice (some ⟨wr.heap.size, 0, none⟩) 2 2] rfl rfl ?c1 ?c2 ?c3 ?c4 ?c5 ?_)
        try (case c1 => have := HN.out; rw [hWs] at this; exact this)
        case c2 => intro u hu; simp at hu; subst hu; rfl
        case c3 => unfold maxLen; omega
        case c4 => omega
        case c5 => simp; omega
        intro v' w9 hown' hgrow _ hat
        have HT9 := Lib.hid (TI.done (w := wr.alloc (.cells #[iv (-1), iv (-1)] 3)) (ys := [-1, -1]) (xss := xss) (v := .slice Av xss.length cv) (v' := v') (vs := vs) (Ar := some ⟨wr.heap.size, 0, none⟩) (cr := 2) HI.out HO.out hown' hgrow (by simpa using hat))
        clear HB4 HN hown' hgrow hat HI HO
        obtain ⟨Av9, cv9, hv9⟩ := HT9.out.bo.form
        subst hv9
        go_wp2
        go_roundw
        case rel => exact ⟨_, _, _, HT9, by simp; omega, by simp; omega⟩
        case measure => simp; omega
      · have h2' : decide ((xss.length : Int) < 2) = false := by simp; omega
        have HC := Lib.hid (pick_any w0 wr g A l c p3 5 HT.out.rd (by omega))
        go_wp2_with fail
        refine HC.out.mono ?_
        rintro e w4 ⟨m, rfl, hk1, _, hr, z, hw⟩
        have hone := Rdr.one (g := g) wr (.int .i64 (p3 + 1 : Nat)) z
        rw [← hw] at hone
        have HT := Lib.hid (HT.out.one hr hone)
        clear hr hone hw HC
        by_cases hm : m = 0
        · subst hm
          have HI := Lib.hid (HT.out.litn2 (-1) (-1))
          have hWs : (w4.alloc (.cells #[iv (-1), iv (-1)] 3)).heap.size = w4.heap.size + 1 := by simp
          obtain ⟨Ar, nr, cr, gg, e, hn, ho, _⟩ := HI.out.bi.owns (by simp) (fun x hx => by simp at hx; omega)
          injection e with e1 e2 e3
          subst e1
          subst e2
          subst e3
          have HO := Lib.hid ho
          have hb := below_alloc (w4.alloc (.cells #[iv (-1), iv (-1)] 3)) (.cells #[.slice (some ⟨w4.heap.size, 0, none⟩) 2 2] 43)
          have HB4 := Lib.hid (HI.out.bo.below hb).own
          have HN := Lib.hid (cell_one_new (w4.alloc (.cells #[iv (-1), iv (-1)] 3)) (.slice (some ⟨w4.heap.size, 0, none⟩) 2 2) 43)
          have hHs := HI.out.hs
          have hlh := HI.out.lh
          clear hb ho hn
          obtain ⟨i0, hi0, hz0, hz1, hz2⟩ := info_parts Try.info_row
          go_wp2_with (at_builtin; refine wpList_append_own_at _ rfl _ _ 22 rfl w.heap.size 43 i0 (.slice none 0 0) 1 24 Try.underlying22 hi0 hz0 hz1 hz2 rfl (by decide) _ xss.length vs rfl HB4.out ⟨w4.heap.size + 1, 0, none⟩ 1 1 [.slice (some ⟨w4.heap.size, 0, none⟩) 2 2] rfl rfl ?d1 ?d2 ?d3 ?d4 ?d5 ?_)
          try (case d1 => have := HN.out; rw [hWs] at this; exact this)
          case d2 => intro u hu; simp at hu; subst hu; rfl
          case d3 => unfold maxLen; omega
          case d4 => omega
          case d5 => simp; omega
          intro v' w9 hown' hgrow _ hat
          have HT9 := Lib.hid (TI.done (w := w4.alloc (.cells #[iv (-1), iv (-1)] 3)) (ys := [-1, -1]) (xss := xss) (v := .slice Av xss.length cv) (v' := v') (vs := vs) (Ar := some ⟨w4.heap.size, 0, none⟩) (cr := 2) HI.out HO.out hown' hgrow (by simpa using hat))
          clear HB4 HN hown' hgrow hat HI HO
          obtain ⟨Av9, cv9, hv9⟩ := HT9.out.bo.form
          subst hv9
          go_wp2
          go_roundw
          case rel => exact ⟨_, _, _, HT9, by simp; omega, by simp; omega⟩
          case measure => simp; omega
        · have hm' : (m == 0) = false := by simp; exact hm
          have hkn : (1 : Int) ≤ (xss.length : Int) := by omega
          have HC := Lib.hid (pick_any w0 w4 g A l c (p3 + 1) (xss.length : Int) HT.out.rd (by omega))
          go_wp2_with fail
          refine HC.out.mono ?_
          rintro e w5 ⟨a, rfl, hk2, _, hr, z, hw⟩
          have hone := Rdr.one (g := g) w4 (.int .i64 ((p3 + 1) + 1 : Nat)) z
          rw [← hw] at hone
          have HT := Lib.hid (HT.out.one hr hone)
          clear hr hone hw HC
          obtain ⟨a0, a1⟩ := hk2 hkn
          have HC := Lib.hid (pick_any w0 w5 g A l c (p3 + 1 + 1) ((xss.length : Int) - 1) HT.out.rd (by omega))
          go_wp2_with fail
          refine HC.out.mono ?_
          rintro e w6 ⟨d, rfl, hk3, _, hr, z, hw⟩
          have hone := Rdr.one (g := g) w5 (.int .i64 ((p3 + 1 + 1) + 1 : Nat)) z
          rw [← hw] at hone
          have HT := Lib.hid (HT.out.one hr hone)
          clear hr hone hw HC
          obtain ⟨d0, d1⟩ := hk3 (by omega)
          have hz0 : ((xss.length : Int) == 0) = false := by simp only [beq_eq_false_iff_ne, ne_eq]; omega
          have hz1 : ¬ (xss.length : Int) = 0 := by omega
          have hq0 : 0 ≤ (a + 1 + d) % (xss.length : Int) := Int.emod_nonneg _ (by omega)
          have hq1 : (a + 1 + d) % (xss.length : Int) < (xss.length : Int) := Int.emod_lt_of_pos _ (by omega)
          clear hk1 hk2 hk3
          have HI := Lib.hid (HT.out.litn2 (a) ((a + 1 + d) % (xss.length : Int)))
          have hWs : (w6.alloc (.cells #[iv (a), iv ((a + 1 + d) % (xss.length : Int))] 3)).heap.size = w6.heap.size + 1 := by simp
          obtain ⟨Ar, nr, cr, gg, e, hn, ho, _⟩ := HI.out.bi.owns (by simp) (fun x hx => by simp at hx; omega)
          injection e with e1 e2 e3
          subst e1
          subst e2
          subst e3
          have HO := Lib.hid ho
          have hb := below_alloc (w6.alloc (.cells #[iv (a), iv ((a + 1 + d) % (xss.length : Int))] 3)) (.cells #[.slice (some ⟨w6.heap.size, 0, none⟩) 2 2] 43)
          have HB4 := Lib.hid (HI.out.bo.below hb).own
          have HN := Lib.hid (cell_one_new (w6.alloc (.cells #[iv (a), iv ((a + 1 + d) % (xss.length : Int))] 3)) (.slice (some ⟨w6.heap.size, 0, none⟩) 2 2) 43)
          have hHs := HI.out.hs
          have hlh := HI.out.lh
          clear hb ho hn
          obtain ⟨i0, hi0, hz0, hz1, hz2⟩ := info_parts Try.info_row
          go_wp2_with (at_builtin; refine wpList_append_own_at _ rfl _ _ 22 rfl w.heap.size 43 i0 (.slice none 0 0) 1 24 Try.underlying22 hi0 hz0 hz1 hz2 rfl (by decide) _ xss.length vs rfl HB4.out ⟨w6.heap.size + 1, 0, none⟩ 1 1 [.slice (some ⟨w6.heap.size, 0, none⟩) 2 2] rfl rfl ?f1 ?f2 ?f3 ?f4 ?f5 ?_)
          try (case f1 => have := HN.out; rw [hWs] at this; exact this)
          case f2 => intro u hu; simp at hu; subst hu; rfl
          case f3 => unfold maxLen; omega
          case f4 => omega
          case f5 => simp; omega
          intro v' w9 hown' hgrow _ hat
          have HT9 := Lib.hid (TI.done (w := w6.alloc (.cells #[iv (a), iv ((a + 1 + d) % (xss.length : Int))] 3)) (ys := [a, (a + 1 + d) % (xss.length : Int)]) (xss := xss) (v := .slice Av xss.length cv) (v' := v') (vs := vs) (Ar := some ⟨w6.heap.size, 0, none⟩) (cr := 2) HI.out HO.out hown' hgrow (by simpa using hat))
          clear HB4 HN hown' hgrow hat HI HO
          obtain ⟨Av9, cv9, hv9⟩ := HT9.out.bo.form
          subst hv9
          go_wp2
          go_roundw
          case rel => exact ⟨_, _, _, HT9, by simp; omega, by simp; omega⟩
          case measure => simp; omega
    · obtain ⟨i, rfl⟩ : ∃ i, n = i + 1 := ⟨n - 1, by omega⟩
      have hxl : xss.length = i + 1 := by omega
      obtain ⟨A9, n9, c9, bo, e9, hn9, hown⟩ := HT.out.bo.owns (by omega)
      injection e9 with e91 e92 e93
      subst e91
      subst e93
      rw [hn9, hxl] at hown
      rw [hxl]
      have hoo : ∃ o, Av = some ⟨bo, o, none⟩ ∧ w.heap.size ≤ bo ∧ bo < wr.heap.size := by
        obtain ⟨o, G, R, C, e, h1, h2, _⟩ := hown.at_ (by omega)
        exact ⟨o, e, h1, h2⟩
      obtain ⟨o, rfl, hlo, hhi⟩ := hoo
      have HO := Lib.hid hown
      have HC := Lib.hid (pick_any w0 wr g A l c p3 30 HT.out.rd (by omega))
      have HWZ := Lib.hid HT.out.up.size
      clear hown hn9 e92 hlt hlen
      have hp4 : p3 ≤ p + 1 + 3 * (i + 1) := by omega
      clear hp3 hxl HT
      go_wp2_with fail
      refine HC.out.mono ?_
      rintro e w5 ⟨m, rfl, _, _, hr, z, hw⟩
      have hone := Rdr.one (g := g) wr (.int .i64 (p3 + 1 : Nat)) z
      rw [← hw] at hone
      have HO5 := Lib.hid (show OwnR w.heap.size w5.heap.size w5 bo (some ⟨bo, o, none⟩) (i + 1) cv xss by rw [hone.size]; exact HO.out.of_blocks fun k h1 _ _ => hone.block k (by omega))
      have HR5 := Lib.hid hr
      have HSZ5 := Lib.hid hone.size
      clear hr hone hw HC HO
      by_cases hm : m = 0
      · subst hm
        have HB1 := Lib.hid (blk_old (blk_old (blk_old (blk_old (blk_new w5 3 #[.int .i64 0, .int .i64 0]) (.cells #[.int .i64 (-1), .int .i64 0] 3)) (.cells #[.int .i64 9, .int .i64 0] 3)) (.cells #[.int .i64 0] 3)) (.cells #[.slice (some ⟨w5.heap.size, 0, none⟩) 2 2, .slice (some ⟨w5.heap.size + 1, 0, none⟩) 2 2, .slice (some ⟨w5.heap.size + 1 + 1, 0, none⟩) 2 2, .slice (some ⟨w5.heap.size + 1 + 1 + 1, 0, none⟩) 1 1] 43))
        have HB2 := Lib.hid (blk_old (blk_old (blk_old (show Blk (((w5).alloc (.cells #[.int .i64 0, .int .i64 0] 3)).alloc (.cells #[.int .i64 (-1), .int .i64 0] 3)) (w5.heap.size + 1) 3 #[.int .i64 (-1), .int .i64 0] from by have h := blk_new ((w5).alloc (.cells #[.int .i64 0, .int .i64 0] 3)) 3 #[.int .i64 (-1), .int .i64 0]; simp only [World.size_alloc] at h; exact h) (.cells #[.int .i64 9, .int .i64 0] 3)) (.cells #[.int .i64 0] 3)) (.cells #[.slice (some ⟨w5.heap.size, 0, none⟩) 2 2, .slice (some ⟨w5.heap.size + 1, 0, none⟩) 2 2, .slice (some ⟨w5.heap.size + 1 + 1, 0, none⟩) 2 2, .slice (some ⟨w5.heap.size + 1 + 1 + 1, 0, none⟩) 1 1] 43))
        have HB3 := Lib.hid (blk_old (blk_old (show Blk ((((w5).alloc (.cells #[.int .i64 0, .int .i64 0] 3)).alloc (.cells #[.int .i64 (-1), .int .i64 0] 3)).alloc (.cells #[.int .i64 9, .int .i64 0] 3)) (w5.heap.size + 1 + 1) 3 #[.int .i64 9, .int .i64 0] from by have h := blk_new (((w5).alloc (.cells #[.int .i64 0, .int .i64 0] 3)).alloc (.cells #[.int .i64 (-1), .int .i64 0] 3)) 3 #[.int .i64 9, .int .i64 0]; simp only [World.size_alloc] at h; exact h) (.cells #[.int .i64 0] 3)) (.cells #[.slice (some ⟨w5.heap.size, 0, none⟩) 2 2, .slice (some ⟨w5.heap.size + 1, 0, none⟩) 2 2, .slice (some ⟨w5.heap.size + 1 + 1, 0, none⟩) 2 2, .slice (some ⟨w5.heap.size + 1 + 1 + 1, 0, none⟩) 1 1] 43))
        have HB4 := Lib.hid (blk_old (show Blk (((((w5).alloc (.cells #[.int .i64 0, .int .i64 0] 3)).alloc (.cells #[.int .i64 (-1), .int .i64 0] 3)).alloc (.cells #[.int .i64 9, .int .i64 0] 3)).alloc (.cells #[.int .i64 0] 3)) (w5.heap.size + 1 + 1 + 1) 3 #[.int .i64 0] from by have h := blk_new ((((w5).alloc (.cells #[.int .i64 0, .int .i64 0] 3)).alloc (.cells #[.int .i64 (-1), .int .i64 0] 3)).alloc (.cells #[.int .i64 9, .int .i64 0] 3)) 3 #[.int .i64 0]; simp only [World.size_alloc] at h; exact h) (.cells #[.slice (some ⟨w5.heap.size, 0, none⟩) 2 2, .slice (some ⟨w5.heap.size + 1, 0, none⟩) 2 2, .slice (some ⟨w5.heap.size + 1 + 1, 0, none⟩) 2 2, .slice (some ⟨w5.heap.size + 1 + 1 + 1, 0, none⟩) 1 1] 43))
        have HB5 := Lib.hid (show Blk ((((((w5).alloc (.cells #[.int .i64 0, .int .i64 0] 3)).alloc (.cells #[.int .i64 (-1), .int .i64 0] 3)).alloc (.cells #[.int .i64 9, .int .i64 0] 3)).alloc (.cells #[.int .i64 0] 3)).alloc (.cells #[.slice (some ⟨w5.heap.size, 0, none⟩) 2 2, .slice (some ⟨w5.heap.size + 1, 0, none⟩) 2 2, .slice (some ⟨w5.heap.size + 1 + 1, 0, none⟩) 2 2, .slice (some ⟨w5.heap.size + 1 + 1 + 1, 0, none⟩) 1 1] 43)) (w5.heap.size + 1 + 1 + 1 + 1) 43 #[.slice (some ⟨w5.heap.size, 0, none⟩) 2 2, .slice (some ⟨w5.heap.size + 1, 0, none⟩) 2 2, .slice (some ⟨w5.heap.size + 1 + 1, 0, none⟩) 2 2, .slice (some ⟨w5.heap.size + 1 + 1 + 1, 0, none⟩) 1 1] from by have h := blk_new (((((w5).alloc (.cells #[.int .i64 0, .int .i64 0] 3)).alloc (.cells #[.int .i64 (-1), .int .i64 0] 3)).alloc (.cells #[.int .i64 9, .int .i64 0] 3)).alloc (.cells #[.int .i64 0] 3)) 43 #[.slice (some ⟨w5.heap.size, 0, none⟩) 2 2, .slice (some ⟨w5.heap.size + 1, 0, none⟩) 2 2, .slice (some ⟨w5.heap.size + 1 + 1, 0, none⟩) 2 2, .slice (some ⟨w5.heap.size + 1 + 1 + 1, 0, none⟩) 1 1]; simp only [World.size_alloc] at h; exact h)
        have HUP := Lib.hid (below_up (below_up (below_up (below_up (below_alloc w5 (.cells #[.int .i64 0, .int .i64 0] 3)) (below_alloc _ (.cells #[.int .i64 (-1), .int .i64 0] 3))) (below_alloc _ (.cells #[.int .i64 9, .int .i64 0] 3))) (below_alloc _ (.cells #[.int .i64 0] 3))) (below_alloc _ (.cells #[.slice (some ⟨w5.heap.size, 0, none⟩) 2 2, .slice (some ⟨w5.heap.size + 1, 0, none⟩) 2 2, .slice (some ⟨w5.heap.size + 1 + 1, 0, none⟩) 2 2, .slice (some ⟨w5.heap.size + 1 + 1 + 1, 0, none⟩) 1 1] 43)))
        have HSZW : Hid (((((((w5).alloc (.cells #[.int .i64 0, .int .i64 0] 3)).alloc (.cells #[.int .i64 (-1), .int .i64 0] 3)).alloc (.cells #[.int .i64 9, .int .i64 0] 3)).alloc (.cells #[.int .i64 0] 3)).alloc (.cells #[.slice (some ⟨w5.heap.size, 0, none⟩) 2 2, .slice (some ⟨w5.heap.size + 1, 0, none⟩) 2 2, .slice (some ⟨w5.heap.size + 1 + 1, 0, none⟩) 2 2, .slice (some ⟨w5.heap.size + 1 + 1 + 1, 0, none⟩) 1 1] 43)).heap.size = w5.heap.size + 1 + 1 + 1 + 1 + 1) := Lib.hid (by simp)
        have HO6 := Lib.hid (HO5.out.below HUP.out)
        have HC := Lib.hid (one2_any w0 ((((((w5).alloc (.cells #[.int .i64 0, .int .i64 0] 3)).alloc (.cells #[.int .i64 (-1), .int .i64 0] 3)).alloc (.cells #[.int .i64 9, .int .i64 0] 3)).alloc (.cells #[.int .i64 0] 3)).alloc (.cells #[.slice (some ⟨w5.heap.size, 0, none⟩) 2 2, .slice (some ⟨w5.heap.size + 1, 0, none⟩) 2 2, .slice (some ⟨w5.heap.size + 1 + 1, 0, none⟩) 2 2, .slice (some ⟨w5.heap.size + 1 + 1 + 1, 0, none⟩) 1 1] 43)) g A l c (p3 + 1) (w5.heap.size + 1 + 1 + 1 + 1) 4 (HR5.out.below_ HUP.out) (by omega) (fun k hk => by
          have : k = 0 ∨ k = 1 ∨ k = 2 ∨ k = 3 := by omega
          rcases this with rfl | rfl | rfl | rfl
          · exact ⟨_, blk_cell HB5.out rfl⟩
          · exact ⟨_, blk_cell HB5.out rfl⟩
          · exact ⟨_, blk_cell HB5.out rfl⟩
          · exact ⟨_, blk_cell HB5.out rfl⟩) (by omega) (by omega) (by have := HSZ5.out; have := HWZ.out; omega))
        clear HO5 HR5 HUP
        go_wp2_with fail
        generalize (((((w5).alloc (.cells #[.int .i64 0, .int .i64 0] 3)).alloc (.cells #[.int .i64 (-1), .int .i64 0] 3)).alloc (.cells #[.int .i64 9, .int .i64 0] 3)).alloc (.cells #[.int .i64 0] 3)).alloc (.cells #[.slice (some ⟨w5.heap.size, 0, none⟩) 2 2, .slice (some ⟨w5.heap.size + 1, 0, none⟩) 2 2, .slice (some ⟨w5.heap.size + 1 + 1, 0, none⟩) 2 2, .slice (some ⟨w5.heap.size + 1 + 1 + 1, 0, none⟩) 1 1] 43) = w6 at *
        refine HC.out.mono ?_
        rintro e w7 ⟨k, v, hk4, rfl, hcell, hr, hone⟩
        have HO6 := Lib.hid (HO6.out.of_blocks (w' := w7) fun k h1 _ _ => hone.block k (by omega))
        have hsz5 := HSZ5.out
        have hszW := HSZW.out
        have hwz := HWZ.out
        clear HC
        rcases (show k = 0 ∨ k = 1 ∨ k = 2 ∨ k = 3 by omega) with rfl | rfl | rfl | rfl
        · have HV := hcell.symm.trans (blk_cell HB5.out (i := 0) rfl)
          injection HV with HV
          subst HV
          obtain ⟨fz, ⟨cv0, hcv⟩, hrn⟩ := HO6.out.setRowN (i := i) (ys := [0, 0]) hgl (by omega) (ints_blk2 (0) (0) ((hone.block _ (by omega)).trans HB1.out)) rfl (by omega) (by omega)
          have HRN := Lib.hid (And.intro hrn (show Rdr w0 (w7.setCell ⟨bo, o + i, none⟩ (.slice (some ⟨w5.heap.size, 0, none⟩) 2 2)) g A l c (p3 + 1 + 1) from ⟨blk_other hr.box (by show g ≠ bo; omega) _, hr.bytes, hr.below.setCell (by show w0.heap.size ≤ bo; have := hr.lt; omega) _, hr.lt, hr.small⟩))
          clear hsz5 hszW hwz hr hone hcell hrn HO6 HB1 HB2 HB3 HB4 HB5
          go_wp2
          clear fz hcv
          generalize w7.setCell ⟨bo, o + i, none⟩ _ = w8 at *
          go_ret
          exact ⟨_, _, _, _, _, rfl, by omega, HRN.out.1, HRN.out.2, by omega⟩
        · have HV := hcell.symm.trans (blk_cell HB5.out (i := 1) rfl)
          injection HV with HV
          subst HV
          obtain ⟨fz, ⟨cv0, hcv⟩, hrn⟩ := HO6.out.setRowN (i := i) (ys := [-1, 0]) hgl (by omega) (ints_blk2 (-1) (0) ((hone.block _ (by omega)).trans HB2.out)) rfl (by omega) (by omega)
          have HRN := Lib.hid (And.intro hrn (show Rdr w0 (w7.setCell ⟨bo, o + i, none⟩ (.slice (some ⟨w5.heap.size + 1, 0, none⟩) 2 2)) g A l c (p3 + 1 + 1) from ⟨blk_other hr.box (by show g ≠ bo; omega) _, hr.bytes, hr.below.setCell (by show w0.heap.size ≤ bo; have := hr.lt; omega) _, hr.lt, hr.small⟩))
          clear hsz5 hszW hwz hr hone hcell hrn HO6 HB1 HB2 HB3 HB4 HB5
          go_wp2
          clear fz hcv
          generalize w7.setCell ⟨bo, o + i, none⟩ _ = w8 at *
          go_ret
          exact ⟨_, _, _, _, _, rfl, by omega, HRN.out.1, HRN.out.2, by omega⟩
        · have HV := hcell.symm.trans (blk_cell HB5.out (i := 2) rfl)
          injection HV with HV
          subst HV
          obtain ⟨fz, ⟨cv0, hcv⟩, hrn⟩ := HO6.out.setRowN (i := i) (ys := [9, 0]) hgl (by omega) (ints_blk2 (9) (0) ((hone.block _ (by omega)).trans HB3.out)) rfl (by omega) (by omega)
          have HRN := Lib.hid (And.intro hrn (show Rdr w0 (w7.setCell ⟨bo, o + i, none⟩ (.slice (some ⟨w5.heap.size + 1 + 1, 0, none⟩) 2 2)) g A l c (p3 + 1 + 1) from ⟨blk_other hr.box (by show g ≠ bo; omega) _, hr.bytes, hr.below.setCell (by show w0.heap.size ≤ bo; have := hr.lt; omega) _, hr.lt, hr.small⟩))
          clear hsz5 hszW hwz hr hone hcell hrn HO6 HB1 HB2 HB3 HB4 HB5
          go_wp2
          clear fz hcv
          generalize w7.setCell ⟨bo, o + i, none⟩ _ = w8 at *
          go_ret
          exact ⟨_, _, _, _, _, rfl, by omega, HRN.out.1, HRN.out.2, by omega⟩
        · have HV := hcell.symm.trans (blk_cell HB5.out (i := 3) rfl)
          injection HV with HV
          subst HV
          obtain ⟨fz, ⟨cv0, hcv⟩, hrn⟩ := HO6.out.setRowN (i := i) (ys := [0]) hgl (by omega) (ints_blk1 (0) ((hone.block _ (by omega)).trans HB4.out)) rfl (by omega) (by omega)
          have HRN := Lib.hid (And.intro hrn (show Rdr w0 (w7.setCell ⟨bo, o + i, none⟩ (.slice (some ⟨w5.heap.size + 1 + 1 + 1, 0, none⟩) 1 1)) g A l c (p3 + 1 + 1) from ⟨blk_other hr.box (by show g ≠ bo; omega) _, hr.bytes, hr.below.setCell (by show w0.heap.size ≤ bo; have := hr.lt; omega) _, hr.lt, hr.small⟩))
          clear hsz5 hszW hwz hr hone hcell hrn HO6 HB1 HB2 HB3 HB4 HB5
          go_wp2
          clear fz hcv
          generalize w7.setCell ⟨bo, o + i, none⟩ _ = w8 at *
          go_ret
          exact ⟨_, _, _, _, _, rfl, by omega, HRN.out.1, HRN.out.2, by omega⟩
      · have hm' : (m == 0) = false := by simp; exact hm
        have HRN := Lib.hid (And.intro (HO5.out.rowsN hgl) HR5.out)
        clear HO5 HR5
        go_wp2
        go_ret
        exact ⟨_, _, _, _, _, rfl, by omega, HRN.out.1, HRN.out.2, by omega⟩

end Go.Proofs.Ytlfljcemcaphcaa

/- People drawn with numbers. -/
namespace Go.Proofs.Ytlfljcemcaphcaa
open Go.RowKit

def DrawnFk (w : World) (e : Ending) (w' : World) : Prop := ∃ Av n cv xss, e = .returned (.slice Av n cv) ∧ IntRows w' Av n cv xss ∧ Below w.heap.size w w'
def DrawnFk1 (w : World) (e : Ending) (w' : World) : Prop := ∃ Av n cv xss i, e = .returned (.tuple #[.slice Av n cv, .int .i64 i]) ∧ (-1000 ≤ i ∧ i ≤ 1000) ∧ IntRows w' Av n cv xss ∧ Below w.heap.size w w'
def DrawnFk2 (w : World) (e : Ending) (w' : World) : Prop := ∃ Av n cv xss i j, e = .returned (.tuple #[.slice Av n cv, .int .i64 i, .int .i64 j]) ∧ ((-1000 ≤ i ∧ i ≤ 1000) ∧ (-1000 ≤ j ∧ j ≤ 1000)) ∧ IntRows w' Av n cv xss ∧ Below w.heap.size w w'
def DrawnFk4 (w : World) (e : Ending) (w' : World) : Prop := ∃ Av n cv xss i j s t, e = .returned (.tuple #[.slice Av n cv, .int .i64 i, .int .i64 j, .int .i64 s, .int .i64 t]) ∧ ((0 ≤ i ∧ i < n) ∧ (0 ≤ j ∧ j < n ∧ n ≤ 6) ∧ (-2000 ≤ s ∧ s ≤ 2000) ∧ (-2000 ≤ t ∧ t ≤ 2000)) ∧ IntRows w' Av n cv xss ∧ Below w.heap.size w w'
set_option maxHeartbeats 1000000 in
theorem DrawValidFolk_any (A : Option Addr) (n c : Nat) (w : World) (h : Bytes w A n c) :
    Calls Try.prog 27 #[.slice A n c] w (DrawnFk w) := by
  have H0 := Lib.hid (newReader_any A n c w h)
  clear h
  go_enter Try.func27, Try.ntmps27
  go_wp2_with fail
  refine H0.out.mono ?_
  rintro e w1 ⟨A1, l, c1, rfl, hl, hr, hs⟩
  have H1 := Lib.hid (someFolk_any w w1 w.heap.size A1 l c1 0 hr (by omega))
  clear hr hl hs H0
  go_wp2_with fail
  refine H1.out.mono ?_
  rintro e w2 ⟨Av, k, cv, xss, p, rfl, hk, hrn, hr, hp⟩
  obtain ⟨hk1, hk6⟩ := hk
  have HR := Lib.hid hr
  have HN := Lib.hid hrn
  clear hr hrn H1
  have HE := Lib.hid (And.intro HN.out.rows HR.out.below)
  go_wp2
  go_ret
  exact ⟨_, _, _, _, rfl, HE.out.1, HE.out.2⟩
set_option maxRecDepth 100000 in
set_option maxHeartbeats 1600000 in
theorem DrawInbredOf_any (A : Option Addr) (n c : Nat) (w : World) (h : Bytes w A n c) :
    Calls Try.prog 28 #[.slice A n c] w (DrawnFk1 w) := by
  have H0 := Lib.hid (newReader_any A n c w h)
  clear h
  go_enter Try.func28, Try.ntmps28
  go_wp2_with fail
  refine H0.out.mono ?_
  rintro e w1 ⟨A1, l, c1, rfl, hl, hr, hs⟩
  have H1 := Lib.hid (someFolk_any w w1 w.heap.size A1 l c1 0 hr (by omega))
  clear hr hl hs H0
  go_wp2_with fail
  refine H1.out.mono ?_
  rintro e w2 ⟨Av, k, cv, xss, p, rfl, hk, hrn, hr, hp⟩
  obtain ⟨hk1, hk6⟩ := hk
  have HR := Lib.hid hr
  have HN := Lib.hid hrn
  clear hr hrn H1
  have HC := Lib.hid (pick_any w w2 w.heap.size A1 l c1 _ k HR.out (by omega))
  go_wp2_with fail
  refine HC.out.mono ?_
  rintro e w3 ⟨a, rfl, ha, _, hr, z, hw⟩
  have hone : w2.grownBy w3 (some w.heap.size) := One.grown (by rw [hw]; exact Rdr.one _ _ _)
  have HR := Lib.hid hr
  have HN := Lib.hid (HN.out.grown hone)
  clear hr hone hw HC
  obtain ⟨a0, a1⟩ := ha (by omega)
  have hb := below_alloc w3 (.cells #[iv (a), iv ((k : Int) - 1), iv (0), iv (6), iv (-1)] 3)
  have HRA := Lib.hid (HR.out.below_ hb)
  have HNA := Lib.hid (HN.out.grown (grown_of_below hb))
  have hlit := Ints.lit w3 [a, (k : Int) - 1, 0, 6, -1] (by simp) (fun y hy => by simp at hy; omega)
  have hg9 := blk_lt HR.out.box
  have HC := Lib.hid (one_any w _ w.heap.size A1 l c1 _ _ 5 5 [a, (k : Int) - 1, 0, 6, -1] HRA.out (by omega) hlit (by omega) (fun b o e => by injection e with e; injection e with e _ _; omega))
  clear hlit hb HR HN hg9
  go_wp2_with fail
  refine HC.out.mono ?_
  rintro e w4 ⟨i, rfl, hi, hr, ho⟩
  have HR := Lib.hid hr
  have HN := Lib.hid (HNA.out.grown ho.grown)
  clear hr ho HC HRA HNA
  have hib : -1000 ≤ i ∧ i ≤ 1000 := by simp at hi; omega
  have HE := Lib.hid (And.intro HN.out.rows HR.out.below)
  clear hi
  go_wp2
  refine bodyPost_ret (v := .tuple #[.slice Av k cv, .int .i64 i]) (by simp [results, Try.results28, go_sem]) rfl ?_
  exact ⟨_, _, _, _, _, rfl, hib, HE.out.1, HE.out.2⟩
set_option maxRecDepth 100000 in
set_option maxHeartbeats 1600000 in
theorem DrawHelpPays_any (A : Option Addr) (n c : Nat) (w : World) (h : Bytes w A n c) :
    Calls Try.prog 33 #[.slice A n c] w (DrawnFk4 w) := by
  have H0 := Lib.hid (newReader_any A n c w h)
  clear h
  go_enter Try.func33, Try.ntmps33
  go_wp2_with fail
  refine H0.out.mono ?_
  rintro e w1 ⟨A1, l, c1, rfl, hl, hr, hs⟩
  have H1 := Lib.hid (someFolk_any w w1 w.heap.size A1 l c1 0 hr (by omega))
  clear hr hl hs H0
  go_wp2_with fail
  refine H1.out.mono ?_
  rintro e w2 ⟨Av, k, cv, xss, p, rfl, hk, hrn, hr, hp⟩
  obtain ⟨hk1, hk6⟩ := hk
  have HR := Lib.hid hr
  have HN := Lib.hid hrn
  clear hr hrn H1
  have HC := Lib.hid (pick_any w w2 w.heap.size A1 l c1 _ k HR.out (by omega))
  go_wp2_with fail
  refine HC.out.mono ?_
  rintro e w3 ⟨a, rfl, ha, _, hr, z, hw⟩
  have hone : w2.grownBy w3 (some w.heap.size) := One.grown (by rw [hw]; exact Rdr.one _ _ _)
  have HR := Lib.hid hr
  have HN := Lib.hid (HN.out.grown hone)
  clear hr hone hw HC
  obtain ⟨a0, a1⟩ := ha (by omega)
  have HC := Lib.hid (pick_any w w3 w.heap.size A1 l c1 _ k HR.out (by omega))
  go_wp2_with fail
  refine HC.out.mono ?_
  rintro e w4 ⟨b, rfl, hb, _, hr, z, hw⟩
  have hone : w3.grownBy w4 (some w.heap.size) := One.grown (by rw [hw]; exact Rdr.one _ _ _)
  have HR := Lib.hid hr
  have HN := Lib.hid (HN.out.grown hone)
  clear hr hone hw HC
  obtain ⟨b0, b1⟩ := hb (by omega)
  have HC := Lib.hid (pick_any w w4 w.heap.size A1 l c1 _ 6 HR.out (by omega))
  go_wp2_with fail
  refine HC.out.mono ?_
  rintro e w5 ⟨s0, rfl, hs0, _, hr, z, hw⟩
  have hone : w4.grownBy w5 (some w.heap.size) := One.grown (by rw [hw]; exact Rdr.one _ _ _)
  have HR := Lib.hid hr
  have HN := Lib.hid (HN.out.grown hone)
  clear hr hone hw HC
  obtain ⟨s00, s01⟩ := hs0 (by omega)
  have hb := below_alloc w5 (.cells #[iv (1), iv (s0), iv (0), iv (1001)] 3)
  have HRA := Lib.hid (HR.out.below_ hb)
  have HNA := Lib.hid (HN.out.grown (grown_of_below hb))
  have hlit := Ints.lit w5 [1, s0, 0, 1001] (by simp) (fun y hy => by simp at hy; omega)
  have hg9 := blk_lt HR.out.box
  have HC := Lib.hid (one_any w _ w.heap.size A1 l c1 _ _ 4 4 [1, s0, 0, 1001] HRA.out (by omega) hlit (by omega) (fun b o e => by injection e with e; injection e with e _ _; omega))
  clear hlit hb HR HN hg9
  go_wp2_with fail
  refine HC.out.mono ?_
  rintro e w6 ⟨s, rfl, hs, hr, ho⟩
  have HR := Lib.hid hr
  have HN := Lib.hid (HNA.out.grown ho.grown)
  clear hr ho HC HRA HNA
  have HC := Lib.hid (pick_any w w6 w.heap.size A1 l c1 _ 20 HR.out (by omega))
  go_wp2_with fail
  refine HC.out.mono ?_
  rintro e w7 ⟨t0, rfl, ht0, _, hr, z, hw⟩
  have hone : w6.grownBy w7 (some w.heap.size) := One.grown (by rw [hw]; exact Rdr.one _ _ _)
  have HR := Lib.hid hr
  have HN := Lib.hid (HN.out.grown hone)
  clear hr hone hw HC
  obtain ⟨t00, t01⟩ := ht0 (by omega)
  have hb := below_alloc w7 (.cells #[iv (2), iv (t0), iv (0), iv (-1)] 3)
  have HRA := Lib.hid (HR.out.below_ hb)
  have HNA := Lib.hid (HN.out.grown (grown_of_below hb))
  have hlit := Ints.lit w7 [2, t0, 0, -1] (by simp) (fun y hy => by simp at hy; omega)
  have hg9 := blk_lt HR.out.box
  have HC := Lib.hid (one_any w _ w.heap.size A1 l c1 _ _ 4 4 [2, t0, 0, -1] HRA.out (by omega) hlit (by omega) (fun b o e => by injection e with e; injection e with e _ _; omega))
  clear hlit hb HR HN hg9
  go_wp2_with fail
  refine HC.out.mono ?_
  rintro e w8 ⟨t, rfl, ht, hr, ho⟩
  have HR := Lib.hid hr
  have HN := Lib.hid (HNA.out.grown ho.grown)
  clear hr ho HC HRA HNA
  have hsb : -2000 ≤ s ∧ s ≤ 2000 := by simp at hs; omega
  have htb : -2000 ≤ t ∧ t ≤ 2000 := by simp at ht; omega
  have HE := Lib.hid (And.intro HN.out.rows HR.out.below)
  clear hs ht
  go_wp2
  refine bodyPost_ret (v := .tuple #[.slice Av k cv, .int .i64 a, .int .i64 b, .int .i64 s, .int .i64 t]) (by simp [results, Try.results33, go_sem]) rfl ?_
  exact ⟨_, _, _, _, _, _, _, _, rfl, by omega, HE.out.1, HE.out.2⟩

end Go.Proofs.Ytlfljcemcaphcaa

/- Traits drawn. -/
namespace Go.Proofs.Ytlfljcemcaphcaa
open Go.RowKit

set_option maxRecDepth 100000 in
set_option maxHeartbeats 8000000 in
theorem DrawTraitChange_any (A : Option Addr) (n c : Nat) (w : World) (h : Bytes w A n c) :
    Calls Try.prog 34 #[.slice A n c] w (DrawnFk w) := by
  have H0 := Lib.hid (newReader_any A n c w h)
  clear h
  go_enter Try.func34, Try.ntmps34
  go_wp2_with fail
  refine H0.out.mono ?_
  rintro e w1 ⟨A1, l, c1, rfl, hl, hr, hs⟩
  have hgl := blk_lt hr.box
  have HT1 := Lib.hid ((TO.start hr).below (below_alloc (w1.alloc (.cells #[] 43)) (.cells #[iv 3, iv 2, iv 4, iv 1, iv 6, iv 0] 3)))
  have hlit := Ints.lit (w1.alloc (.cells #[] 43)) [3, 2, 4, 1, 6, 0] (by decide) (by decide)
  rw [World.size_alloc] at hlit
  have H1 := Lib.hid (one_any w _ w.heap.size A1 l c1 0 _ 6 6 [3, 2, 4, 1, 6, 0] HT1.out.rd (by omega) hlit (by omega) (fun b o e => by injection e with e; injection e with e _ _; omega))
  clear hr hlit hl hs H0
  go_wp2_with fail
  refine H1.out.mono ?_
  rintro e w2 ⟨x, rfl, hx, hr, ho⟩
  have HT2 := Lib.hid (HT1.out.one hr ho)
  have hx1 : 0 ≤ x ∧ x ≤ 6 := by simp at hx; omega
  obtain ⟨n2, rfl⟩ := Int.eq_ofNat_of_zero_le (show 0 ≤ x by omega)
  clear hx hr ho H1 HT1
  go_wp2
  go_loopw [4] (fun v wr => ∃ (vs : List Value) (xss : List (List Int)) (p' : Nat), Hid (TO w w1 w.heap.size A1 l c1 p' v vs xss wr) ∧ xss.length ≤ n2 ∧ p' ≤ 1 + 3 * xss.length) (fun v _ => n2 - (match v with | .slice _ k _ => k | _ => 0))
  case atStart => exact ⟨[], [], 1, HT2, by simp, by simp⟩
  case round =>
    clear HT2
    obtain ⟨vs, xss, p3, HT, hlen, hp3⟩ := hrel
    obtain ⟨Av, cv, rfl⟩ := HT.out.bo.form
    by_cases hlt : xss.length < n2
    · skip
      have HC := Lib.hid (pick_any w wr w.heap.size A1 l c1 p3 19 HT.out.rd (by omega))
      go_wp2_with fail
      refine HC.out.mono ?_
      rintro e w4 ⟨m1, rfl, hk1, _, hr, z, hw⟩
      have hone := Rdr.one (g := w.heap.size) wr (.int .i64 (p3 + 1 : Nat)) z
      rw [← hw] at hone
      have HT := Lib.hid (HT.out.one hr hone)
      clear hr hone hw HC
      obtain ⟨m10, m11⟩ := hk1 (by omega)
      have HC := Lib.hid (pick_any w w4 w.heap.size A1 l c1 (p3 + 1) 5 HT.out.rd (by omega))
      go_wp2_with fail
      refine HC.out.mono ?_
      rintro e w5 ⟨m2, rfl, hk2, _, hr, z, hw⟩
      have hone := Rdr.one (g := w.heap.size) w4 (.int .i64 ((p3 + 1) + 1 : Nat)) z
      rw [← hw] at hone
      have HT := Lib.hid (HT.out.one hr hone)
      clear hr hone hw HC
      obtain ⟨m20, m21⟩ := hk2 (by omega)
      have HC := Lib.hid (pick_any w w5 w.heap.size A1 l c1 (p3 + 1 + 1) 19 HT.out.rd (by omega))
      go_wp2_with fail
      refine HC.out.mono ?_
      rintro e w6 ⟨m3, rfl, hk3, _, hr, z, hw⟩
      have hone := Rdr.one (g := w.heap.size) w5 (.int .i64 ((p3 + 1 + 1) + 1 : Nat)) z
      rw [← hw] at hone
      have HT := Lib.hid (HT.out.one hr hone)
      clear hr hone hw HC
      obtain ⟨m30, m31⟩ := hk3 (by omega)
      clear hk1 hk2 hk3
      have HI := Lib.hid (HT.out.litn3 (m1 - 9) (m2) (m3 - 9))
      have hWs : (w6.alloc (.cells #[iv (m1 - 9), iv (m2), iv (m3 - 9)] 3)).heap.size = w6.heap.size + 1 := by simp
      obtain ⟨Ar, nr, cr, gg, e, hn, ho, _⟩ := HI.out.bi.owns (by simp) (fun x hx => by simp at hx; omega)
      injection e with e1 e2 e3
      subst e1
      subst e2
      subst e3
      have HO := Lib.hid ho
      have hb := below_alloc (w6.alloc (.cells #[iv (m1 - 9), iv (m2), iv (m3 - 9)] 3)) (.cells #[.slice (some ⟨w6.heap.size, 0, none⟩) 3 3] 43)
      have HB4 := Lib.hid (HI.out.bo.below hb).own
      have HN := Lib.hid (cell_one_new (w6.alloc (.cells #[iv (m1 - 9), iv (m2), iv (m3 - 9)] 3)) (.slice (some ⟨w6.heap.size, 0, none⟩) 3 3) 43)
      have hHs := HI.out.hs
      have hlh := HI.out.lh
      clear hb ho hn
      obtain ⟨i0, hi0, hz0, hz1, hz2⟩ := info_parts Try.info_row
      go_wp2_with (at_builtin; refine wpList_append_own_at _ rfl _ _ 22 rfl w1.heap.size 43 i0 (.slice none 0 0) 1 24 Try.underlying22 hi0 hz0 hz1 hz2 rfl (by decide) _ xss.length vs rfl HB4.out ⟨w6.heap.size + 1, 0, none⟩ 1 1 [.slice (some ⟨w6.heap.size, 0, none⟩) 3 3] rfl rfl ?f1 ?f2 ?f3 ?f4 ?f5 ?_)
      try (case f1 => have := HN.out; rw [hWs] at this; exact this)
      case f2 => intro u hu; simp at hu; subst hu; rfl
      case f3 => unfold maxLen; omega
      case f4 => omega
      case f5 => simp; omega
      intro v' w9 hown' hgrow _ hat
      have HT9 := Lib.hid (TI.done (w := w6.alloc (.cells #[iv (m1 - 9), iv (m2), iv (m3 - 9)] 3)) (ys := [m1 - 9, m2, m3 - 9]) (xss := xss) (v := .slice Av xss.length cv) (v' := v') (vs := vs) (Ar := some ⟨w6.heap.size, 0, none⟩) (cr := 3) HI.out HO.out hown' hgrow (by simpa using hat))
      clear HB4 HN hown' hgrow hat HI HO
      obtain ⟨Av9, cv9, hv9⟩ := HT9.out.bo.form
      subst hv9
      go_wp2
      go_roundw
      case rel => exact ⟨_, _, _, HT9, by simp; omega, by simp; omega⟩
      case measure => simp; omega
    · have hxl : xss.length = n2 := by omega
      obtain ⟨A9, n9, c9, bo, e9, hn9, hown⟩ := HT.out.bo.owns (by omega)
      injection e9 with e91 e92 e93
      subst e91
      subst e93
      rw [hn9, hxl] at hown
      rw [hxl]
      by_cases hz : n2 = 0
      · subst hz
        have HE := Lib.hid (And.intro hown.rows HT.out.rd.below)
        clear hown hn9 e92 hlt hlen hxl HT
        go_wp2
        go_ret
        exact ⟨_, _, _, _, rfl, HE.out.1, HE.out.2⟩
      have hoo : ∃ o, Av = some ⟨bo, o, none⟩ ∧ w1.heap.size ≤ bo ∧ bo < wr.heap.size := by
        obtain ⟨o, G, R, C, e, h1, h2, _⟩ := hown.at_ (by omega)
        exact ⟨o, e, h1, h2⟩
      obtain ⟨o, rfl, hlo, hhi⟩ := hoo
      have HO := Lib.hid hown
      have HC := Lib.hid (pick_any w wr w.heap.size A1 l c1 p3 30 HT.out.rd (by omega))
      have HWZ := Lib.hid HT.out.up.size
      clear hown hn9 e92 hlt hlen
      have hp4 : p3 ≤ 1 + 3 * n2 := by omega
      have hn0 : 0 < n2 := by omega
      clear hp3 hxl HT
      go_wp2_with fail
      refine HC.out.mono ?_
      rintro e w5 ⟨m, rfl, _, _, hr, z, hw⟩
      have hone := Rdr.one (g := w.heap.size) wr (.int .i64 (p3 + 1 : Nat)) z
      rw [← hw] at hone
      have HO5 := Lib.hid (show OwnR w1.heap.size w5.heap.size w5 bo (some ⟨bo, o, none⟩) n2 cv xss by rw [hone.size]; exact HO.out.of_blocks fun k h1 _ _ => hone.block k (by omega))
      have HR5 := Lib.hid hr
      have HSZ5 := Lib.hid hone.size
      clear hr hone hw HC HO
      by_cases hm : m = 0
      · subst hm
        have HB1 := Lib.hid (blk_old (blk_old (blk_old (blk_new w5 3 #[.int .i64 0, .int .i64 (-1), .int .i64 0]) (.cells #[.int .i64 10, .int .i64 1, .int .i64 0] 3)) (.cells #[.int .i64 1, .int .i64 1] 3)) (.cells #[.slice (some ⟨w5.heap.size, 0, none⟩) 3 3, .slice (some ⟨w5.heap.size + 1, 0, none⟩) 3 3, .slice (some ⟨w5.heap.size + 1 + 1, 0, none⟩) 2 2] 43))
        have HB2 := Lib.hid (blk_old (blk_old (show Blk (((w5).alloc (.cells #[.int .i64 0, .int .i64 (-1), .int .i64 0] 3)).alloc (.cells #[.int .i64 10, .int .i64 1, .int .i64 0] 3)) (w5.heap.size + 1) 3 #[.int .i64 10, .int .i64 1, .int .i64 0] from by have h := blk_new ((w5).alloc (.cells #[.int .i64 0, .int .i64 (-1), .int .i64 0] 3)) 3 #[.int .i64 10, .int .i64 1, .int .i64 0]; simp only [World.size_alloc] at h; exact h) (.cells #[.int .i64 1, .int .i64 1] 3)) (.cells #[.slice (some ⟨w5.heap.size, 0, none⟩) 3 3, .slice (some ⟨w5.heap.size + 1, 0, none⟩) 3 3, .slice (some ⟨w5.heap.size + 1 + 1, 0, none⟩) 2 2] 43))
        have HB3 := Lib.hid (blk_old (show Blk ((((w5).alloc (.cells #[.int .i64 0, .int .i64 (-1), .int .i64 0] 3)).alloc (.cells #[.int .i64 10, .int .i64 1, .int .i64 0] 3)).alloc (.cells #[.int .i64 1, .int .i64 1] 3)) (w5.heap.size + 1 + 1) 3 #[.int .i64 1, .int .i64 1] from by have h := blk_new (((w5).alloc (.cells #[.int .i64 0, .int .i64 (-1), .int .i64 0] 3)).alloc (.cells #[.int .i64 10, .int .i64 1, .int .i64 0] 3)) 3 #[.int .i64 1, .int .i64 1]; simp only [World.size_alloc] at h; exact h) (.cells #[.slice (some ⟨w5.heap.size, 0, none⟩) 3 3, .slice (some ⟨w5.heap.size + 1, 0, none⟩) 3 3, .slice (some ⟨w5.heap.size + 1 + 1, 0, none⟩) 2 2] 43))
        have HB4 := Lib.hid (show Blk (((((w5).alloc (.cells #[.int .i64 0, .int .i64 (-1), .int .i64 0] 3)).alloc (.cells #[.int .i64 10, .int .i64 1, .int .i64 0] 3)).alloc (.cells #[.int .i64 1, .int .i64 1] 3)).alloc (.cells #[.slice (some ⟨w5.heap.size, 0, none⟩) 3 3, .slice (some ⟨w5.heap.size + 1, 0, none⟩) 3 3, .slice (some ⟨w5.heap.size + 1 + 1, 0, none⟩) 2 2] 43)) (w5.heap.size + 1 + 1 + 1) 43 #[.slice (some ⟨w5.heap.size, 0, none⟩) 3 3, .slice (some ⟨w5.heap.size + 1, 0, none⟩) 3 3, .slice (some ⟨w5.heap.size + 1 + 1, 0, none⟩) 2 2] from by have h := blk_new ((((w5).alloc (.cells #[.int .i64 0, .int .i64 (-1), .int .i64 0] 3)).alloc (.cells #[.int .i64 10, .int .i64 1, .int .i64 0] 3)).alloc (.cells #[.int .i64 1, .int .i64 1] 3)) 43 #[.slice (some ⟨w5.heap.size, 0, none⟩) 3 3, .slice (some ⟨w5.heap.size + 1, 0, none⟩) 3 3, .slice (some ⟨w5.heap.size + 1 + 1, 0, none⟩) 2 2]; simp only [World.size_alloc] at h; exact h)
        have HUP := Lib.hid (below_up (below_up (below_up (below_alloc w5 (.cells #[.int .i64 0, .int .i64 (-1), .int .i64 0] 3)) (below_alloc _ (.cells #[.int .i64 10, .int .i64 1, .int .i64 0] 3))) (below_alloc _ (.cells #[.int .i64 1, .int .i64 1] 3))) (below_alloc _ (.cells #[.slice (some ⟨w5.heap.size, 0, none⟩) 3 3, .slice (some ⟨w5.heap.size + 1, 0, none⟩) 3 3, .slice (some ⟨w5.heap.size + 1 + 1, 0, none⟩) 2 2] 43)))
        have HSZW : Hid ((((((w5).alloc (.cells #[.int .i64 0, .int .i64 (-1), .int .i64 0] 3)).alloc (.cells #[.int .i64 10, .int .i64 1, .int .i64 0] 3)).alloc (.cells #[.int .i64 1, .int .i64 1] 3)).alloc (.cells #[.slice (some ⟨w5.heap.size, 0, none⟩) 3 3, .slice (some ⟨w5.heap.size + 1, 0, none⟩) 3 3, .slice (some ⟨w5.heap.size + 1 + 1, 0, none⟩) 2 2] 43)).heap.size = w5.heap.size + 1 + 1 + 1 + 1) := Lib.hid (by simp)
        have HO6 := Lib.hid (HO5.out.below HUP.out)
        have HC := Lib.hid (one2_any w (((((w5).alloc (.cells #[.int .i64 0, .int .i64 (-1), .int .i64 0] 3)).alloc (.cells #[.int .i64 10, .int .i64 1, .int .i64 0] 3)).alloc (.cells #[.int .i64 1, .int .i64 1] 3)).alloc (.cells #[.slice (some ⟨w5.heap.size, 0, none⟩) 3 3, .slice (some ⟨w5.heap.size + 1, 0, none⟩) 3 3, .slice (some ⟨w5.heap.size + 1 + 1, 0, none⟩) 2 2] 43)) w.heap.size A1 l c1 (p3 + 1) (w5.heap.size + 1 + 1 + 1) 3 (HR5.out.below_ HUP.out) (by omega) (fun k hk => by
          have : k = 0 ∨ k = 1 ∨ k = 2 := by omega
          rcases this with rfl | rfl | rfl
          · exact ⟨_, blk_cell HB4.out rfl⟩
          · exact ⟨_, blk_cell HB4.out rfl⟩
          · exact ⟨_, blk_cell HB4.out rfl⟩) (by omega) (by omega) (by have := HSZ5.out; have := HWZ.out; omega))
        clear HO5 HR5 HUP
        go_wp2_with fail
        generalize ((((w5).alloc (.cells #[.int .i64 0, .int .i64 (-1), .int .i64 0] 3)).alloc (.cells #[.int .i64 10, .int .i64 1, .int .i64 0] 3)).alloc (.cells #[.int .i64 1, .int .i64 1] 3)).alloc (.cells #[.slice (some ⟨w5.heap.size, 0, none⟩) 3 3, .slice (some ⟨w5.heap.size + 1, 0, none⟩) 3 3, .slice (some ⟨w5.heap.size + 1 + 1, 0, none⟩) 2 2] 43) = w6 at *
        refine HC.out.mono ?_
        rintro e w7 ⟨k, v, hk4, rfl, hcell, hr, hone⟩
        have HO6 := Lib.hid (HO6.out.of_blocks (w' := w7) fun k h1 _ _ => hone.block k (by omega))
        have hsz5 := HSZ5.out
        have hszW := HSZW.out
        have hwz := HWZ.out
        clear HC
        rcases (show k = 0 ∨ k = 1 ∨ k = 2 by omega) with rfl | rfl | rfl
        · have HV := hcell.symm.trans (blk_cell HB4.out (i := 0) rfl)
          injection HV with HV
          subst HV
          obtain ⟨fz, ⟨cv0, hcv⟩, hrn⟩ := HO6.out.setRowN (i := 0) (ys := [0, -1, 0]) hgl (by omega) (ints_blk3 (0) (-1) (0) ((hone.block _ (by omega)).trans HB1.out)) rfl (by omega) (by omega)
          simp only [Nat.add_zero] at fz hcv hrn
          have HRN := Lib.hid (And.intro hrn (show Below w.heap.size w (w7.setCell ⟨bo, o, none⟩ (.slice (some ⟨w5.heap.size, 0, none⟩) 3 3)) from hr.below.setCell (by show w.heap.size ≤ bo; omega) _))
          clear hsz5 hszW hwz hr hone hcell hrn HO6 HB1 HB2 HB3 HB4
          go_wp2
          clear fz hcv
          generalize w7.setCell ⟨bo, o, none⟩ _ = w8 at *
          go_ret
          exact ⟨_, _, _, _, rfl, HRN.out.1.rows, HRN.out.2⟩
        · have HV := hcell.symm.trans (blk_cell HB4.out (i := 1) rfl)
          injection HV with HV
          subst HV
          obtain ⟨fz, ⟨cv0, hcv⟩, hrn⟩ := HO6.out.setRowN (i := 0) (ys := [10, 1, 0]) hgl (by omega) (ints_blk3 (10) (1) (0) ((hone.block _ (by omega)).trans HB2.out)) rfl (by omega) (by omega)
          simp only [Nat.add_zero] at fz hcv hrn
          have HRN := Lib.hid (And.intro hrn (show Below w.heap.size w (w7.setCell ⟨bo, o, none⟩ (.slice (some ⟨w5.heap.size + 1, 0, none⟩) 3 3)) from hr.below.setCell (by show w.heap.size ≤ bo; omega) _))
          clear hsz5 hszW hwz hr hone hcell hrn HO6 HB1 HB2 HB3 HB4
          go_wp2
          clear fz hcv
          generalize w7.setCell ⟨bo, o, none⟩ _ = w8 at *
          go_ret
          exact ⟨_, _, _, _, rfl, HRN.out.1.rows, HRN.out.2⟩
        · have HV := hcell.symm.trans (blk_cell HB4.out (i := 2) rfl)
          injection HV with HV
          subst HV
          obtain ⟨fz, ⟨cv0, hcv⟩, hrn⟩ := HO6.out.setRowN (i := 0) (ys := [1, 1]) hgl (by omega) (ints_blk2 (1) (1) ((hone.block _ (by omega)).trans HB3.out)) rfl (by omega) (by omega)
          simp only [Nat.add_zero] at fz hcv hrn
          have HRN := Lib.hid (And.intro hrn (show Below w.heap.size w (w7.setCell ⟨bo, o, none⟩ (.slice (some ⟨w5.heap.size + 1 + 1, 0, none⟩) 2 2)) from hr.below.setCell (by show w.heap.size ≤ bo; omega) _))
          clear hsz5 hszW hwz hr hone hcell hrn HO6 HB1 HB2 HB3 HB4
          go_wp2
          clear fz hcv
          generalize w7.setCell ⟨bo, o, none⟩ _ = w8 at *
          go_ret
          exact ⟨_, _, _, _, rfl, HRN.out.1.rows, HRN.out.2⟩
      · have hm' : (m == 0) = false := by simp only [beq_eq_false_iff_ne, ne_eq]; exact hm
        have HE := Lib.hid (And.intro HO5.out.rows HR5.out.below)
        clear HO5 HR5
        go_wp2
        go_ret
        exact ⟨_, _, _, _, rfl, HE.out.1, HE.out.2⟩

end Go.Proofs.Ytlfljcemcaphcaa

