/- Texts merged: K8 K9 C97. -/
import Derived.Test.YtidoahicgiaodaaQ6
import Derived.Laws.CopyOwn
/- The next shares, by both programs. -/
namespace Go.Proofs.Ytidoahicgiaodaa
open Go.RowKit

/-- What the next shares are to each other. -/
def nxV (a : List (List Int)) (x : List Int) (n i : Nat) : Int := gi x i * dotr a x i n
def nxL (a : List (List Int)) (x : List Int) (n k : Nat) : List Int := (List.range k).map (nxV a x n)
theorem nxL_succ (a : List (List Int)) (x : List Int) (n k : Nat) : nxL a x n (k + 1) = nxL a x n k ++ [nxV a x n k] := by simp [nxL, List.range_succ]
theorem nxL_len (a : List (List Int)) (x : List Int) (n k : Nat) : (nxL a x n k).length = k := by simp [nxL]
theorem gi_nxL {a : List (List Int)} {x : List Int} {n k i : Nat} (h : i < k) : gi (nxL a x n k) i = nxV a x n i := gi_range h
theorem VQ.len2' {a : List (List Int)} {n : Nat} (v : VQ a) (hl : a.length = n) : (gr a 0).length = n := by have := v.2; omega
theorem dotr_pos {a : List (List Int)} {x : List Int} {i n : Nat} (ha : ∀ j, j < n → 1 ≤ g2 a i j) (hx : ∀ j, j < n → 0 ≤ gi x j) : ∀ {k}, k ≤ n → sm x k ≤ dotr a x i k
  | 0, _ => Int.le_refl _
  | k + 1, h => by
    have h1 := dotr_pos ha hx (k := k) (by omega)
    have h2 := ha k (by omega)
    have h3 := hx k (by omega)
    have h4 : 1 * gi x k ≤ g2 a i k * gi x k := Int.mul_le_mul_of_nonneg_right h2 h3
    simp only [sm, dotr]
    omega
/-- A field and shares. -/
structure FS (a : List (List Int)) (x : List Int) (n : Nat) : Prop where
  f : VF a
  s : VS x (n : Int)
  l : a.length = n
theorem FS.n3 {a x n} (h : FS a x n) : 1 ≤ n ∧ n ≤ 3 := by have := h.f.q.1.n1; have := h.f.q.1.n3; have := h.l; omega
theorem FS.xl {a x n} (h : FS a x n) : x.length = n := by have := h.s.1; omega
theorem FS.x {a x n} (h : FS a x n) : ∀ j, j < n → 0 ≤ gi x j ∧ gi x j ≤ 1000 := VS.bds h.s
theorem FS.a {a x n} (h : FS a x n) {i j : Nat} (hi : i < n) (hj : j < n) : 1 ≤ g2 a i j ∧ g2 a i j ≤ 9 := by
  have hl := h.l
  have h1 := h.f.p i j (by omega) (by omega)
  have h2 := h.f.q.1.bd (i := i) (j := j) (by omega) (by have := h.f.q.2; omega)
  omega
theorem FS.dot {a x n} (h : FS a x n) {i : Nat} (hi : i < n) : 1 ≤ dotr a x i n ∧ dotr a x i n ≤ 27000 := by
  have h0 := h.n3
  have h1 := dotr_pos (a := a) (x := x) (i := i) (n := n) (fun j hj => (h.a hi hj).1) (fun j hj => (h.x j hj).1) (Nat.le_refl n)
  have h2 := dotr_bd (a := a) (w := x) (i := i) (m := n) (fun j hj => by have := h.a hi hj; omega) h.x (Nat.le_refl n)
  have h3 := h.s.2.2
  unfold tot at h3
  rw [h.xl] at h3
  omega
theorem FS.nx {a x n} (h : FS a x n) {i : Nat} (hi : i < n) : 0 ≤ nxV a x n i ∧ nxV a x n i ≤ 27000000 ∧ (0 < gi x i → 0 < nxV a x n i) := by
  have h1 := h.dot hi
  have h2 := h.x i hi
  unfold nxV
  have h3 : 0 * dotr a x i n ≤ gi x i * dotr a x i n := Int.mul_le_mul_of_nonneg_right h2.1 (by omega)
  have h4 : gi x i * dotr a x i n ≤ 1000 * 27000 := Int.mul_le_mul h2.2 h1.2 (by omega) (by omega)
  exact ⟨by omega, by omega, fun h => Int.mul_pos h (by omega)⟩
theorem sm_has {x : List Int} : ∀ {k}, (∀ j, j < k → 0 ≤ gi x j) → 0 < sm x k → ∃ j, j < k ∧ 0 < gi x j
  | 0, _, h => by simp [sm] at h
  | k + 1, hp, h => by
    by_cases e : 0 < gi x k
    · exact ⟨k, by omega, e⟩
    · have h1 := hp k (by omega)
      obtain ⟨j, hj, hp'⟩ := sm_has (x := x) (k := k) (fun j hj => hp j (by omega)) (by simp only [sm] at h; omega)
      exact ⟨j, by omega, hp'⟩
theorem FS.clr {a x n} (h : FS a x n) : ClrP (nxL a x n n) ∧ 0 < gcdL (nxL a x n n) n := by
  have h0 := h.s.2.2
  unfold tot at h0
  rw [h.xl] at h0
  obtain ⟨j, hj, hp⟩ := sm_has (fun j hj => (h.x j hj).1) h0
  have hc : ClrP (nxL a x n n) := by
    refine ⟨⟨j, by rw [nxL_len]; exact hj, ?_⟩, .inl fun p hp => ?_⟩
    · rw [gi_nxL hj]; have := (h.nx hj).2.2 hp; omega
    · rw [nxL_len] at hp; rw [gi_nxL hp]; exact (h.nx hp).1
  exact ⟨hc, (clr_yes (nxL_len a x n n) hc).1⟩
theorem FS.mid {a x n} (h : FS a x n) : ∀ p, p < (nxL a x n n).length → Mid (gi (nxL a x n n) p) := fun p hp => by
  rw [nxL_len] at hp
  rw [gi_nxL hp]
  have := h.nx hp
  unfold Mid
  omega
/-- What NextShares answers. -/
noncomputable def nsF (a : List (List Int)) (x : List Int) : List Int := if pb (VF a ∧ VS x a.length) = true then clrL (nxL a x a.length a.length) (gcdL (nxL a x a.length a.length) a.length) a.length else []
theorem nsF_yes {a : List (List Int)} {x : List Int} {n : Nat} (h : FS a x n) : nsF a x = clrL (nxL a x n n) (gcdL (nxL a x n n) n) n := by
  unfold nsF; rw [if_pos (pb_true ⟨h.f, by rw [h.l]; exact h.s⟩), h.l]
theorem nsF_no {a : List (List Int)} {x : List Int} (h : ¬ (VF a ∧ VS x a.length)) : nsF a x = [] := by unfold nsF; rw [if_neg (by rw [pb_false h]; decide)]
theorem FS.of {a : List (List Int)} {x : List Int} {n : Nat} (hl : a.length = n) (hf : VF a) (hs : VS x (n : Int)) : FS a x n := ⟨hf, hs, hl⟩
theorem nsF_le (a : List (List Int)) (x : List Int) : (nsF a x).length ≤ 100 := by
  by_cases h : VF a ∧ VS x a.length
  · have hf : FS a x a.length := ⟨h.1, h.2, rfl⟩
    have := hf.n3
    rw [nsF_yes hf, clrL_len]; omega
  · rw [nsF_no h]; simp

end Go.Proofs.Ytidoahicgiaodaa

/- NextShares, by both programs. -/
namespace Go.Proofs.Ytidoahicgiaodaa
open Go.RowKit

theorem NewI.empty {w w' : World} {ys : List Int} (h : Below w.heap.size w w') (hy : ys = []) : NewI w ys (.returned (.slice none 0 0)) w' := by
  subst hy; exact ⟨none, 0, 0, 0, rfl, rfl, OwnI.nil _ _ _ _, h⟩
theorem NewI.from {w w1 w2 : World} {ys : List Int} {e : Ending} (h : Below w.heap.size w w1) (k : NewI w1 ys e w2) : NewI w ys e w2 := by
  obtain ⟨A, n, c, g, he, hn, ho, hb⟩ := k
  exact ⟨A, n, c, g, he, hn, ho.mono h.size (Nat.le_refl _), below_up h hb⟩


end Go.Proofs.Ytidoahicgiaodaa

/- Trees by the program: what ways cost, and their rounds. -/
namespace Go.Proofs.Ytidoahicgiaodaa
open Go.RowKit

/-- Costs of any size below a bound. -/
structure SqB (a : List (List Int)) (n : Nat) (B : Int) : Prop where
  len : a.length = n
  row : ∀ i, i < n → (gr a i).length = n
  bd : ∀ i j, i < n → j < n → -B ≤ g2 a i j ∧ g2 a i j ≤ B
theorem VC.sq {a : List (List Int)} (v : VC a) : SqB a a.length 20 := ⟨rfl, fun i hi => (v.rows i hi).1, fun i j hi hj => by have := (v.rows i hi).2 j hj; unfold InR at this; unfold g2; omega⟩
theorem SqB.mono {a : List (List Int)} {n : Nat} {B C : Int} (h : SqB a n B) (k : B ≤ C) : SqB a n C := ⟨h.len, h.row, fun i j hi hj => by have := h.bd i j hi hj; omega⟩
def csL (a : List (List Int)) (t : List Int) (n : Nat) : List Int := (List.range n).map fun i => if gi t i = (i : Int) then 0 else g2 a i (gi t i).toNat
theorem csL_len (a : List (List Int)) (t : List Int) (n : Nat) : (csL a t n).length = n := by simp [csL]
theorem gi_csL {a : List (List Int)} {t : List Int} {n i : Nat} (h : i < n) : gi (csL a t n) i = if gi t i = (i : Int) then 0 else g2 a i (gi t i).toNat := by
  rw [gi_get (by rw [csL_len]; exact h)]; simp [csL]
theorem csL_bd {a : List (List Int)} {t : List Int} {n : Nat} {B : Int} (h : SqB a n B) (hB : 0 ≤ B) (ht : t.length = n) (hb : InB t) : ∀ i, i < n → -B ≤ gi (csL a t n) i ∧ gi (csL a t n) i ≤ B := fun i hi => by
  rw [gi_csL hi]; split
  · omega
  · have h1 := hb.bd i (by omega)
    exact h.bd i _ hi (by omega)
theorem csL_mem {a : List (List Int)} {t : List Int} {n : Nat} {B : Int} (h : SqB a n B) (hB : 0 ≤ B) (ht : t.length = n) (hb : InB t) : ∀ x ∈ csL a t n, -B ≤ x ∧ x ≤ B := fun x hx => by
  obtain ⟨i, hi, rfl⟩ := List.mem_iff_getElem.1 hx
  rw [← gi_get hi]; exact csL_bd h hB ht hb i (by rw [csL_len] at hi; exact hi)

/-- A round; the first one that is not at the root. -/
def rfL (t : List Int) (x : Int) (p : Nat) : List Int := (List.range (p + 1)).map (orb t x)
theorem rfL_len (t : List Int) (x : Int) (p : Nat) : (rfL t x p).length = p + 1 := by simp [rfL]
theorem rfL_zero (t : List Int) (x : Int) : rfL t x 0 = [x] := rfl
theorem rfL_succ (t : List Int) (x : Int) (p : Nat) : rfL t x (p + 1) = rfL t x p ++ [orb t x (p + 1)] := by rw [rfL, List.range_succ, List.map_append]; rfl
def badI (t : List Int) (r : Int) (n : Nat) : Option Nat := (List.range n).find? fun i => orb t i n != r
def perI (t : List Int) (x : Int) (n : Nat) : Nat := ((List.range n).find? fun p => orb t x (p + 1) == x).getD 0
def raL (t : List Int) (r : Int) (n : Nat) : List Int := match badI t r n with
  | none => []
  | some i => rfL t (orb t i n) (perI t (orb t i n) n)
theorem perI_ok {t : List Int} {x : Int} {n p : Nat} (hp : p < n) (h : orb t x (p + 1) = x) : perI t x n < n ∧ orb t x (perI t x n + 1) = x ∧ ∀ j, j < perI t x n → orb t x (j + 1) ≠ x := by
  unfold perI
  cases hf : (List.range n).find? fun p => orb t x (p + 1) == x with
  | none =>
    rw [List.find?_eq_none] at hf
    exact absurd (hf p (List.mem_range.2 hp)) (by simp [h])
  | some q =>
    have h1 := List.find?_some hf
    have h2 := List.mem_of_find?_eq_some hf
    rw [List.find?_range_eq_some] at hf
    refine ⟨List.mem_range.1 h2, by simpa using h1, fun j hj => ?_⟩
    simpa using hf.2.2 j hj
theorem badI_some {t : List Int} {r : Int} {n i : Nat} (hi : i < n) (h : orb t i n ≠ r) (h0 : ∀ j, j < i → orb t j n = r) : badI t r n = some i := by
  unfold badI
  rw [List.find?_range_eq_some]
  exact ⟨by simpa using h, List.mem_range.2 hi, fun j hj => by simp [h0 j hj]⟩
theorem badI_none {t : List Int} {r : Int} {n : Nat} (h0 : ∀ j : Nat, j < n → orb t j n = r) : badI t r n = none := by
  unfold badI
  rw [List.find?_eq_none]
  intro j hj
  simp [h0 j (List.mem_range.1 hj)]
theorem raL_some {t : List Int} {r : Int} {n i : Nat} (hi : i < n) (h : orb t i n ≠ r) (h0 : ∀ j, j < i → orb t j n = r) : raL t r n = rfL t (orb t i n) (perI t (orb t i n) n) := by rw [raL, badI_some hi h h0]
theorem raL_none {t : List Int} {r : Int} {n : Nat} (h0 : ∀ j : Nat, j < n → orb t j n = r) : raL t r n = [] := by rw [raL, badI_none h0]
theorem raL_nil {t : List Int} {r : Int} (hr : nx t r = r) : raL t r t.length = [] ↔ Ld t r := by
  constructor
  · intro h i hi
    rw [orS_orb hr]
    cases hb : badI t r t.length with
    | none =>
      unfold badI at hb
      rw [List.find?_eq_none] at hb
      simpa using hb i (List.mem_range.2 hi)
    | some k => rw [raL, hb] at h; have := congrArg List.length h; simp [rfL_len] at this
  · intro h
    exact raL_none fun j hj => by have := h j hj; rw [orS_orb hr] at this; exact this

theorem isRooted_any (A : Option Addr) (n c : Nat) (a : List (List Int)) (root : Int) (w : World) (hx : IntRows w A n c a) :
    Calls Try.prog 71 #[.slice A n c, .int .i64 root] w fun e w' => e = .returned (.bool (pb (VC a) && pb (Blw a.length root))) ∧ Quiet w w' := by
  have HL := Lib.hid hx.len
  have hmx := hx.max
  by_cases hv : VC a
  · have HC := Lib.hid (pb_true hv ▸ ValidCosts_impl A n c a w hx)
    have HE := Lib.hid (show (pb (VC a) && pb (Blw a.length root)) = pb (Blw n root) by rw [pb_true hv, HL.out]; rfl)
    clear hv hx
    go_enter Try.func71, Try.ntmps71
    go_wp2_with fail
    refine HC.out.mono ?_
    rintro e w1 ⟨rfl, hq⟩
    have HQ := Lib.hid hq
    clear hq HC
    go_wp2_with fail
    refine (isBelow_any _ _ _).mono ?_
    rintro e w2 ⟨rfl, rfl⟩
    go_wp2
    go_ret
    exact ⟨ret_bool HE.out.symm, HQ.out⟩
  · have HC := Lib.hid (pb_false hv ▸ ValidCosts_impl A n c a w hx)
    have HE := Lib.hid (show (pb (VC a) && pb (Blw a.length root)) = false by rw [pb_false hv]; rfl)
    clear hv hx
    go_enter Try.func71, Try.ntmps71
    go_wp2_with fail
    refine HC.out.mono ?_
    rintro e w1 ⟨rfl, hq⟩
    have HQ := Lib.hid hq
    clear hq HC
    go_wp2
    go_ret
    exact ⟨ret_bool HE.out.symm, HQ.out⟩
set_option maxRecDepth 100000 in
set_option maxHeartbeats 1600000 in
theorem costsOf_any (A T : Option Addr) (n c ct : Nat) (a : List (List Int)) (t : List Int) (w : World) (hx : IntRows w A n c a) (ht : Ints w T n ct t) (hs : SqB a n 100000) (hb : InB t) (h4 : n ≤ 4) :
    Calls Try.prog 77 #[.slice A n c, .slice T n ct] w (MadeI w n (csL a t n)) := by
  have HX := Lib.hid hx
  have HT := Lib.hid ht
  have HS := Lib.hid hs
  have HB := Lib.hid hb
  have HLT := Lib.hid ht.len
  clear hx ht hs hb
  have hmk := run_make_row' (P := Try.prog) 36 3 (.int .i64 0) 8 Try.underlying36 Try.info3 rfl .i64 .i64 n (by omega) (by omega)
  go_enter Try.func77, Try.ntmps77
  go_wp2
  clear hmk
  go_loopw [13] (fun i wr => ∃ k : Nat, k ≤ n ∧ i = .int .i64 k ∧ wr.rowIs w.heap.size 3 n (filled (csL a t n) k) ∧ Below w.heap.size w wr ∧ Hid (wr.heap.size = w.heap.size + 1)) (fun i _ => n - (intOf i).toNat)
  case atStart => exact ⟨0, Nat.zero_le _, rfl, (World.rowIs_made w _ n 3).congr (fun j _ => by simp [filled]), (Below.refl _ _).alloc (Nat.le_refl _) _, Lib.hid (by simp)⟩
  case round =>
    obtain ⟨k, hk, rfl, hrow, hbel, hsz⟩ := hrel
    by_cases hlt : k < n
    · have HIT := Lib.hid (HT.out.keep (Keep.below hbel))
      have HIX := Lib.hid (HX.out.keep (Keep.below hbel))
      obtain ⟨b, o, rfl, hc⟩ := HIT.out.at_ (by omega)
      have c1 := hc k hlt
      have hd := HB.out.bd k (by rw [HLT.out]; exact hlt)
      rw [HLT.out] at hd
      have HG := Lib.hid (gi_csL (a := a) (t := t) hlt)
      obtain ⟨d, hdd⟩ : ∃ d : Nat, gi t k = d := ⟨(gi t k).toNat, by omega⟩
      rw [hdd] at c1 hd HG
      have hdn : d < n := by omega
      clear hc hdd HIT
      by_cases hkd : (d : Int) = (k : Int)
      · have hkd' : ((d : Int) != (k : Int)) = false := by simp; omega
        rw [if_pos hkd] at HG
        have HF : Hid (wr.rowIs w.heap.size 3 n (filled (csL a t n) (k + 1))) := Lib.hid (hrow.congr fun j hj => by
          unfold filled
          by_cases e : j < k
          · rw [if_pos e, if_pos (by omega)]
          · rw [if_neg e]
            by_cases e2 : j < k + 1
            · obtain rfl : j = k := by omega
              rw [if_pos e2, HG.out]
            · rw [if_neg e2])
        clear hkd hrow
        go_wp2
        go_roundw
        case rel => exact ⟨k + 1, by omega, by go_num, HF.out, hbel, hsz⟩
        case measure => simp [intOf]; omega
      · have hkd' : ((d : Int) != (k : Int)) = true := by simp; omega
        rw [if_neg hkd] at HG
        simp only [Int.toNat_natCast] at HG
        obtain ⟨bA, oA, rfl, hcA⟩ := HIX.out.at_ (by omega)
        obtain ⟨R1, cc1, r1, hR1⟩ := hcA k hlt
        rw [HS.out.row k hlt] at r1 hR1
        obtain ⟨bR, oR, rfl, hcR⟩ := hR1.at_ (by omega)
        have c2 := hcR d hdn
        have c3 := hrow.cell hlt
        simp only [filled, if_neg (Nat.lt_irrefl k)] at c3
        have c4 := hrow.frozen k
        have HFS := Lib.hid (show (wr.setCell ⟨w.heap.size, k, none⟩ (.int .i64 (gi (gr a k) d))).rowIs w.heap.size 3 n (filled (csL a t n) (k + 1)) by
          have h := filled_set (xs := csL a t n) hrow
          rw [HG.out] at h; exact h)
        clear hcA hcR hkd HIX
        generalize gi (gr a k) d = g at *
        go_wp2
        go_roundw
        case rel => exact ⟨k + 1, by omega, by go_num, HFS.out, hbel.setCell (Nat.le_refl _) _, Lib.hid (by simpa using hsz.out)⟩
        case measure => simp [intOf]; omega
    · obtain rfl : k = n := by omega
      have HWF := Lib.hid (csL_mem HS.out (by omega) HLT.out HB.out)
      have HLL := Lib.hid (csL_len a t k)
      go_wp2
      go_ret
      exact ⟨rfl, OwnI.of_rowIs HLL.out (by omega) (fun x hx => by have := HWF.out x hx; omega) (Nat.le_refl _) (Nat.lt_succ_self _) hrow (fun j hj => by simp [filled, hj]), hbel, hsz.out⟩
set_option maxRecDepth 100000 in
set_option maxHeartbeats 1600000 in
theorem roundFrom_any (x : Nat) (T : Option Addr) (n ct : Nat) (t : List Int) (p : Nat) (w : World) (ht : Ints w T n ct t) (hb : InB t) (h4 : n ≤ 4) (hx : x < n) (hp : p < n) (h1 : orb t x (p + 1) = x) (h2 : ∀ j, j < p → orb t x (j + 1) ≠ x) :
    Calls Try.prog 125 #[.int .i64 x, .slice T n ct] w (NewI w (rfL t x p)) := by
  have HT := Lib.hid ht
  have HLT := Lib.hid ht.len
  have HB := Lib.hid hb
  have H1 := Lib.hid h1
  have H2 := Lib.hid h2
  clear ht hb h1 h2
  have HO : Hid (∀ k, 0 ≤ orb t x k ∧ orb t x k < n) := Lib.hid (fun k => by have := orb_in HB.out (x := (x : Int)) (by omega) (by rw [HLT.out]; omega) k; rw [HLT.out] at this; exact this)
  have HU0 := Lib.hid (show IU w (.slice (some ⟨w.heap.size, 0, none⟩) 1 1) [(x : Int)] (w.alloc (.cells #[.int .i64 x] 3)) from
    ⟨⟨World.ownsRow_lit w #[.int .i64 x] 1 (Nat.le_refl _) (by unfold maxLen; omega) rfl, fun k hk => by simp [Value.ownBlock] at hk; simp; omega⟩, below_alloc _ _⟩)
  have HK0 := Lib.hid (HT.out.keep (Keep.below HU0.out.up))
  obtain ⟨b, o, rfl, hc⟩ := HK0.out.at_ (by omega)
  have c0 := hc x hx
  have HG0 : Hid (orb t x 1 = gi t x) := Lib.hid (by show nx t x = _; unfold nx; simp)
  clear hc HK0
  rw [← HG0.out] at c0
  go_enter Try.func125, Try.ntmps125
  go_wp2
  clear c0
  go_loopw [5, 6] (fun v s wr => ∃ m : Nat, m ≤ p ∧ s = .int .i64 (orb t x (m + 1)) ∧ Hid (IU w v (rfL t x m) wr)) (fun v _ _ => n - (match v with | .slice _ k _ => k | _ => 0))
  case atStart => exact ⟨0, Nat.zero_le _, rfl, HU0⟩
  case round =>
    clear HU0
    obtain ⟨m, hm, rfl, HU⟩ := hrel
    obtain ⟨Av, cv, rfl⟩ := HU.out.bi.form
    by_cases hmp : m < p
    · have hne := H2.out m hmp
      have hne' : (orb t x (m + 1) != (x : Int)) = true := by simp [hne]
      have ho := HO.out (m + 1)
      have HS := Lib.hid (rfL_succ t x m)
      have HN1 : Hid (orb t x (m + 1 + 1) = gi t (orb t x (m + 1)).toNat) := Lib.hid rfl
      obtain ⟨d, hdd⟩ : ∃ d : Nat, orb t x (m + 1) = d := ⟨(orb t x (m + 1)).toNat, by omega⟩
      rw [hdd] at hne' ho HS HN1 ⊢
      simp only [Int.toNat_natCast] at HN1
      have hdn : d < n := by omega
      have HLM := Lib.hid (rfL_len t x m)
      clear hne hdd
      generalize rfL t x m = ys at *
      have hb := below_alloc wr (.cells #[iv (d : Int)] 3)
      have HB4 := Lib.hid (HU.out.bi.below hb).own
      have HN := Lib.hid (cell_one_new wr (iv (d : Int)) 3)
      have hwz := HU.out.up.size
      clear hb
      obtain ⟨i0, hi0, hz0, hz1, hz2⟩ := info_parts Try.info_int
      go_wp2_with (at_builtin; refine wpList_append_own_at _ rfl _ _ 36 rfl w.heap.size 3 i0 (.int .i64 0) 1 8 Try.underlying36 hi0 hz0 hz1 hz2 rfl (by decide) _ (ys).length ((ys).map iv) rfl HB4.out ⟨wr.heap.size, 0, none⟩ 1 1 [iv (d : Int)] rfl rfl ?c1 ?c2 ?c3 ?c4 ?c5 ?_)
      case c1 => exact HN.out
      case c2 => intro u hu; simp at hu; subst hu; rfl
      case c3 => have := HLM.out; unfold maxLen; omega
      case c4 => have := HLM.out; omega
      case c5 => simp; omega
      intro v' w5 hown' hgrow _ hat
      have HU5 := Lib.hid (HU.out.push hown' hgrow (by simpa using hat))
      clear HB4 HN hown' hgrow hat
      have HK5 := Lib.hid (HT.out.keep (Keep.below HU5.out.up))
      obtain ⟨b', o', e', hc⟩ := HK5.out.at_ (by omega)
      injection e' with e'
      injection e' with e1 e2 _
      subst e1
      subst e2
      have c0 := hc d hdn
      rw [← HN1.out] at c0
      have hyl := HLM.out
      clear hc HK5 HU
      go_wp2
      go_roundw
      case rel => exact ⟨m + 1, by omega, rfl, Lib.hid (by rw [HS.out]; exact HU5.out)⟩
      case measure =>
        obtain ⟨A5, c5, e5⟩ := HU5.out.bi.form
        rw [e5]
        simp
        omega
    · obtain rfl : m = p := by omega
      have HE := Lib.hid H1.out
      rw [HE.out]
      have hne' : ((x : Int) != (x : Int)) = false := by simp
      have HNW := Lib.hid (HU.out.new (by rw [rfL_len]; omega) (fun y hy => by
        obtain ⟨j, _, rfl⟩ := List.mem_map.1 hy
        have := HO.out j; omega))
      go_wp2
      go_ret
      exact HNW.out
set_option maxRecDepth 100000 in
set_option maxHeartbeats 1600000 in
theorem roundApart_any (r : Nat) (T : Option Addr) (n ct : Nat) (t : List Int) (w : World) (ht : Ints w T n ct t) (hb : InB t) (h4 : n ≤ 4) :
    Calls Try.prog 102 #[.int .i64 r, .slice T n ct] w (NewI w (raL t r n)) := by
  have HT := Lib.hid ht
  have HLT := Lib.hid ht.len
  have HB := Lib.hid hb
  clear ht hb
  go_enter Try.func102, Try.ntmps102
  go_wp2
  go_loopw [9] (fun i wr => ∃ k : Nat, k ≤ n ∧ i = .int .i64 k ∧ Hid (∀ j : Nat, j < k → orb t j n = r) ∧ w = wr) (fun i _ => n - (intOf i).toNat)
  case atStart => exact ⟨0, Nat.zero_le _, rfl, Lib.hid (fun _ h => absurd h (by omega)), rfl⟩
  case round =>
    obtain ⟨k, hk, rfl, HALL, rfl⟩ := hrel
    by_cases hlt : k < n
    · have HO : Hid (∀ m, 0 ≤ orb t k m ∧ orb t k m < n) := Lib.hid (fun m => by have := orb_in HB.out (x := (k : Int)) (by omega) (by rw [HLT.out]; omega) m; rw [HLT.out] at this; exact this)
      go_wp2
      go_loopw [6, 15] (fun a s wi => ∃ m : Nat, m ≤ n ∧ s = .int .i64 m ∧ a = .int .i64 (orb t k m) ∧ w = wi) (fun _ s _ => n - (intOf s).toNat)
      case atStart => exact ⟨0, Nat.zero_le _, rfl, rfl, rfl⟩
      case round =>
        obtain ⟨m, hm, rfl, rfl, rfl⟩ := hrel
        have ho := HO.out m
        have HS : Hid (orb t k (m + 1) = gi t (orb t k m).toNat) := Lib.hid rfl
        obtain ⟨d, hdd⟩ : ∃ d : Nat, orb t k m = d := ⟨(orb t k m).toNat, by omega⟩
        have HDD := Lib.hid hdd
        rw [hdd] at ho HS ⊢
        simp only [Int.toNat_natCast] at HS
        have hdn : d < n := by omega
        clear hdd
        by_cases hml : m < n
        · obtain ⟨b, o, rfl, hc⟩ := HT.out.at_ (by omega)
          have c1 := hc d hdn
          rw [← HS.out] at c1
          clear hc
          go_wp2
          go_roundw
          case rel => exact ⟨m + 1, by omega, by go_num, rfl, by first | exact rfl | trivial⟩
          case measure => simp [intOf]; omega
        · obtain rfl : m = n := by omega
          by_cases hr : (d : Int) = (r : Int)
          · have hr' : ((d : Int) != (r : Int)) = false := by simp; omega
            have HN := Lib.hid (show orb t k m = r by rw [HDD.out]; exact hr)
            clear hr
            go_wp2
            go_roundw
            case rel => exact ⟨k + 1, by omega, by go_num, Lib.hid (fun i hi => by
              by_cases hik : i = k
              · subst hik; exact HN.out
              · exact HALL.out i (by omega)), by first | exact rfl | trivial⟩
            case measure => simp [intOf]; omega
          · have hr' : ((d : Int) != (r : Int)) = true := by simp; omega
            have HRA := Lib.hid (raL_some (t := t) (r := (r : Int)) hlt (by rw [HDD.out]; exact hr) HALL.out)
            rw [HDD.out] at HRA
            obtain ⟨p0, hp0, hpe⟩ := round_ex HB.out (by rw [HLT.out]; exact h4) (i := k) (by rw [HLT.out]; exact hlt)
            rw [HLT.out] at hp0 hpe
            rw [HDD.out] at hpe
            obtain ⟨q1, q2, q3⟩ := perI_ok hp0 hpe
            have HC := Lib.hid (roundFrom_any d T m ct t _ w HT.out HB.out h4 hdn q1 q2 q3)
            rw [← HRA.out] at HC
            clear hr hpe q1 q2 q3 HRA
            go_wp2_with fail
            refine HC.out.mono ?_
            rintro e w2 hN
            have HN := Lib.hid hN
            obtain ⟨Av, kk, cv, gg, rfl, -⟩ := hN
            clear HC
            go_wp2
            go_ret
            exact HN.out
    · obtain rfl : k = n := by omega
      have HE := Lib.hid (raL_none (t := t) (r := (r : Int)) HALL.out)
      go_wp2
      go_ret
      exact NewI.empty (Below.refl _ _) HE.out
set_option maxHeartbeats 400000 in
theorem treesTo1_any (pb_ : Nat) (r : Nat) (T : Option Addr) (n ct : Nat) (t : List Int) (w : World) (ht : Ints w T n ct t) (hb : InB t) (h4 : n ≤ 4) (hr : nx t r = r) (hbx : w.cell? ⟨pb_, 0, none⟩ = some (.int .i64 r)) :
    Calls Try.prog 111 #[.slice T n ct, .pointer (some ⟨pb_, 0, none⟩)] w (Ret (.bool (!(ldB t r))) w) := by
  have HC := Lib.hid (roundApart_any r T n ct t w ht hb h4)
  have HL := Lib.hid ht.len
  have HR := Lib.hid (raL_nil hr)
  rw [HL.out] at HR
  clear ht hb
  go_enter Try.func111, Try.ntmps111
  go_wp2_with fail
  refine HC.out.mono ?_
  rintro e w2 ⟨Av, kk, cv, gg, rfl, hk, ho, hb⟩
  have HB := Lib.hid hb
  have hmx := ho.ints.max
  by_cases hl : Ld t r
  · have h0 : kk = 0 := by rw [hk, HR.out.2 hl]; rfl
    subst h0
    have HE := Lib.hid (show (!(ldB t r)) = false by rw [ldB_iff.2 hl]; rfl)
    clear HC hb ho hl hk
    go_wp2
    go_ret
    exact ⟨ret_bool HE.out.symm, HB.out⟩
  · have h0 : 0 < kk := by
      rw [hk]
      exact Nat.pos_of_ne_zero fun e => hl (HR.out.1 (List.eq_nil_of_length_eq_zero e))
    have HE := Lib.hid (show (!(ldB t r)) = true by rw [ldB_pb, pb_false hl]; rfl)
    have h1 : decide ((0 : Int) < (kk : Int)) = true := decide_eq_true (by omega)
    clear HC hb ho hl hk
    go_wp2
    go_ret
    exact ⟨ret_bool HE.out.symm, HB.out⟩
end Go.Proofs.Ytidoahicgiaodaa

