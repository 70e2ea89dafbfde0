/- Texts merged: K8 K9 K10 F1 K11 K12 Y1 Y3 G1 G2 G7 G7b H1 V8 V9 Y2 G8 Math20 Z4 Z5 W7 Z6. -/
import Derived.Test.YtlgnpfpdmjhhbaaQ9
import Derived.Laws.CopyOwn
/- The next shares, by both programs. -/
namespace Go.Proofs.Ytlgnpfpdmjhhbaa
open Go.RowKit

/-- A list that a call owns, in block g from its beginning on. -/
structure NX (w : World) (n g : Nat) (L : List Int) (W : World) : Prop where
  own : OwnI w.heap.size W.heap.size W g (some ⟨g, 0, none⟩) n n L
  up : Below w.heap.size w W
  lo : w.heap.size ≤ g
theorem NX.next {w n g L W W'} (h : NX w n g L W) (k : Below W.heap.size W W') : NX w n g L W' := ⟨(h.own.below k).mono (Nat.le_refl _) k.size, below_up h.up k, h.lo⟩
theorem NX.cell {w n g L W} (h : NX w n g L W) {i : Nat} (hi : i < n) : W.cell? ⟨g, i, none⟩ = some (.int .i64 (gi L i)) := by
  obtain ⟨b, o, e, hc⟩ := h.own.ints.at_ (by omega)
  injection e with e
  injection e with e1 e2
  subst e1
  subst e2
  have := hc i hi
  rw [Nat.zero_add] at this
  exact this
theorem NX.frozen {w n g L W} (h : NX w n g L W) {i : Nat} (hi : i < n) : W.frozen? ⟨g, i, none⟩ = false := by
  obtain ⟨o, e, _, _, hf⟩ := h.own.own (by omega)
  injection e with e
  injection e with _ e2
  subst e2
  have := hf i hi
  rw [Nat.zero_add] at this
  exact this
theorem NX.set {w n g L W} (h : NX w n g L W) {i : Nat} (hi : i < n) {v : Int} (hv : -9223372036854775808 ≤ v ∧ v ≤ 9223372036854775807) : NX w n g (L.set i v) (W.setCell ⟨g, i, none⟩ (.int .i64 v)) := by
  have h1 := h.own.set hi hv
  rw [Nat.zero_add] at h1
  exact ⟨h1.mono (Nat.le_refl _) (by simp [World.setCell]), h.up.setCell (p := ⟨g, i, none⟩) h.lo _, h.lo⟩
/-- Numbers of which the first k have turned. -/
def mixT (f h : Nat → Int) (n k : Nat) : List Int := (List.range n).map fun i => if i < k then f i else h i
theorem mixT_len (f h : Nat → Int) (n k : Nat) : (mixT f h n k).length = n := by simp [mixT]
theorem gi_mixT {f h : Nat → Int} {n k i : Nat} (hi : i < n) : gi (mixT f h n k) i = if i < k then f i else h i := by
  rw [gi_get (by rw [mixT_len]; exact hi)]; simp [mixT]
theorem mixT_set {f h : Nat → Int} {n k : Nat} : (mixT f h n k).set k (f k) = mixT f h n (k + 1) := gi_ext (by rw [List.length_set, mixT_len, mixT_len]) fun i hi => by
  rw [List.length_set, mixT_len] at hi
  rw [gi_mixT hi]
  by_cases e : i = k
  · subst e; rw [gi_set_eq (by rw [mixT_len]; exact hi), if_pos (by omega)]
  · rw [gi_set_ne (by rw [mixT_len]; exact hi) e, gi_mixT hi]
    by_cases h2 : i < k
    · rw [if_pos h2, if_pos (by omega)]
    · rw [if_neg h2, if_neg (by omega)]
theorem mixT_zero (f h : Nat → Int) (n : Nat) : mixT f h n 0 = (List.range n).map h := gi_ext (by rw [mixT_len]; simp) fun i hi => by
  rw [mixT_len] at hi
  rw [gi_mixT hi, if_neg (by omega), gi_get (by simpa using hi)]; simp
theorem mixT_all (f h : Nat → Int) (n : Nat) : mixT f h n n = (List.range n).map f := gi_ext (by rw [mixT_len]; simp) fun i hi => by
  rw [mixT_len] at hi
  rw [gi_mixT hi, if_pos hi, gi_get (by simpa using hi)]; simp
theorem list_range (x : List Int) : (List.range x.length).map (gi x) = x := gi_ext (by simp) fun i hi => by
  have hi' : i < x.length := by simpa using hi
  rw [gi_get hi]; simp
theorem gi_range {f : Nat → Int} {n i : Nat} (h : i < n) : gi ((List.range n).map f) i = f i := by rw [gi_get (by simpa using h)]; simp

/-- What the next shares are to each other. -/
def nxV (a : List (List Int)) (x : List Int) (n i : Nat) : Int := gi x i * dotr a x i n
def nxL (a : List (List Int)) (x : List Int) (n k : Nat) : List Int := (List.range k).map (nxV a x n)
theorem nxL_succ (a : List (List Int)) (x : List Int) (n k : Nat) : nxL a x n (k + 1) = nxL a x n k ++ [nxV a x n k] := by simp [nxL, List.range_succ]
theorem nxL_len (a : List (List Int)) (x : List Int) (n k : Nat) : (nxL a x n k).length = k := by simp [nxL]
theorem gi_nxL {a : List (List Int)} {x : List Int} {n k i : Nat} (h : i < k) : gi (nxL a x n k) i = nxV a x n i := gi_range h
theorem VQ.len2' {a : List (List Int)} {n : Nat} (v : VQ a) (hl : a.length = n) : (gr a 0).length = n := by have := v.2; omega
theorem dotr_pos {a : List (List Int)} {x : List Int} {i n : Nat} (ha : ∀ j, j < n → 1 ≤ g2 a i j) (hx : ∀ j, j < n → 0 ≤ gi x j) : ∀ {k}, k ≤ n → sm x k ≤ dotr a x i k
  | 0, _ => Int.le_refl _
  | k + 1, h => by
    have h1 := dotr_pos ha hx (k := k) (by omega)
    have h2 := ha k (by omega)
    have h3 := hx k (by omega)
    have h4 : 1 * gi x k ≤ g2 a i k * gi x k := Int.mul_le_mul_of_nonneg_right h2 h3
    simp only [sm, dotr]
    omega
/-- A field and shares. -/
structure FS (a : List (List Int)) (x : List Int) (n : Nat) : Prop where
  f : VF a
  s : VS x (n : Int)
  l : a.length = n
theorem FS.n3 {a x n} (h : FS a x n) : 1 ≤ n ∧ n ≤ 3 := by have := h.f.q.1.n1; have := h.f.q.1.n3; have := h.l; omega
theorem FS.xl {a x n} (h : FS a x n) : x.length = n := by have := h.s.1; omega
theorem FS.x {a x n} (h : FS a x n) : ∀ j, j < n → 0 ≤ gi x j ∧ gi x j ≤ 1000 := VS.bds h.s
theorem FS.a {a x n} (h : FS a x n) {i j : Nat} (hi : i < n) (hj : j < n) : 1 ≤ g2 a i j ∧ g2 a i j ≤ 9 := by
  have hl := h.l
  have h1 := h.f.p i j (by omega) (by omega)
  have h2 := h.f.q.1.bd (i := i) (j := j) (by omega) (by have := h.f.q.2; omega)
  omega
theorem FS.dot {a x n} (h : FS a x n) {i : Nat} (hi : i < n) : 1 ≤ dotr a x i n ∧ dotr a x i n ≤ 27000 := by
  have h0 := h.n3
  have h1 := dotr_pos (a := a) (x := x) (i := i) (n := n) (fun j hj => (h.a hi hj).1) (fun j hj => (h.x j hj).1) (Nat.le_refl n)
  have h2 := dotr_bd (a := a) (w := x) (i := i) (m := n) (fun j hj => by have := h.a hi hj; omega) h.x (Nat.le_refl n)
  have h3 := h.s.2.2
  unfold tot at h3
  rw [h.xl] at h3
  omega
theorem FS.nx {a x n} (h : FS a x n) {i : Nat} (hi : i < n) : 0 ≤ nxV a x n i ∧ nxV a x n i ≤ 27000000 ∧ (0 < gi x i → 0 < nxV a x n i) := by
  have h1 := h.dot hi
  have h2 := h.x i hi
  unfold nxV
  have h3 : 0 * dotr a x i n ≤ gi x i * dotr a x i n := Int.mul_le_mul_of_nonneg_right h2.1 (by omega)
  have h4 : gi x i * dotr a x i n ≤ 1000 * 27000 := Int.mul_le_mul h2.2 h1.2 (by omega) (by omega)
  exact ⟨by omega, by omega, fun h => Int.mul_pos h (by omega)⟩
theorem sm_has {x : List Int} : ∀ {k}, (∀ j, j < k → 0 ≤ gi x j) → 0 < sm x k → ∃ j, j < k ∧ 0 < gi x j
  | 0, _, h => by simp [sm] at h
  | k + 1, hp, h => by
    by_cases e : 0 < gi x k
    · exact ⟨k, by omega, e⟩
    · have h1 := hp k (by omega)
      obtain ⟨j, hj, hp'⟩ := sm_has (x := x) (k := k) (fun j hj => hp j (by omega)) (by simp only [sm] at h; omega)
      exact ⟨j, by omega, hp'⟩
theorem FS.clr {a x n} (h : FS a x n) : ClrP (nxL a x n n) ∧ 0 < gcdL (nxL a x n n) n := by
  have h0 := h.s.2.2
  unfold tot at h0
  rw [h.xl] at h0
  obtain ⟨j, hj, hp⟩ := sm_has (fun j hj => (h.x j hj).1) h0
  have hc : ClrP (nxL a x n n) := by
    refine ⟨⟨j, by rw [nxL_len]; exact hj, ?_⟩, .inl fun p hp => ?_⟩
    · rw [gi_nxL hj]; have := (h.nx hj).2.2 hp; omega
    · rw [nxL_len] at hp; rw [gi_nxL hp]; exact (h.nx hp).1
  exact ⟨hc, (clr_yes (nxL_len a x n n) hc).1⟩
theorem FS.mid {a x n} (h : FS a x n) : ∀ p, p < (nxL a x n n).length → Mid (gi (nxL a x n n) p) := fun p hp => by
  rw [nxL_len] at hp
  rw [gi_nxL hp]
  have := h.nx hp
  unfold Mid
  omega
/-- What NextShares answers. -/
noncomputable def nsF (a : List (List Int)) (x : List Int) : List Int := if pb (VF a ∧ VS x a.length) = true then clrL (nxL a x a.length a.length) (gcdL (nxL a x a.length a.length) a.length) a.length else []
theorem nsF_yes {a : List (List Int)} {x : List Int} {n : Nat} (h : FS a x n) : nsF a x = clrL (nxL a x n n) (gcdL (nxL a x n n) n) n := by
  unfold nsF; rw [if_pos (pb_true ⟨h.f, by rw [h.l]; exact h.s⟩), h.l]
theorem nsF_no {a : List (List Int)} {x : List Int} (h : ¬ (VF a ∧ VS x a.length)) : nsF a x = [] := by unfold nsF; rw [if_neg (by rw [pb_false h]; decide)]
theorem FS.of {a : List (List Int)} {x : List Int} {n : Nat} (hl : a.length = n) (hf : VF a) (hs : VS x (n : Int)) : FS a x n := ⟨hf, hs, hl⟩
theorem nsF_le (a : List (List Int)) (x : List Int) : (nsF a x).length ≤ 100 := by
  by_cases h : VF a ∧ VS x a.length
  · have hf : FS a x a.length := ⟨h.1, h.2, rfl⟩
    have := hf.n3
    rw [nsF_yes hf, clrL_len]; omega
  · rw [nsF_no h]; simp

set_option maxRecDepth 100000 in
set_option maxHeartbeats 3200000 in
theorem next_any (b o : Nat) (rb ro cc : Nat → Nat) (n c cx : Nat) (X : Option Addr) (a : List (List Int)) (x : List Int) (w : World) (ht : Tab w b o rb ro cc n n a) (hx : Ints w X n cx x) (hf : FS a x n) :
    Calls Try.prog 77 #[.slice (some ⟨b, o, none⟩) n c, .slice X n cx] w (NewI w (nsF a x)) := by
  have HT := Lib.hid ht
  have HX := Lib.hid hx
  have HF := Lib.hid hf
  have hn1 := ht.n1
  have hn3 := ht.n3
  have HPB := Lib.hid (fun i => (⟨ht.bd, onl_bds n i, hf.x⟩ : PB a (onl n i) x n n))
  have HPU := Lib.hid (fun i (hi : i < n) => payU_alone a x n n i hi)
  have HNS := Lib.hid (nsF_yes hf)
  obtain ⟨bx, ox, rfl, hcx⟩ := hx.at_ (by omega)
  have HCX := Lib.hid hcx
  obtain ⟨i0, hi0, hz0, hz1, hz2⟩ := info_parts Try.infoI
  have HS0 := Lib.hid (IU.start w)
  have HZ : Hid (nxL a x n 0 = []) := Lib.hid rfl
  clear ht hx hf hcx
  go_enter Try.func77, Try.ntmps77
  go_wp2
  go_loopw [5, 6] (fun v i wr => ∃ k : Nat, k ≤ n ∧ i = .int .i64 k ∧ Hid (IU w v (nxL a x n k) wr)) (fun _ i _ => n - (intOf i).toNat)
  case atStart => exact ⟨0, Nat.zero_le _, rfl, Lib.hid (by rw [HZ.out]; exact HS0.out)⟩
  case round =>
    clear HS0 HZ
    obtain ⟨k, hk, rfl, HI⟩ := hrel
    obtain ⟨Av, cv, rfl⟩ := HI.out.bi.form
    by_cases hlt : k < n
    · have c1 := Keep.below HI.out.up _ _ (HCX.out k hlt)
      have HC0 := Lib.hid c1
      have HCS := Lib.hid (nxL_succ a x n k)
      have HML := Lib.hid (nxL_len a x n k)
      obtain ⟨d1, d2⟩ := HF.out.dot hlt
      obtain ⟨x1, x2⟩ := HF.out.x k hlt
      have hnv := HF.out.nx hlt
      have HNV : Hid (nxV a x n k = gi x k * dotr a x k n) := Lib.hid rfl
      rw [HNV.out] at hnv
      obtain ⟨v1, v2, -⟩ := hnv
      have hyl : (nxL a x n k).length ≤ 3 := by have := HML.out; omega
      generalize nxL a x n k = ys at *
      have HP := Lib.hid (HPU.out k hlt)
      generalize dotr a x k n = D at *
      have HW : Hid (IntKind.i64.wrap (gi x k * D) = gi x k * D) := Lib.hid (wrap_in64 (by omega))
      go_wp2
      go_region_law ((first
        | (refine step_append_lies _ (by rfl) _ _ _ (by rfl) w.heap.size 3 i0 _ 1 8 Try.underlying24 hi0 hz0 hz1 hz2 rfl (by omega) (.slice Av ys.length cv) ys.length (ys.map iv) (by rfl) (HI3.out.bi.own.alloc _) ⟨w3.heap.size, 0, none⟩ 1 1 [iv (IntKind.i64.wrap (gi x k * D))] (by rfl) (by rfl) (World.news_of_block (w := w3.alloc (.cells #[iv (IntKind.i64.wrap (gi x k * D))] 3)) (cs := #[iv (IntKind.i64.wrap (gi x k * D))]) (t := 3) (fr := (0, 0)) (heap_alloc_new w3 _)) (by simp [Value.oneCell', iv]) (by omega) (by unfold maxLen; omega) (by omega) (by simp; omega) (w3.heap.size + 1) (by simp) ?_; intro gg cap w1 hown1 hgrow hat hlt1; rw [HW.out] at hown1; have HI4 := Lib.hid (HI3.out.push2 (below_alloc w3 _) hown1 hgrow hlt1); have k9 := Keep.below HI4.out.up _ _ (HCX.out k hlt); clear hown1 hgrow hat hlt1 HI3)
        | (go_simp; go_at_call 80; refine (alone_spec n k _ (by omega) hlt).mono ?_; rintro e w2 ⟨rfl, ho, hb⟩; have HI2 := Lib.hid ((HI.out.qu ⟨1, rfl⟩).next hb); have HO := Lib.hid ho.ints; have k5 := Keep.below HI2.out.up _ _ (HCX.out k hlt); clear ho hb HI)
        | (go_simp; go_at_call 69; refine (HP.out ▸ payUp_any b o rb ro cc n n c n cx _ _ a (onl n k) x w2 (HT.out.keep (Keep.below HI2.out.up)) HO.out (HX.out.keep (Keep.below HI2.out.up)) (HPB.out k)).mono ?_; rintro e w3 ⟨rfl, hq⟩; have HI3 := Lib.hid (HI2.out.qu hq); have k6 := Keep.below HI3.out.up _ _ (HCX.out k hlt); have k7 : (w3.alloc (.cells #[.int .i64 (IntKind.i64.wrap (gi x k * D))] 3)).cell? ⟨bx, ox + k, none⟩ = some (.int .i64 (gi x k)) := (by rw [World.cell?_alloc_lt _ _ _ (World.block_lt_of_cell? _ _ k6)]; exact k6); have hwz := HI3.out.up.size; clear hq HI2)))
      all_goals
        clear k5 k6 k7 k9 c1
        go_wp2
        go_roundw
        case rel => exact ⟨k + 1, by omega, by go_num, Lib.hid (by rw [HCS.out, HNV.out]; first | exact HI4.out | exact HI4.out.qu ⟨1, rfl⟩ | exact HI4.out.qu ⟨_, rfl⟩)⟩
        case measure => simp [intOf]; omega
    · obtain rfl : k = n := by omega
      have HML := Lib.hid (nxL_len a x k k)
      have HUP := Lib.hid HI.out.up
      have HCL := Lib.hid HF.out.clr
      have HMD := Lib.hid HF.out.mid
      have HIN := Lib.hid (HI.out.ints (by rw [nxL_len]; omega) (fun y hy => by obtain ⟨p, hp, rfl⟩ := mem_gi hy; have := HF.out.mid p hp; unfold Mid at this; omega))
      have hyl : (nxL a x k k).length ≤ 3 := by have := HML.out; omega
      clear HI
      generalize nxL a x k k = ys at *
      have HC := Lib.hid (cleared_any _ _ _ ys wr HIN.out HMD.out hyl)
      go_wp2_with fail
      refine HC.out.mono ?_
      rintro e w2 hnc
      rcases hnc with ⟨_, Av2, n2, c2, gg, rfl, hn2, ho, hb⟩ | ⟨h, _⟩
      · have HB2 := Lib.hid (below_up HUP.out hb)
        have HNW : Hid (NewI w (nsF a x) (.returned (.slice Av2 n2 c2)) w2) := Lib.hid (by
          have ho2 := ho.mono (lo' := w.heap.size) (hi' := w2.heap.size) HUP.out.size (Nat.le_refl _)
          rw [HNS.out]
          rw [HML.out] at ho2
          exact ⟨Av2, n2, c2, gg, rfl, by rw [clrL_len, hn2, HML.out], ho2, HB2.out⟩)
        clear ho hb HC hn2
        go_wp2
        go_ret
        exact HNW.out
      · exact absurd HCL.out.1 h
end Go.Proofs.Ytlgnpfpdmjhhbaa

/- NextShares, by both programs. -/
namespace Go.Proofs.Ytlgnpfpdmjhhbaa
open Go.RowKit

theorem NewI.empty {w w' : World} {ys : List Int} (h : Below w.heap.size w w') (hy : ys = []) : NewI w ys (.returned (.slice none 0 0)) w' := by
  subst hy; exact ⟨none, 0, 0, 0, rfl, rfl, OwnI.nil _ _ _ _, h⟩
theorem NewI.from {w w1 w2 : World} {ys : List Int} {e : Ending} (h : Below w.heap.size w w1) (k : NewI w1 ys e w2) : NewI w ys e w2 := by
  obtain ⟨A, n, c, g, he, hn, ho, hb⟩ := k
  exact ⟨A, n, c, g, he, hn, ho.mono h.size (Nat.le_refl _), below_up h hb⟩

set_option maxRecDepth 100000 in
set_option maxHeartbeats 1600000 in
theorem NextShares_spec (A : Option Addr) (n c : Nat) (a : List (List Int)) (X : Option Addr) (nx cx : Nat) (x : List Int) (w : World) (ha : IntRows w A n c a) (hx : Ints w X nx cx x) :
    Calls Try.prog 36 #[.slice A n c, .slice X nx cx] w (NewI w (nsF a x)) := by
  have HX := Lib.hid ha
  have HY := Lib.hid hx
  have hl := ha.len
  have hlx := hx.len
  clear ha hx
  by_cases hv : VF a
  · have HC := Lib.hid (pb_true hv ▸ validField_any A n c a w HX.out)
    have hn3 := hv.q.1.n3
    rw [hl] at hn3
    by_cases hs : VS x (n : Int)
    · have HF := Lib.hid (FS.of hl hv hs)
      have HS := Lib.hid (fun W (k : Keep w W) => pb_true hs ▸ validShares_any X nx cx x (n : Int) W (HY.out.keep k) (by omega))
      have hm := hv.q.len2' hl
      obtain ⟨b, o, rb, ro, cc, rfl, tab⟩ := HX.out.tab hv.q.1
      rw [hm] at tab
      have HT := Lib.hid tab
      obtain rfl : n = nx := by have := hs.1; omega
      clear hm tab hv hs hl hlx
      go_enter Try.func36, Try.ntmps36
      go_wp2_with fail
      refine HC.out.mono ?_
      rintro e w1 ⟨rfl, hq⟩
      have HB1 := Lib.hid (show Below w.heap.size w w1 from hq.below)
      clear hq HC
      have HC := Lib.hid (HS.out w1 (Keep.below HB1.out))
      go_wp2_with fail
      refine HC.out.mono ?_
      rintro e w2 ⟨rfl, hq⟩
      have HB2 := Lib.hid (below_quiet HB1.out hq)
      clear hq HC HB1
      have HC := Lib.hid (next_any b o rb ro cc n c cx X a x w2 (HT.out.keep (Keep.below HB2.out)) (HY.out.keep (Keep.below HB2.out)) HF.out)
      go_wp2_with fail
      refine HC.out.mono ?_
      rintro e w3 hnew
      have HN := Lib.hid (NewI.from HB2.out hnew)
      obtain ⟨A3, n3, c3, g3, rfl, -⟩ := hnew
      clear HC HB2
      go_wp2
      go_ret
      exact HN.out
    · have HN := Lib.hid (nsF_no (a := a) (x := x) (fun h => hs (by have := h.2; rw [hl] at this; exact this)))
      have HS := Lib.hid (fun W (k : Keep w W) => pb_false hs ▸ validShares_any X nx cx x (n : Int) W (HY.out.keep k) (by omega))
      clear hv hs hl hlx
      go_enter Try.func36, Try.ntmps36
      go_wp2_with fail
      refine HC.out.mono ?_
      rintro e w1 ⟨rfl, hq⟩
      have HB1 := Lib.hid (show Below w.heap.size w w1 from hq.below)
      clear hq HC
      have HC := Lib.hid (HS.out w1 (Keep.below HB1.out))
      go_wp2_with fail
      refine HC.out.mono ?_
      rintro e w2 ⟨rfl, hq⟩
      have HB2 := Lib.hid (below_quiet HB1.out hq)
      clear hq HC HB1
      go_wp2
      go_ret
      exact NewI.empty HB2.out HN.out
  · have HC := Lib.hid (pb_false hv ▸ validField_any A n c a w HX.out)
    have HN := Lib.hid (nsF_no (a := a) (x := x) (fun h => hv h.1))
    clear hv hl hlx
    go_enter Try.func36, Try.ntmps36
    go_wp2_with fail
    refine HC.out.mono ?_
    rintro e w1 ⟨rfl, hq⟩
    have HB1 := Lib.hid (show Below w.heap.size w w1 from hq.below)
    clear hq HC
    go_wp2
    go_ret
    exact NewI.empty HB1.out HN.out

theorem blk_row' {w g t cs} (h : Blk w g t cs) (c : Array Value) : Blk (w.setRow g c) g t c := setRow_heap w g cs c t (0, 0) h
set_option maxRecDepth 100000 in
set_option maxHeartbeats 1600000 in
theorem copyOf_any (X : Option Addr) (n cx : Nat) (x : List Int) (w : World) (hx : Ints w X n cx x) (h1 : 1 ≤ n) (h3 : n ≤ 3) :
    Calls Try.prog 78 #[.slice X n cx] w fun e w' => e = .returned (.slice (some ⟨w.heap.size, 0, none⟩) n n) ∧ NX w n w.heap.size x w' := by
  have HX := Lib.hid hx
  have hlx := hx.len
  obtain ⟨bx, ox, rfl, hcx⟩ := hx.at_ (by omega)
  have HCX := Lib.hid hcx
  have hb0 := below_alloc w (.cells #[.int .i64 0, .int .i64 0, .int .i64 0] 64)
  have HK := Lib.hid (Keep.below hb0)
  have HB0 := Lib.hid hb0
  have HBN := Lib.hid (show Blk (w.alloc (.cells #[.int .i64 0, .int .i64 0, .int .i64 0] 64)) w.heap.size 64 [Value.int .i64 0, .int .i64 0, .int .i64 0].toArray from blk_new _ _ _)
  have HSI : Hid ((Try.prog.info? 3).map (·.size) = some 1) := Lib.hid (by kernel_rfl)
  have HLN := Lib.hid (show (x.map iv).length = Nat.min n 3 by rw [List.length_map, hlx]; exact (Nat.min_eq_left h3).symm)
  have HON := Lib.hid (show ∀ v ∈ x.map iv, v.oneCell' = true from fun v hv => by obtain ⟨y, _, rfl⟩ := List.mem_map.1 hv; rfl)
  have HSRC := Lib.hid (show ∀ j v, (x.map iv)[j]? = some v → (w.alloc (.cells #[.int .i64 0, .int .i64 0, .int .i64 0] 64)).cell? ((⟨bx, ox, none⟩ : Addr).add j) = some v from fun j v hv => by
    have hj : j < x.length := by have := (List.getElem?_eq_some_iff.1 hv).1; simpa using this
    rw [getElem_iv hj] at hv
    injection hv with hv
    subst hv
    have hadd : (⟨bx, ox, none⟩ : Addr).add j = ⟨bx, ox + j, none⟩ := by unfold Addr.add; split <;> simp_all
    rw [hadd]
    exact HK.out _ _ (HCX.out j (by omega)))
  have hcp := run_copy_row (P := Try.prog) (w.alloc (.cells #[.int .i64 0, .int .i64 0, .int .i64 0] 64)) 24 24 3 3 w.heap.size 0 3 3 ⟨bx, ox, none⟩ n cx [Value.int .i64 0, .int .i64 0, .int .i64 0].toArray 64 (x.map iv) Try.underlying24 HSI.out HBN.out HLN.out HSRC.out (by simp; omega) HON.out
  have hz : goInt (x.map iv).length = .int .i64 n := by rw [List.length_map, hlx]; rfl
  rw [hz] at hcp
  have HB1 := Lib.hid (blk_row' HBN.out (([Value.int .i64 0, .int .i64 0, .int .i64 0].toArray.toList.take 0 ++ x.map iv ++ [Value.int .i64 0, .int .i64 0, .int .i64 0].toArray.toList.drop (0 + (x.map iv).length)).toArray))
  have HUP := Lib.hid (below_setRow HB0.out (Nat.le_refl w.heap.size) (([Value.int .i64 0, .int .i64 0, .int .i64 0].toArray.toList.take 0 ++ x.map iv ++ [Value.int .i64 0, .int .i64 0, .int .i64 0].toArray.toList.drop (0 + (x.map iv).length)).toArray))
  generalize (w.alloc (.cells #[.int .i64 0, .int .i64 0, .int .i64 0] 64)).setRow w.heap.size (([Value.int .i64 0, .int .i64 0, .int .i64 0].toArray.toList.take 0 ++ x.map iv ++ [Value.int .i64 0, .int .i64 0, .int .i64 0].toArray.toList.drop (0 + (x.map iv).length)).toArray) = W1 at *
  have HNX := Lib.hid (show NX w n w.heap.size x W1 from ⟨⟨⟨hlx, Nat.le_refl _, by omega, HX.out.wf, fun _ => ⟨_, 0, rfl, fun k hk => by
      rw [Nat.zero_add]
      refine blk_cell HB1.out ?_
      rw [← getElem_iv (by omega : k < x.length)]
      simp [List.getElem?_append_left (show k < (x.map iv).length by rw [List.length_map]; omega)]⟩⟩, fun _ => ⟨0, rfl, Nat.le_refl _, blk_lt HB1.out, fun k _ => blk_frozen HB1.out _⟩⟩, HUP.out, Nat.le_refl _⟩)
  clear hx hcx hb0 hz hlx HB1 HUP HBN HON HSRC HLN HB0 HK
  have hn0 : ¬ ((n : Int) < 0) := by omega
  have hn3 : (n : Int) ≤ 3 := by omega
  go_enter Try.func78, Try.ntmps78
  go_wp2
  go_ret
  exact ⟨rfl, HNX.out⟩
end Go.Proofs.Ytlgnpfpdmjhhbaa

/- NextShares, by the program. -/
namespace Go.Proofs.Ytlgnpfpdmjhhbaa
open Go.RowKit

/-- The next shares on their way, beside the closure's boxes. -/
structure NL (n g pa pw b o c cw : Nat) (Y : Option Addr) (w : World) (L : List Int) (W : World) : Prop where
  nx : NX w n g L W
  ca : W.cell? ⟨pa, 0, none⟩ = some (.slice (some ⟨b, o, none⟩) n c)
  cs : W.cell? ⟨pw, 0, none⟩ = some (.slice Y n cw)
  ha : pa ≠ g
  hs : pw ≠ g
theorem NL.next {n g pa pw b o c cw Y w L W W'} (h : NL n g pa pw b o c cw Y w L W) (k : Below W.heap.size W W') : NL n g pa pw b o c cw Y w L W' :=
  ⟨h.nx.next k, Keep.below k _ _ h.ca, Keep.below k _ _ h.cs, h.ha, h.hs⟩
theorem NL.set {n g pa pw b o c cw Y w L W} (h : NL n g pa pw b o c cw Y w L W) {i : Nat} (hi : i < n) {v : Int} (hv : -9223372036854775808 ≤ v ∧ v ≤ 9223372036854775807) :
    NL n g pa pw b o c cw Y w (L.set i v) (W.setCell ⟨g, i, none⟩ (.int .i64 v)) :=
  ⟨h.nx.set hi hv, by rw [World.cell?_setCell_other _ _ _ _ (by intro e; have := congrArg Addr.block e; first | exact h.ha this | exact h.ha this.symm)]; exact h.ca, by rw [World.cell?_setCell_other _ _ _ _ (by intro e; have := congrArg Addr.block e; first | exact h.hs this | exact h.hs this.symm)]; exact h.cs, h.ha, h.hs⟩
theorem NL.pa {n g pa pw b o c cw Y w L W} {a : List (List Int)} {x : List Int} {rb ro cc : Nat → Nat} (h : NL n g pa pw b o c cw Y w L W) (ht : Tab w b o rb ro cc n n a) (hx : Ints w Y n cw x) (hb : ∀ j, j < n → 0 ≤ gi x j ∧ gi x j ≤ 1000) :
    PA a x n pa pw b o c cw rb ro cc Y W := ⟨ht.keep (Keep.below h.nx.up), hx.keep (Keep.below h.nx.up), hb, h.ca, h.cs⟩

set_option maxRecDepth 100000 in
set_option maxHeartbeats 3200000 in
theorem NextShares_impl (A : Option Addr) (n c : Nat) (a : List (List Int)) (X : Option Addr) (nx cx : Nat) (x : List Int) (w : World) (ha : IntRows w A n c a) (hx : Ints w X nx cx x) :
    Calls Try.prog 37 #[.slice A n c, .slice X nx cx] w (NewI w (nsF a x)) := by
  have HX := Lib.hid ha
  have HY := Lib.hid hx
  have hl := ha.len
  have hlx := hx.len
  clear ha hx
  have HC := Lib.hid (ValidField_impl A n c a w HX.out)
  by_cases hv : VF a
  · rw [pb_true hv] at HC
    have hn1 := hv.q.1.n1
    have hn3 := hv.q.1.n3
    rw [hl] at hn1 hn3
    have hvs := hv.q.1.vsn x
    rw [hl] at hvs
    by_cases hs : VS x (n : Int)
    · have HF := Lib.hid (FS.of hl hv hs)
      have HS := Lib.hid (fun W (k : Keep w W) => (hvs.trans (pb_true hs)) ▸ ValidShares_impl X nx cx x (n : Int) W (HY.out.keep k))
      have hm := hv.q.len2' hl
      obtain ⟨b, o, rb, ro, cc, rfl, tab⟩ := HX.out.tab hv.q.1
      rw [hm] at tab
      have HT := Lib.hid tab
      obtain rfl : n = nx := by have := hs.1; omega
      have HNS := Lib.hid (nsF_yes HF.out)
      have HXL := Lib.hid HF.out.xl
      clear hm tab hv hs hl hlx hvs
      go_enter Try.func37, Try.ntmps37
      go_wp2_with fail
      refine HC.out.mono ?_
      rintro e w1 ⟨rfl, hb⟩
      have HB1 := Lib.hid (show Below w.heap.size w w1 from hb)
      clear hb HC
      have HC := Lib.hid (HS.out w1 (Keep.below HB1.out))
      go_wp2_with fail
      refine HC.out.mono ?_
      rintro e w2 ⟨rfl, hq⟩
      have HB2 := Lib.hid (below_quiet HB1.out hq)
      clear hq HC HB1
      have HC := Lib.hid (copyOf_any X n cx x w2 (HY.out.keep (Keep.below HB2.out)) hn1 hn3)
      go_wp2_with fail
      refine HC.out.mono ?_
      rintro e w3 ⟨rfl, hnx⟩
      have HNX := Lib.hid hnx
      have HT2 := Lib.hid (HT.out.keep (Keep.below HB2.out))
      have HY2 := Lib.hid (HY.out.keep (Keep.below HB2.out))
      clear hnx HC HT HY HX HS
      have HC := Lib.hid (payAgainst_far a x n b o c cx rb ro cc X w3 (HT2.out.keep (Keep.below HNX.out.up)) (HY2.out.keep (Keep.below HNX.out.up)) HF.out.x)
      go_wp2_with fail
      refine HC.out.mono ?_
      rintro e w4 ⟨pa, pw, rfl, ⟨hp, hb⟩, hpa, hpw⟩
      have hg3 : w2.heap.size < w3.heap.size := by obtain ⟨_, _, _, h2, _⟩ := HNX.out.own.own (by omega); omega
      have HM0 := Lib.hid (show mixT (nxV a x n) (gi x) n 0 = x by rw [mixT_zero]; have := list_range x; rw [HXL.out] at this; exact this)
      have HL0 := Lib.hid (show NL n w2.heap.size pa pw b o c cx X w2 (mixT (nxV a x n) (gi x) n 0) w4 from ⟨by rw [HM0.out]; exact HNX.out.next hb, hp.ca, hp.cs, by omega, by omega⟩)
      clear hp hb HC HNX hpa hpw hg3 HM0
      generalize w2.heap.size = g at HL0 ⊢
      go_wp2
      go_loopw [27] (fun i_ wr => ∃ k : Nat, k ≤ n ∧ i_ = .int .i64 k ∧ Hid (NL n g pa pw b o c cx X w2 (mixT (nxV a x n) (gi x) n k) wr)) (fun i_ _ => n - (intOf i_).toNat)
      case atStart => exact ⟨0, Nat.zero_le _, rfl, HL0⟩
      case round =>
        clear HL0
        obtain ⟨k, hk, rfl, HL⟩ := hrel
        by_cases hlt : k < n
        · have k1 := HL.out.nx.cell hlt
          have k2 := HL.out.nx.frozen hlt
          have HG : Hid (gi (mixT (nxV a x n) (gi x) n k) k = gi x k) := Lib.hid (by rw [gi_mixT hlt, if_neg (by omega)])
          have HST := Lib.hid (mixT_set (f := nxV a x n) (h := gi x) (n := n) (k := k))
          have hnv := HF.out.nx hlt
          have HNV : Hid (nxV a x n k = gi x k * dotr a x k n) := Lib.hid rfl
          obtain ⟨d1, d2⟩ := HF.out.dot hlt
          obtain ⟨x1, x2⟩ := HF.out.x k hlt
          rw [HG.out] at k1
          rw [HNV.out] at hnv HST
          obtain ⟨v1, v2, -⟩ := hnv
          have HPAY := Lib.hid (fun W (h : NL n g pa pw b o c cx X w2 (mixT (nxV a x n) (gi x) n k) W) => payAt_any a x n pa pw b o c cx rb ro cc X W (h.pa HT2.out HY2.out HF.out.x) k hlt)
          generalize dotr a x k n = D at *
          have HW : Hid (IntKind.i64.wrap (gi x k * D) = gi x k * D) := Lib.hid (wrap_in64 (by omega))
          go_wp2
          go_region_law ((go_simp; go_at_call 95; refine (HPAY.out _ (HL.out.next (Quiet.below ⟨1, rfl⟩))).mono ?_; rintro e w5 ⟨rfl, hb⟩; have HL2 := Lib.hid ((HL.out.next (Quiet.below (B := wr.heap.size) ⟨1, rfl⟩)).next hb); have k5 := HL2.out.nx.cell hlt; have k6 := HL2.out.nx.frozen hlt; rw [HG.out] at k5; clear hb HL))
          all_goals
            have HL3 := Lib.hid (HL2.out.set hlt (v := gi x k * D) (by omega))
            rw [HST.out] at HL3
            clear k1 k2 k5 k6
            go_wp2
            go_roundw
            case rel => exact ⟨k + 1, by omega, by go_num, Lib.hid (by first | exact HL3.out | exact HL3.out.next (Quiet.below ⟨1, rfl⟩) | exact HL3.out.next (Quiet.below ⟨_, rfl⟩))⟩
            case measure => simp [intOf]; omega
        · obtain rfl : k = n := by omega
          have HA := Lib.hid (show mixT (nxV a x k) (gi x) k k = nxL a x k k from mixT_all _ _ _)
          rw [HA.out] at HL
          have HC := Lib.hid (commonFactor_any _ k k (nxL a x k k) wr HL.out.nx.own.ints HF.out.mid)
          have HN1 := Lib.hid HL.out.nx
          have HG0 := Lib.hid HF.out.clr.2
          have hgb := (gcdL_mid HF.out.mid (k := k) (by rw [nxL_len]; exact Nat.le_refl k))
          obtain ⟨g1, g2⟩ := hgb
          have hg0 := HF.out.clr.2
          clear HL
          generalize gcdL (nxL a x k k) k = G at *
          go_wp2_with fail
          refine HC.out.mono ?_
          rintro e w5 ⟨rfl, hq⟩
          have HN2 := Lib.hid (HN1.out.next hq.below)
          have HM1 := Lib.hid (show mixT (fun i => nxV a x k i / G) (nxV a x k) k 0 = nxL a x k k from mixT_zero _ _ _)
          rw [← HM1.out] at HN2
          clear hq HC HN1
          go_wp2
          go_loopw [44] (fun i_ wr => ∃ q : Nat, q ≤ k ∧ i_ = .int .i64 q ∧ Hid (NX w2 k g (mixT (fun i => nxV a x k i / G) (nxV a x k) k q) wr)) (fun i_ _ => k - (intOf i_).toNat)
          case atStart => exact ⟨0, Nat.zero_le _, rfl, HN2⟩
          case round =>
            clear HN2
            obtain ⟨q, hq, rfl, HN⟩ := hrel
            by_cases hql : q < k
            · have k1 := HN.out.cell hql
              have k2 := HN.out.frozen hql
              have HGI : Hid (gi (mixT (fun i => nxV a x k i / G) (nxV a x k) k q) q = nxV a x k q) := Lib.hid (by rw [gi_mixT hql, if_neg (by omega)])
              rw [HGI.out] at k1
              have HST := Lib.hid (mixT_set (f := fun i => nxV a x k i / G) (h := nxV a x k) (n := k) (k := q))
              obtain ⟨v1, v2, -⟩ := HF.out.nx hql
              have hd1 : 0 ≤ nxV a x k q / G := Int.ediv_nonneg v1 (by omega)
              have hd2 : nxV a x k q / G ≤ nxV a x k q := Int.ediv_le_self _ v1
              have HS3 := Lib.hid (HN.out.set hql (v := nxV a x k q / G) (by omega))
              rw [HST.out] at HS3
              have hg0' : (G == 0) = false := by simp; omega
              generalize nxV a x k q = v at *
              clear HN
              go_wp2
              clear k1 k2
              go_roundw
              case rel => exact ⟨q + 1, by omega, by go_num, HS3⟩
              case measure => simp [intOf]; omega
            · obtain rfl : q = k := by omega
              have HNW := Lib.hid (show NewI w (nsF a x) (.returned (.slice (some ⟨g, 0, none⟩) q q)) wr from by
                refine NewI.from HB2.out ?_
                have e : mixT (fun i => nxV a x q i / G) (nxV a x q) q q = nsF a x := by
                  rw [HNS.out, mixT_all]
                  refine gi_ext (by rw [clrL_len]; simp) fun p hp => ?_
                  have hp' : p < q := by simpa using hp
                  rw [gi_range hp', gi_clrL hp', gi_nxL hp']
                  have := (HF.out.nx hp').1
                  rw [show max (nxV a x q p) (-nxV a x q p) = nxV a x q p by omega]
                have ho := HN.out.own
                rw [e] at ho
                exact ⟨_, _, _, g, rfl, ho.ints.len.symm, ho, HN.out.up⟩)
              go_wp2
              go_ret
              exact HNW.out
    · have HN := Lib.hid (nsF_no (a := a) (x := x) (fun h => hs (by have := h.2; rw [hl] at this; exact this)))
      have HS := Lib.hid (fun W (k : Keep w W) => (hvs.trans (pb_false hs)) ▸ ValidShares_impl X nx cx x (n : Int) W (HY.out.keep k))
      clear hv hs hl hlx hvs
      go_enter Try.func37, Try.ntmps37
      go_wp2_with fail
      refine HC.out.mono ?_
      rintro e w1 ⟨rfl, hb⟩
      have HB1 := Lib.hid (show Below w.heap.size w w1 from hb)
      clear hb HC
      have HC := Lib.hid (HS.out w1 (Keep.below HB1.out))
      go_wp2_with fail
      refine HC.out.mono ?_
      rintro e w2 ⟨rfl, hq⟩
      have HB2 := Lib.hid (below_quiet HB1.out hq)
      clear hq HC HB1
      go_wp2
      go_ret
      exact NewI.empty HB2.out HN.out
  · rw [pb_false hv] at HC
    have HN := Lib.hid (nsF_no (a := a) (x := x) (fun h => hv h.1))
    clear hv hl hlx
    go_enter Try.func37, Try.ntmps37
    go_wp2_with fail
    refine HC.out.mono ?_
    rintro e w1 ⟨rfl, hb⟩
    go_wp2
    go_ret
    exact NewI.empty hb HN.out
end Go.Proofs.Ytlgnpfpdmjhhbaa

/- The harness of the exact laws, for slices of fractions. -/
namespace Go.Proofs.Ytlgnpfpdmjhhbaa
open Go.RowKit

/-- A slice of fractions whose cells read as ints, two each. -/
structure Frs (w : World) (A : Option Addr) (n c : Nat) (L : List Int) : Prop where
  len : L.length = 2 * n
  cap : n ≤ c
  max : n ≤ 1000
  at_ : 0 < n → ∃ b o, A = some ⟨b, o, none⟩ ∧ ∀ k, k < 2 * n → w.cell? ⟨b, o + k, none⟩ = some (.int .i64 (gi L k))
theorem Frs.keep {w w' : World} {A n c L} (h : Frs w A n c L) (k : Keep w w') : Frs w' A n c L :=
  ⟨h.len, h.cap, h.max, fun hn => let ⟨b, o, e, hc⟩ := h.at_ hn; ⟨b, o, e, fun i hi => k _ _ (hc i hi)⟩⟩
structure OwnF (lo hi : Nat) (w : World) (b : Nat) (A : Option Addr) (n c : Nat) (L : List Int) : Prop where
  frs : Frs w A n c L
  own : 0 < n → ∃ o, A = some ⟨b, o, none⟩ ∧ lo ≤ b ∧ b < hi ∧ ∀ k, k < 2 * n → w.frozen? ⟨b, o + k, none⟩ = false
theorem OwnF.lt {lo hi w b A n c L} (h : OwnF lo hi w b A n c L) (hn : 0 < n) : b < w.heap.size := by
  obtain ⟨b', o', e, hc⟩ := h.frs.at_ hn
  obtain ⟨o, e', _⟩ := h.own hn
  rw [e] at e'
  injection e' with e'
  injection e' with e1 _ _
  rw [← e1]
  exact World.block_lt_of_cell? w _ (hc 0 (by omega))
theorem OwnF.of_block {lo hi w w' b A n c L} (h : OwnF lo hi w b A n c L) (e : 0 < n → w'.heap[b]? = w.heap[b]?) : OwnF lo hi w' b A n c L := by
  refine ⟨⟨h.frs.len, h.frs.cap, h.frs.max, fun hn => ?_⟩, fun hn => ?_⟩
  · obtain ⟨b', o', e1, hc⟩ := h.frs.at_ hn
    obtain ⟨o, e2, _⟩ := h.own hn
    rw [e1] at e2
    injection e2 with e2
    injection e2 with e2 _ _
    subst e2
    exact ⟨b', o', e1, fun k hk => by rw [World.cell?_of_block (w := w) (e hn)]; exact hc k hk⟩
  · obtain ⟨o, e2, hB, hB2, hf⟩ := h.own hn
    exact ⟨o, e2, hB, hB2, fun k hk => by rw [World.frozen?_of_block (w := w) (e hn)]; exact hf k hk⟩
theorem OwnF.mono {lo hi lo' hi' w b A n c L} (h : OwnF lo hi w b A n c L) (hB : lo' ≤ lo) (hB' : hi ≤ hi') : OwnF lo' hi' w b A n c L :=
  ⟨h.frs, fun hn => let ⟨o, e, h1, h2, h3⟩ := h.own hn; ⟨o, e, Nat.le_trans hB h1, Nat.lt_of_lt_of_le h2 hB', h3⟩⟩
theorem OwnF.below {lo hi w w' b A n c L} (h : OwnF lo hi w b A n c L) (k : Below w.heap.size w w') : OwnF lo hi w' b A n c L := h.of_block fun hn => k.block _ (h.lt hn)
theorem OwnF.touch {lo hi lo' hi' w w' b A n c L} (h : OwnF lo hi w b A n c L) (k : Touch lo' hi' w w') (hd : hi ≤ lo' ∨ hi' ≤ lo) : OwnF lo hi w' b A n c L :=
  h.of_block fun hn => k.block _ (by obtain ⟨_, _, h1, h2, _⟩ := h.own hn; omega)
theorem OwnF.one {lo hi g w w' b A n c L} (h : OwnF lo hi w b A n c L) (k : One g w w') (hne : b ≠ g) : OwnF lo hi w' b A n c L := h.of_block fun _ => k.block b hne
theorem OwnF.nil (lo hi : Nat) (w : World) (b : Nat) : OwnF lo hi w b none 0 0 [] :=
  ⟨⟨rfl, Nat.le_refl _, by omega, fun h => absurd h (by omega)⟩, fun h => absurd h (by omega)⟩
theorem OwnF.set {lo hi w b o n c L} (h : OwnF lo hi w b (some ⟨b, o, none⟩) n c L) {i : Nat} (hi' : i < 2 * n) (v : Int) :
    OwnF lo hi (w.setCell ⟨b, o + i, none⟩ (.int .i64 v)) b (some ⟨b, o, none⟩) n c (L.set i v) := by
  have hl := h.frs.len
  obtain ⟨o', e, h1, h2, hf⟩ := h.own (by omega)
  injection e with e
  injection e with _ e _
  subst e
  obtain ⟨b', o', e, hc⟩ := h.frs.at_ (by omega)
  injection e with e
  injection e with e1 e2 _
  subst e1
  subst e2
  refine ⟨⟨by rw [List.length_set]; exact hl, h.frs.cap, h.frs.max, fun _ => ⟨b, o, rfl, fun k hk => ?_⟩⟩, fun _ => ⟨o, rfl, h1, h2, fun k hk => ?_⟩⟩
  · by_cases e : k = i
    · subst e
      rw [gi_set_eq (by omega), World.cell?_setCell_same w _ _ (hc k hk)]
    · rw [gi_set_ne (by omega) e, World.cell?_setCell_other w _ _ _ (fun e' => by injection e' with _ e' _; omega)]
      exact hc k hk
  · rw [World.frozen?_setCell]; exact hf k hk
/-- A new slice of fractions. -/
def NewF (w : World) (L : List Int) (e : Ending) (w' : World) : Prop :=
  ∃ Av n c gg, e = .returned (.slice Av n c) ∧ L.length = 2 * n ∧ OwnF w.heap.size w'.heap.size w' gg Av n c L ∧ Below w.heap.size w w'
theorem NewF.ge {w w' : World} {L : List Int} {e : Ending} (h : NewF w L e w') :
    ∃ Av c gg, e = .returned (.slice Av (L.length / 2) c) ∧ OwnF w.heap.size w'.heap.size w' gg Av (L.length / 2) c L ∧ w.heap.size ≤ gg ∧ Below w.heap.size w w' := by
  obtain ⟨Av, n, c, gg, rfl, hn, ho, hb⟩ := h
  obtain rfl : n = L.length / 2 := by omega
  by_cases h0 : 0 < L.length / 2
  · obtain ⟨o, e, h1, h2, hf⟩ := ho.own h0
    exact ⟨Av, c, gg, rfl, ho, h1, hb⟩
  · exact ⟨Av, c, w.heap.size, rfl, ⟨ho.frs, fun hn => absurd hn h0⟩, Nat.le_refl _, hb⟩

theorem NewF.geN {w w' : World} {L : List Int} {e : Ending} {N : Nat} (h : NewF w L e w') (hN : L.length = 2 * N) :
    ∃ Av c gg, e = .returned (.slice Av N c) ∧ OwnF w.heap.size w'.heap.size w' gg Av N c L ∧ w.heap.size ≤ gg ∧ Below w.heap.size w w' := by
  have := h.ge
  rw [show L.length / 2 = N by omega] at this
  exact this

set_option maxRecDepth 100000 in
set_option maxHeartbeats 1600000 in
theorem eqFracS_any (A B : Option Addr) (n c d : Nat) (L : List Int) (w : World) (hx : Frs w A n c L) (hy : Frs w B n d L) :
    Calls Try.prog 40 #[.slice A n c, .slice B n d] w (Ret (.bool true) w) := by
  have HX := Lib.hid hx
  have HY := Lib.hid hy
  have mx := hx.max
  have hne : ((n : Int) != (n : Int)) = false := by simp
  clear hx hy
  go_enter Try.func40, Try.ntmps40
  go_wp2
  go_loopw [5] (fun i wr => ∃ k : Nat, k ≤ n ∧ i = .int .i64 k ∧ Hid (Below w.heap.size w wr)) (fun i _ => n - (intOf i).toNat)
  case atStart => exact ⟨0, Nat.zero_le _, rfl, Lib.hid (Below.refl _ _)⟩
  case round =>
    obtain ⟨k, hk, rfl, HB⟩ := hrel
    by_cases hlt : k < n
    · obtain ⟨b, o, rfl, hc⟩ := HX.out.at_ (by omega)
      obtain ⟨b2, o2, rfl, hc2⟩ := HY.out.at_ (by omega)
      have q1 := Keep.below HB.out _ _ (hc (k * 2) (by omega))
      have q2 := Keep.below HB.out _ _ (hc (k * 2 + 1) (by omega))
      have q3 := Keep.below HB.out _ _ (hc2 (k * 2) (by omega))
      have q4 := Keep.below HB.out _ _ (hc2 (k * 2 + 1) (by omega))
      rw [← Nat.add_assoc] at q2 q4
      clear hc hc2
      generalize gi L (k * 2) = U at *
      generalize gi L (k * 2 + 1) = D at *
      go_wp2
      go_region_law ((go_simp; go_at_call 26; refine (eqFrac_self (.agg #[.int .i64 U, .int .i64 D]) _ ⟨U, D, rfl⟩).mono ?_; rintro e w2 ⟨rfl, hb⟩; have HB2 := Lib.hid (below_up (HB.out.drew) hb); clear hb))
      all_goals
        clear q1 q2 q3 q4
        go_wp2
        go_roundw
        case rel => exact ⟨k + 1, by omega, by go_num, Lib.hid (by first | exact HB2.out | exact HB2.out.drew | exact below_drewN HB2.out _)⟩
        case measure => simp [intOf]; omega
    · obtain rfl : k = n := by omega
      go_wp2
      go_ret
      exact ⟨rfl, HB.out⟩

def MarkedF (lo hi : Nat) (w : World) (b : Nat) (A : Option Addr) (n c : Nat) (k : Int) (e : Ending) (w' : World) : Prop :=
  e = .returned (.int .i64 (k + (2 * n : Nat))) ∧ OwnF lo hi w' b A n c (seqI k (2 * n)) ∧ (n = 0 → w = w') ∧ One b w w'

set_option maxRecDepth 100000 in
set_option maxHeartbeats 1600000 in
theorem markFracS_any (lo hi b : Nat) (A : Option Addr) (n c : Nat) (L : List Int) (k : Int) (w : World) (hx : OwnF lo hi w b A n c L) (h0 : 0 ≤ k) (h1 : k ≤ 1000) :
    Calls Try.prog 41 #[.slice A n c, .int .i64 k] w (MarkedF lo hi w b A n c k) := by
  have HX := Lib.hid hx
  have mx := hx.frs.max
  clear hx
  go_enter Try.func41, Try.ntmps41
  go_wp2
  go_loopw [1, 5] (fun z i wr => ∃ (j : Nat) (ys : List Int), j ≤ n ∧ i = .int .i64 j ∧ z = .int .i64 (k + (2 * j : Nat)) ∧ Hid (∀ l, l < 2 * j → gi ys l = k + l) ∧ Hid (OwnF lo hi wr b A n c ys) ∧ Hid (One b w wr) ∧ Hid (n = 0 → w = wr)) (fun _ i _ => n - (intOf i).toNat)
  case atStart => exact ⟨0, L, Nat.zero_le _, rfl, by simp, Lib.hid (fun _ h => absurd h (by omega)), HX, Lib.hid (One.refl _ _), Lib.hid (fun _ => rfl)⟩
  case round =>
    obtain ⟨j, ys, hj, rfl, rfl, HA, HO, H1, H0⟩ := hrel
    by_cases hlt : j < n
    · obtain ⟨o, rfl, _, _, hf⟩ := HO.out.own (by omega)
      obtain ⟨b', o', e, hc⟩ := HO.out.frs.at_ (by omega)
      injection e with e
      injection e with e1 e2 _
      subst e1
      subst e2
      have HL := Lib.hid HO.out.frs.len
      have c1 := hc (j * 2) (by omega)
      have f1 := hf (j * 2) (by omega)
      have c2 := hc (j * 2 + 1) (by omega)
      have f2 := hf (j * 2 + 1) (by omega)
      rw [← Nat.add_assoc] at c2 f2
      have HO2 := Lib.hid ((HO.out.set (i := j * 2) (by omega) (k + (2 * j : Nat))).set (i := j * 2 + 1) (by omega) (k + (2 * j : Nat) + 1))
      have H12 := Lib.hid ((H1.out.set (o + j * 2) (.int .i64 (k + (2 * j : Nat)))).set (o + (j * 2 + 1)) (.int .i64 (k + (2 * j : Nat) + 1)))
      rw [← Nat.add_assoc] at HO2 H12
      have hz : k + ((2 * j : Nat) : Int) + 1 + 1 = k + ((2 * (j + 1) : Nat) : Int) := by omega
      have HN := Lib.hid (show ∀ l, l < 2 * (j + 1) → gi ((ys.set (j * 2) (k + (2 * j : Nat))).set (j * 2 + 1) (k + (2 * j : Nat) + 1)) l = k + l from fun l hl => by
        have hly := HL.out
        by_cases e1 : l = j * 2 + 1
        · subst e1; rw [gi_set_eq (by rw [List.length_set]; omega)]; omega
        · rw [gi_set_ne (by rw [List.length_set]; omega) e1]
          by_cases e2 : l = j * 2
          · subst e2; rw [gi_set_eq (by omega)]; omega
          · rw [gi_set_ne (by omega) e2]; exact HA.out l (by omega))
      have hkb : k + ((2 * j : Nat) : Int) ≤ 4000 := by omega
      have hkb0 : 0 ≤ k + ((2 * j : Nat) : Int) := by omega
      clear hc hf HO H1
      generalize k + ((2 * j : Nat) : Int) = z at *
      go_wp2
      go_roundw
      case rel => exact ⟨j + 1, _, by omega, by go_num, by congr 1, HN, HO2, H12, Lib.hid (fun e => absurd e (by omega))⟩
      case measure => simp [intOf]; omega
    · obtain rfl : j = n := by omega
      have e : ys = seqI k (2 * j) := gi_ext (by rw [HO.out.frs.len, seqI_len]) fun l hl => by
        rw [HO.out.frs.len] at hl
        rw [HA.out l hl, gi_seqI hl]
      have HO2 := Lib.hid (e ▸ HO.out)
      clear e HO
      go_wp2
      go_ret
      exact ⟨ret_int (by omega), HO2.out, H0.out, H1.out⟩

set_option maxRecDepth 100000 in
set_option maxHeartbeats 1600000 in
theorem heldFracS_any (A : Option Addr) (n c : Nat) (k : Int) (w : World) (hx : Frs w A n c (seqI k (2 * n))) (h0 : 0 ≤ k) (h1 : k ≤ 1000) :
    Calls Try.prog 42 #[.slice A n c, .int .i64 k] w fun e w' => e = .returned (.int .i64 (k + (2 * n : Nat))) ∧ Quiet w w' := by
  have mx := hx.max
  have HX := Lib.hid hx
  clear hx
  go_enter Try.func42, Try.ntmps42
  go_wp2
  go_loopw [1, 5] (fun z i wr => ∃ (j : Nat), j ≤ n ∧ i = .int .i64 j ∧ z = .int .i64 (k + (2 * j : Nat)) ∧ Quiet w wr) (fun _ i _ => n - (intOf i).toNat)
  case atStart => exact ⟨0, Nat.zero_le _, rfl, by simp, Quiet.refl _⟩
  case round =>
    obtain ⟨j, hj, rfl, rfl, q, rfl⟩ := hrel
    by_cases hlt : j < n
    · obtain ⟨b, o, rfl, hc⟩ := HX.out.at_ (by omega)
      have c1 := hc (j * 2) (by omega)
      have c2 := hc (j * 2 + 1) (by omega)
      rw [gi_seqI (by omega)] at c1 c2
      rw [← Nat.add_assoc] at c2
      have e1 : k + ((j * 2 : Nat) : Int) = k + ((2 * j : Nat) : Int) := by omega
      have e2 : k + ((j * 2 + 1 : Nat) : Int) = k + ((2 * j : Nat) : Int) + 1 := by omega
      rw [e1] at c1
      rw [e2] at c2
      have hz : k + ((2 * j : Nat) : Int) + 1 + 1 = k + ((2 * (j + 1) : Nat) : Int) := by omega
      have hkb : k + ((2 * j : Nat) : Int) ≤ 4000 := by omega
      have hkb0 : 0 ≤ k + ((2 * j : Nat) : Int) := by omega
      clear hc e1 e2
      generalize k + ((2 * j : Nat) : Int) = z at *
      have hn1 : (z != z) = false := by simp
      have hn2 : (z + 1 != z + 1) = false := by simp
      go_wp2
      go_roundw
      case rel => exact ⟨j + 1, by omega, by go_num, by congr 1, ⟨_, rfl⟩⟩
      case measure => simp [intOf]; omega
    · obtain rfl : j = n := by omega
      go_wp2
      go_ret
      exact ⟨ret_int (by omega), ⟨_, rfl⟩⟩
end Go.Proofs.Ytlgnpfpdmjhhbaa

/- Growth, by the model: a slice of fractions made by append. -/
namespace Go.Proofs.Ytlgnpfpdmjhhbaa
open Go.RowKit

theorem payR_dot (a : List (List Int)) (x y : List Int) (i : Nat) : ∀ j, payR a x y i j = gi x i * dotr a y i j
  | 0 => by simp [payR, dotr]
  | j + 1 => by
    rw [payR, dotr, payR_dot a x y i j, Int.mul_add]
    have : gi x i * gi y j * g2 a i j = gi x i * (g2 a i j * gi y j) := by rw [Int.mul_assoc, Int.mul_comm (gi y j)]
    omega
theorem payU_ge {a : List (List Int)} {x : List Int} {n : Nat} (hx : ∀ j, j < n → 0 ≤ gi x j) (hd : ∀ i, i < n → 1 ≤ dotr a x i n) : ∀ {k}, k ≤ n → sm x k ≤ payU a x x n k
  | 0, _ => Int.le_refl _
  | k + 1, h => by
    have h1 := payU_ge hx hd (k := k) (by omega)
    have h2 : gi x k * 1 ≤ gi x k * dotr a x k n := Int.mul_le_mul_of_nonneg_left (hd k (by omega)) (hx k (by omega))
    rw [payU, payR_dot, sm]
    omega
/-- What a strategy grows by, above and below the line. -/
def gU (a : List (List Int)) (x : List Int) (n i : Nat) : Int := dotr a x i n * tot x
def gP (a : List (List Int)) (x : List Int) (n : Nat) : Int := payU a x x n n
def grL (a : List (List Int)) (x : List Int) (n : Nat) : Nat → List Int
  | 0 => []
  | i + 1 => grL a x n i ++ [frU (gU a x n i) (gP a x n), frD (gU a x n i) (gP a x n)]
theorem grL_len (a : List (List Int)) (x : List Int) (n : Nat) : ∀ i, (grL a x n i).length = 2 * i
  | 0 => rfl
  | i + 1 => by rw [grL, List.length_append, grL_len a x n i]; simp; omega
theorem gi_append_lt {L M : List Int} {k : Nat} (h : k < L.length) : gi (L ++ M) k = gi L k := by
  rw [gi_get (by rw [List.length_append]; omega), gi_get h, List.getElem_append_left h]
theorem gi_append_ge {L M : List Int} {k : Nat} (h : k < M.length) : gi (L ++ M) (L.length + k) = gi M k := by
  rw [gi_get (by rw [List.length_append]; omega), gi_get h, List.getElem_append_right (by omega)]
  simp
theorem gi_grL (a : List (List Int)) (x : List Int) (n : Nat) : ∀ {k i}, i < k → gi (grL a x n k) (i * 2) = frU (gU a x n i) (gP a x n) ∧ gi (grL a x n k) (i * 2 + 1) = frD (gU a x n i) (gP a x n)
  | 0, _, h => absurd h (by omega)
  | k + 1, i, h => by
    have hl := grL_len a x n k
    rw [grL]
    by_cases e : i = k
    · subst e
      have h0 := gi_append_ge (L := grL a x n i) (M := [frU (gU a x n i) (gP a x n), frD (gU a x n i) (gP a x n)]) (k := 0) (by simp)
      have h1 := gi_append_ge (L := grL a x n i) (M := [frU (gU a x n i) (gP a x n), frD (gU a x n i) (gP a x n)]) (k := 1) (by simp)
      rw [hl] at h0 h1
      rw [show i * 2 = 2 * i + 0 by omega, h0, show 2 * i + 0 + 1 = 2 * i + 1 by omega, h1]
      exact ⟨rfl, rfl⟩
    · rw [gi_append_lt (by omega), gi_append_lt (by omega)]
      exact gi_grL a x n (by omega)
theorem FS.gu {a x n} (h : FS a x n) {i : Nat} (hi : i < n) : 1 ≤ gU a x n i ∧ gU a x n i ≤ 81000000 := by
  have h1 := h.dot hi
  have h2 := h.s.bd (by have := h.n3; omega)
  unfold gU
  have h3 : 1 * 1 ≤ dotr a x i n * tot x := Int.mul_le_mul h1.1 (by omega) (by omega) (by omega)
  have h4 : dotr a x i n * tot x ≤ 27000 * 3000 := Int.mul_le_mul h1.2 h2.2 (by omega) (by omega)
  omega
theorem FS.pb {a x n} (h : FS a x n) : PB a x x n n := ⟨fun i j hi hj => by have := h.a hi hj; omega, h.x, h.x⟩
theorem FS.gp {a x n} (h : FS a x n) : 1 ≤ gP a x n ∧ gP a x n ≤ 81000000 := by
  have h0 := h.n3
  have h1 := payU_ge (a := a) (x := x) (n := n) (fun j hj => (h.x j hj).1) (fun i hi => (h.dot hi).1) (Nat.le_refl n)
  have h2 := payU_bd h.pb h0.2 (Nat.le_refl n)
  have h3 := h.s.2.2
  unfold tot at h3
  rw [h.xl] at h3
  unfold gP
  omega
noncomputable def grF (a : List (List Int)) (x : List Int) : List Int := if pb (VF a ∧ VS x a.length) = true then grL a x a.length a.length else []
theorem grF_yes {a : List (List Int)} {x : List Int} {n : Nat} (h : FS a x n) : grF a x = grL a x n n := by
  unfold grF; rw [if_pos (pb_true ⟨h.f, by rw [h.l]; exact h.s⟩), h.l]
theorem grF_no {a : List (List Int)} {x : List Int} (h : ¬ (VF a ∧ VS x a.length)) : grF a x = [] := by unfold grF; rw [if_neg (by rw [pb_false h]; decide)]
theorem grF_le (a : List (List Int)) (x : List Int) : (grF a x).length ≤ 100 ∧ 2 * ((grF a x).length / 2) = (grF a x).length := by
  by_cases h : VF a ∧ VS x a.length
  · have hf : FS a x a.length := ⟨h.1, h.2, rfl⟩
    have := hf.n3
    rw [grF_yes hf, grL_len]; omega
  · rw [grF_no h]; simp

theorem grF_two (a : List (List Int)) (x : List Int) : ∃ N, (grF a x).length = 2 * N ∧ N ≤ 50 := ⟨(grF a x).length / 2, (grF_le a x).2.symm, by have := (grF_le a x).1; omega⟩

/-- Fractions under way: a slice made by append. -/
structure FU (wb : World) (v : Value) (n : Nat) (L : List Int) (w : World) : Prop where
  own : w.ownsRow wb.heap.size 32 2 v n (L.map iv)
  hi_ : ∀ k, v.ownBlock = some k → k < w.heap.size
  up : Below wb.heap.size wb w
theorem FU.start (wb : World) : FU wb (.slice (some ⟨wb.heap.size, 0, none⟩) 0 0) 0 [] (wb.alloc (.cells #[] 32)) :=
  ⟨World.ownsRow_made (e := 32) (size := 2) wb #[] 0 (Nat.le_refl _) (Nat.zero_le _) rfl, fun k hk => by simp [Value.ownBlock] at hk; simp; omega, below_alloc _ _⟩
theorem FU.next {wb v n L w w'} (h : FU wb v n L w) (k : Below w.heap.size w w') : FU wb v n L w' :=
  ⟨blk_kept h.own fun g hg => k.block g (h.hi_ g hg), fun g hg => Nat.lt_of_lt_of_le (h.hi_ g hg) k.size, below_up h.up k⟩
theorem FU.form {wb v n L w} (h : FU wb v n L w) : ∃ A c, v = .slice A n c := by
  rcases h.own.2 with ⟨rfl, h0⟩ | ⟨g, cap, cur, rfl, _⟩
  · exact ⟨none, 0, by rw [h0]⟩
  · exact ⟨_, _, rfl⟩
theorem FU.len {wb v n L w} (h : FU wb v n L w) : L.length = 2 * n := by have := h.own.1; rw [List.length_map] at this; omega
theorem FU.push {wb v v' n L w w' u d} (h : FU wb v n L w) (hown : w'.ownsRow wb.heap.size 32 2 v' (n + 1) (L.map iv ++ [iv u, iv d]))
    (hgrow : (w.alloc (.cells #[iv u, iv d] 32)).grownBy w' v.ownBlock) (hat : v'.ownBlock = v.ownBlock ∨ v'.ownBlock = some (w.heap.size + 1)) : FU wb v' (n + 1) (L ++ [u, d]) w' := by
  have hsz := hgrow.size
  simp only [World.size_alloc] at hsz
  have hu : ∀ k, v.ownBlock = some k → wb.heap.size ≤ k := fun k hk => (h.own.lt k hk).1
  have hbelow : ∀ k, k < wb.heap.size → w'.heap[k]? = w.heap[k]? := fun k hk => by
    have := h.up.size
    exact (hgrow.block k (by simp; omega) (fun e => by have := hu k e.symm; omega)).trans (Below.heap_alloc _ _ _ (by omega))
  refine ⟨by rw [List.map_append]; exact hown, fun k hk => ?_, ?_⟩
  · rcases hat with hat | hat
    · have := h.hi_ k (by rw [← hat]; exact hk); omega
    · have := (hown.lt k hk).2; omega
  · exact ⟨hgrow.os.trans h.up.os, hgrow.tape.trans h.up.tape, hgrow.output.trans h.up.output, by have := h.up.size; omega, fun k hk => (hbelow k hk).trans (h.up.block k hk)⟩
theorem FU.new {wb n L w} {A : Option Addr} {c : Nat} (h : FU wb (.slice A n c) n L w) (hm : n ≤ 1000) : NewF wb L (.returned (.slice A n c)) w := by
  have hl := h.len
  have hh := h.hi_
  rcases h.own.2 with ⟨e, h0⟩ | ⟨g, cap, cur, e, hb, hg, hnc, _, hcs, htake⟩
  · injection e with e1 e2 e3
    subst e1
    subst e3
    subst h0
    have : L = [] := List.eq_nil_of_length_eq_zero (by omega)
    subst this
    exact ⟨none, 0, 0, 0, rfl, rfl, OwnF.nil _ _ _ _, h.up⟩
  · injection e with e1 e2 e3
    subst e1
    subst e3
    refine ⟨_, n, c, g, rfl, hl, ⟨⟨hl, hnc, hm, fun _ => ⟨g, 0, rfl, fun k hk => ?_⟩⟩, fun _ => ⟨0, rfl, hb, hh g rfl, fun k _ => ?_⟩⟩, h.up⟩
    · rw [Nat.zero_add, ← getElem_iv (by omega : k < L.length), ← htake, List.getElem?_take, if_pos (by omega)]
      simp [World.cell?, hg]
    · rw [Nat.zero_add]; simp [World.frozen?, hg]
theorem cells_two_new (w : World) (u d : Int) : ∀ j v, [iv u, iv d][j]? = some v → (w.alloc (.cells #[iv u, iv d] 32)).cell? ((⟨w.heap.size, 0, none⟩ : Addr).add j) = some v := fun j v h => by
  have hadd : (⟨w.heap.size, 0, none⟩ : Addr).add j = ⟨w.heap.size, j, none⟩ := by unfold Addr.add; split <;> simp_all
  rw [hadd]
  exact blk_cell (blk_new w _ _) (by simpa using h)
theorem NewF.empty {w w' : World} {ys : List Int} (h : Below w.heap.size w w') (hy : ys = []) : NewF w ys (.returned (.slice none 0 0)) w' := by
  subst hy; exact ⟨none, 0, 0, 0, rfl, rfl, OwnF.nil _ _ _ _, h⟩
theorem NewF.from {w w1 w2 : World} {ys : List Int} {e : Ending} (h : Below w.heap.size w w1) (k : NewF w1 ys e w2) : NewF w ys e w2 := by
  obtain ⟨A, n, c, g, he, hn, ho, hb⟩ := k
  exact ⟨A, n, c, g, he, hn, ho.mono h.size (Nat.le_refl _), below_up h hb⟩
theorem Try.infoF : (Try.prog.info? 32).map (fun i => (i.zero, i.size, i.bytes)) = some (some (.agg #[.int .i64 0, .int .i64 0]), 2, 16) := by kernel_rfl

set_option maxRecDepth 100000 in
set_option maxHeartbeats 3200000 in
theorem GrowthOf_spec (A : Option Addr) (n c : Nat) (a : List (List Int)) (X : Option Addr) (nx cx : Nat) (x : List Int) (w : World) (ha : IntRows w A n c a) (hx : Ints w X nx cx x) :
    Calls Try.prog 38 #[.slice A n c, .slice X nx cx] w (NewF w (grF a x)) := by
  have HX := Lib.hid ha
  have HY := Lib.hid hx
  have hl := ha.len
  have hlx := hx.len
  clear ha hx
  by_cases hv : VF a
  · have HC := Lib.hid (pb_true hv ▸ validField_any A n c a w HX.out)
    have hn1 := hv.q.1.n1
    have hn3 := hv.q.1.n3
    rw [hl] at hn1 hn3
    by_cases hs : VS x (n : Int)
    · have HF := Lib.hid (FS.of hl hv hs)
      have HS := Lib.hid (fun W (k : Keep w W) => pb_true hs ▸ validShares_any X nx cx x (n : Int) W (HY.out.keep k) (by omega))
      have hm := hv.q.len2' hl
      obtain ⟨b, o, rb, ro, cc, rfl, tab⟩ := HX.out.tab hv.q.1
      rw [hm] at tab
      have HT := Lib.hid tab
      obtain rfl : n = nx := by have := hs.1; omega
      have HGF := Lib.hid (grF_yes HF.out)
      have HSU := Lib.hid (hs.sumOk (by omega))
      have HPB := Lib.hid (fun i => (⟨tab.bd, onl_bds n i, HF.out.x⟩ : PB a (onl n i) x n n))
      have HPU := Lib.hid (fun i (hi : i < n) => payU_alone a x n n i hi)
      obtain ⟨i0, hi0, hz0, hz1, hz2⟩ := info_parts Try.infoF
      clear hm tab hv hs hl hlx
      go_enter Try.func38, Try.ntmps38
      go_wp2_with fail
      refine HC.out.mono ?_
      rintro e w1 ⟨rfl, hq⟩
      have HB1 := Lib.hid (show Below w.heap.size w w1 from hq.below)
      clear hq HC
      have HC := Lib.hid (HS.out w1 (Keep.below HB1.out))
      go_wp2_with fail
      refine HC.out.mono ?_
      rintro e w2 ⟨rfl, hq⟩
      have HB2 := Lib.hid (below_quiet HB1.out hq)
      have HT2 := Lib.hid (HT.out.keep (Keep.below HB2.out))
      have HY2 := Lib.hid (HY.out.keep (Keep.below HB2.out))
      clear hq HC HB1 HX HY HT HS
      have HS0 := Lib.hid (FU.start w2)
      have HZ : Hid (grL a x n 0 = []) := Lib.hid rfl
      go_wp2
      go_loopw [5, 6] (fun v i wr => ∃ k : Nat, k ≤ n ∧ i = .int .i64 k ∧ Hid (FU w2 v k (grL a x n k) wr)) (fun _ i _ => n - (intOf i).toNat)
      case atStart => exact ⟨0, Nat.zero_le _, rfl, Lib.hid (by rw [HZ.out]; exact HS0.out)⟩
      case round =>
        clear HS0 HZ
        obtain ⟨k, hk, rfl, HU⟩ := hrel
        obtain ⟨Av, cv, rfl⟩ := HU.out.form
        by_cases hlt : k < n
        · have HCS : Hid (grL a x n (k + 1) = grL a x n k ++ [frU (gU a x n k) (gP a x n), frD (gU a x n k) (gP a x n)]) := Lib.hid rfl
          obtain ⟨u1, u2⟩ := HF.out.gu hlt
          obtain ⟨p1, p2⟩ := HF.out.gp
          have HGU : Hid (dotr a x k n * tot x = gU a x n k) := Lib.hid rfl
          have HGP : Hid (payU a x x n n = gP a x n) := Lib.hid rfl
          have hmul : IntKind.i64.wrap (dotr a x k n * tot x) = gU a x n k := by rw [HGU.out]; exact wrap_in64 (by omega)
          have HML := Lib.hid HU.out.len
          have HC := Lib.hid (alone_spec n k wr (by omega) hlt)
          go_wp2_with fail
          refine HC.out.mono ?_
          rintro e w3 ⟨rfl, ho, hb⟩
          have HU3 := Lib.hid (HU.out.next hb)
          have HC := Lib.hid (HPU.out k hlt ▸ payUp_any b o rb ro cc n n c n cx _ _ a (onl n k) x w3 (HT2.out.keep (Keep.below HU3.out.up)) ho.ints (HY2.out.keep (Keep.below HU3.out.up)) (HPB.out k))
          clear ho hb HU
          go_wp2_with fail
          refine HC.out.mono ?_
          rintro e w4 ⟨rfl, hq⟩
          have HU4 := Lib.hid (HU3.out.next hq.below)
          clear hq HC HU3
          have HC := Lib.hid (sum_any _ _ _ _ w4 (HY2.out.keep (Keep.below HU4.out.up)) HSU.out)
          have hd := HF.out.dot hlt
          have ht := HF.out.s.bd (by omega)
          obtain ⟨d1, d2⟩ := hd
          obtain ⟨t1, t2⟩ := ht
          generalize dotr a x k n = D at *
          generalize tot x = T at *
          go_wp2_with fail
          refine HC.out.mono ?_
          rintro e w5 ⟨rfl, hq⟩
          have HU5 := Lib.hid (HU4.out.next hq.below)
          clear hq HC HU4
          have HC := Lib.hid (HGP.out ▸ payUp_any b o rb ro cc n n c cx cx _ _ a x x w5 (HT2.out.keep (Keep.below HU5.out.up)) (HY2.out.keep (Keep.below HU5.out.up)) (HY2.out.keep (Keep.below HU5.out.up)) HF.out.pb)
          go_wp2_with fail
          refine HC.out.mono ?_
          rintro e w6 ⟨rfl, hq⟩
          have HU6 := Lib.hid (HU5.out.next hq.below)
          clear hq HC HU5
          have HC := Lib.hid (frac_any (gU a x n k) (gP a x n) w6 (by unfold Mid; omega) (by unfold Mid; omega) p1)
          go_wp2_with fail
          refine HC.out.mono ?_
          rintro e w7 ⟨rfl, hb⟩
          have HU7 := Lib.hid (HU6.out.next hb)
          clear hb HC HU6
          have HFV : Hid (frV (gU a x n k) (gP a x n) = .agg #[.int .i64 (frU (gU a x n k) (gP a x n)), .int .i64 (frD (gU a x n k) (gP a x n))]) := Lib.hid rfl
          rw [HFV.out]
          generalize frU (gU a x n k) (gP a x n) = U at *
          generalize frD (gU a x n k) (gP a x n) = V at *
          have hb := below_alloc w7 (.cells #[iv U, iv V] 32)
          have HB4 := Lib.hid (HU7.out.next hb).own
          have HN := Lib.hid (cells_two_new w7 U V)
          have hwz := HU7.out.up.size
          clear hb
          generalize grL a x n k = ys at *
          go_wp2_with (at_builtin; refine wpList_append_own_at _ rfl _ _ 41 rfl w2.heap.size 32 i0 (.agg #[.int .i64 0, .int .i64 0]) 2 16 Try.underlying41 hi0 hz0 hz1 hz2 rfl (by decide) _ k (ys.map iv) rfl HB4.out ⟨w7.heap.size, 0, none⟩ 1 1 [iv U, iv V] rfl rfl ?c1 ?c2 ?c3 ?c4 ?c5 ?_)
          case c1 => exact HN.out
          case c2 => intro u hu; simp at hu; rcases hu with rfl | rfl <;> rfl
          case c3 => unfold maxLen; omega
          case c4 => omega
          case c5 => simp; omega
          intro v' w8 hown' hgrow _ hat
          have HU8 := Lib.hid (HU7.out.push hown' hgrow (by simpa using hat))
          clear HB4 HN hown' hgrow hat HU7
          go_wp2
          go_roundw
          case rel => exact ⟨k + 1, by omega, by go_num, Lib.hid (by rw [HCS.out]; exact HU8.out)⟩
          case measure => simp [intOf]; omega
        · obtain rfl : k = n := by omega
          have HNW := Lib.hid (NewF.from HB2.out (HU.out.new (by omega)))
          go_wp2
          go_ret
          rw [HGF.out]
          exact HNW.out
    · have HN := Lib.hid (grF_no (a := a) (x := x) (fun h => hs (by have := h.2; rw [hl] at this; exact this)))
      have HS := Lib.hid (fun W (k : Keep w W) => pb_false hs ▸ validShares_any X nx cx x (n : Int) W (HY.out.keep k) (by omega))
      clear hv hs hl hlx
      go_enter Try.func38, Try.ntmps38
      go_wp2_with fail
      refine HC.out.mono ?_
      rintro e w1 ⟨rfl, hq⟩
      have HB1 := Lib.hid (show Below w.heap.size w w1 from hq.below)
      clear hq HC
      have HC := Lib.hid (HS.out w1 (Keep.below HB1.out))
      go_wp2_with fail
      refine HC.out.mono ?_
      rintro e w2 ⟨rfl, hq⟩
      have HB2 := Lib.hid (below_quiet HB1.out hq)
      clear hq HC HB1
      go_wp2
      go_ret
      exact NewF.empty HB2.out HN.out
  · have HC := Lib.hid (pb_false hv ▸ validField_any A n c a w HX.out)
    have HN := Lib.hid (grF_no (a := a) (x := x) (fun h => hv h.1))
    clear hv hl hlx
    go_enter Try.func38, Try.ntmps38
    go_wp2_with fail
    refine HC.out.mono ?_
    rintro e w1 ⟨rfl, hq⟩
    have HB1 := Lib.hid (show Below w.heap.size w w1 from hq.below)
    clear hq HC
    go_wp2
    go_ret
    exact NewF.empty HB1.out HN.out
end Go.Proofs.Ytlgnpfpdmjhhbaa

/- Growth, by the program. -/
namespace Go.Proofs.Ytlgnpfpdmjhhbaa
open Go.RowKit

set_option maxRecDepth 100000 in
set_option maxHeartbeats 1600000 in
theorem over_any (U1 D1 U2 D2 : Int) (w : World) (h1 : 0 ≤ U1 * D2 ∧ U1 * D2 ≤ 1000000000000000) (h2 : 1 ≤ D1 * U2 ∧ D1 * U2 ≤ 1000000000000000) :
    Calls Try.prog 83 #[.agg #[.int .i64 U1, .int .i64 D1], .agg #[.int .i64 U2, .int .i64 D2]] w (Ret (frV (U1 * D2) (D1 * U2)) w) := by
  have hb1 := below_alloc w (.cells #[.int .i64 U1, .int .i64 D1] 32)
  have hb2 := below_alloc (w.alloc (.cells #[.int .i64 U1, .int .i64 D1] 32)) (.cells #[.int .i64 U2, .int .i64 D2] 32)
  have HB := Lib.hid (below_up hb1 hb2)
  have b1 := blk_old (blk_new w 32 #[.int .i64 U1, .int .i64 D1]) (.cells #[.int .i64 U2, .int .i64 D2] 32)
  have b2 := blk_new (w.alloc (.cells #[.int .i64 U1, .int .i64 D1] 32)) 32 #[.int .i64 U2, .int .i64 D2]
  rw [World.size_alloc] at b2
  have HPF := Lib.hid (PF.start ((w.alloc (.cells #[.int .i64 U1, .int .i64 D1] 32)).alloc (.cells #[.int .i64 U2, .int .i64 D2] 32)))
  have c0 := blk_cell (blk_old b1 (.cells #[.int .i64 0, .int .i64 0] 32)) (i := 0) rfl
  have c1 := blk_cell (blk_old b1 (.cells #[.int .i64 0, .int .i64 0] 32)) (i := 1) rfl
  have c2 := blk_cell (blk_old b2 (.cells #[.int .i64 0, .int .i64 0] 32)) (i := 0) rfl
  have c3 := blk_cell (blk_old b2 (.cells #[.int .i64 0, .int .i64 0] 32)) (i := 1) rfl
  have HSZ : Hid (((w.alloc (.cells #[.int .i64 U1, .int .i64 D1] 32)).alloc (.cells #[.int .i64 U2, .int .i64 D2] 32)).heap.size = w.heap.size + 1 + 1) := Lib.hid (by simp)
  obtain ⟨h11, h12⟩ := h1
  obtain ⟨h21, h22⟩ := h2
  have w1 : IntKind.i64.wrap (U1 * D2) = U1 * D2 := wrap_in64 (by omega)
  have w2 : IntKind.i64.wrap (D1 * U2) = D1 * U2 := wrap_in64 (by omega)
  clear hb1 hb2 b1 b2
  go_enter Try.func83, Try.ntmps83
  have HC := Lib.hid (fun W => fracOf_any (U1 * D2) (D1 * U2) W (by unfold Mid; omega) (by unfold Mid; omega) h21)
  go_wp2_with fail
  clear c0 c1 c2 c3
  generalize (w.alloc (.cells #[.int .i64 U1, .int .i64 D1] 32)).alloc (.cells #[.int .i64 U2, .int .i64 D2] 32) = V at *
  refine (HC.out _).mono ?_
  rintro e w5 ⟨rfl, hb⟩
  have HPF1 := Lib.hid (HPF.out.up hb)
  clear hb HC HPF
  have HFV : Hid (frV (U1 * D2) (D1 * U2) = .agg #[.int .i64 (frU (U1 * D2) (D1 * U2)), .int .i64 (frD (U1 * D2) (D1 * U2))]) := Lib.hid rfl
  rw [HFV.out]
  generalize frU (U1 * D2) (D1 * U2) = U at *
  generalize frD (U1 * D2) (D1 * U2) = D at *
  have c0 := blk_cell HPF1.out.box (i := 0) rfl
  have c1 := blk_cell HPF1.out.box (i := 1) rfl
  have f0 := blk_frozen HPF1.out.box 0
  have f1 := blk_frozen HPF1.out.box 1
  rw [HSZ.out] at c0 c1 f0 f1
  go_wp2
  clear c0 c1 f0 f1
  have hbx := HPF1.out.box
  rw [HSZ.out] at hbx
  have B1 := blk_set (blk_set hbx 0 (.int .i64 U)) 1 (.int .i64 D)
  have r0 := blk_cell B1 (i := 0) (v := .int .i64 U) rfl
  have r1 := blk_cell B1 (i := 1) (v := .int .i64 D) rfl
  have HBX := Lib.hid (((HB.out.trans (HPF1.out.below.mono (by rw [HSZ.out]; omega))).setCell (p := ⟨w.heap.size + 1 + 1, 0, none⟩) (by show w.heap.size ≤ w.heap.size + 1 + 1; omega) (.int .i64 U)).setCell (p := ⟨w.heap.size + 1 + 1, 1, none⟩) (by show w.heap.size ≤ w.heap.size + 1 + 1; omega) (.int .i64 D))
  clear B1 HPF1 hbx
  generalize (w5.setCell ⟨w.heap.size + 1 + 1, 0, none⟩ (.int .i64 U)).setCell ⟨w.heap.size + 1 + 1, 1, none⟩ (.int .i64 D) = WE at *
  refine bodyPost_ret (v := .agg #[.int .i64 U, .int .i64 D]) (by simp [results, Try.results83, go_sem, r0, r1]) rfl ?_
  exact ⟨by rw [HFV.out], HBX.out⟩

/-- What is divided by the mean is what the model says. -/
theorem FS.over {a x n} (h : FS a x n) {i : Nat} (hi : i < n) :
    let U1 := frU (dotr a x i n) (tot x); let D1 := frD (dotr a x i n) (tot x); let U2 := frU (gP a x n) (tot x * tot x); let D2 := frD (gP a x n) (tot x * tot x)
    (0 ≤ U1 * D2 ∧ U1 * D2 ≤ 1000000000000000) ∧ (1 ≤ D1 * U2 ∧ D1 * U2 ≤ 1000000000000000) ∧ frV (U1 * D2) (D1 * U2) = frV (gU a x n i) (gP a x n) := by
  intro U1 D1 U2 D2
  have hn := h.n3
  obtain ⟨d1, d2⟩ := h.dot hi
  obtain ⟨p1, p2⟩ := h.gp
  obtain ⟨t1, t2⟩ := h.s.bd (by omega)
  have htt : 1 ≤ tot x * tot x ∧ tot x * tot x ≤ 9000000 := by
    have h1 : 1 * 1 ≤ tot x * tot x := Int.mul_le_mul (by omega) (by omega) (by omega) (by omega)
    have h2 : tot x * tot x ≤ 3000 * 3000 := Int.mul_le_mul t2 t2 (by omega) (by omega)
    omega
  have r1 := fr_ratio (dotr a x i n) (tot x)
  have r2 := fr_ratio (gP a x n) (tot x * tot x)
  have ub1 := frU_bd (u := dotr a x i n) (d := tot x) (B := 27000) (by omega) (by omega)
  have db1 := frD_bd (u := dotr a x i n) (d := tot x) (B := 3000) (by omega) t2
  have ub2 := frU_bd (u := gP a x n) (d := tot x * tot x) (B := 81000000) (by omega) (by omega)
  have db2 := frD_bd (u := gP a x n) (d := tot x * tot x) (B := 9000000) (by omega) htt.2
  have hU1 : 1 ≤ U1 := by
    have e : U1 * gcdI (dotr a x i n) (tot x) = dotr a x i n := frU_mul _ _
    have g := gcdI_pos (a := dotr a x i n) (b := tot x) (by omega)
    apply Classical.byContradiction; intro hn
    have : U1 * gcdI (dotr a x i n) (tot x) ≤ 0 * gcdI (dotr a x i n) (tot x) := Int.mul_le_mul_of_nonneg_right (by omega) (by omega)
    omega
  have hU2 : 1 ≤ U2 := by
    have e : U2 * gcdI (gP a x n) (tot x * tot x) = gP a x n := frU_mul _ _
    have g := gcdI_pos (a := gP a x n) (b := tot x * tot x) (by omega)
    apply Classical.byContradiction; intro hn
    have : U2 * gcdI (gP a x n) (tot x * tot x) ≤ 0 * gcdI (gP a x n) (tot x * tot x) := Int.mul_le_mul_of_nonneg_right (by omega) (by omega)
    omega
  have k1 : 1 * 1 ≤ U1 * D2 := Int.mul_le_mul hU1 db2.1 (by omega) (by omega)
  have k2 : U1 * D2 ≤ 27000 * 9000000 := Int.mul_le_mul ub1.2 db2.2 (by omega) (by omega)
  have k3 : 1 * 1 ≤ D1 * U2 := Int.mul_le_mul db1.1 hU2 (by omega) (by omega)
  have k4 : D1 * U2 ≤ 3000 * 81000000 := Int.mul_le_mul db1.2 ub2.2 (by omega) (by omega)
  refine ⟨by omega, by omega, ?_⟩
  have he : U1 * D2 * gP a x n = gU a x n i * (D1 * U2) := by
    have r1' : U1 * tot x = dotr a x i n * D1 := r1
    have r2' : U2 * (tot x * tot x) = gP a x n * D2 := r2
    unfold gU
    generalize gP a x n = P at *
    generalize dotr a x i n = D at *
    generalize tot x = T at *
    clear_value U1 D1 U2 D2
    grind
  obtain ⟨e1, e2⟩ := fr_eq (u := U1 * D2) (d := D1 * U2) (v := gU a x n i) (e := gP a x n) (by omega) (by omega) he
  unfold frV
  rw [e1, e2]

/-- Fractions stored one after the other, beside the mean's box. -/
structure GRX (n g mb : Nat) (U2 D2 : Int) (w : World) (L : List Int) (W : World) : Prop where
  own : OwnF w.heap.size W.heap.size W g (some ⟨g, 0, none⟩) n n L
  up : Below w.heap.size w W
  lo : w.heap.size ≤ g
  m0 : W.cell? ⟨mb, 0, none⟩ = some (.int .i64 U2)
  m1 : W.cell? ⟨mb, 1, none⟩ = some (.int .i64 D2)
  ne : mb ≠ g
theorem GRX.next {n g mb U2 D2 w L W W'} (h : GRX n g mb U2 D2 w L W) (k : Below W.heap.size W W') : GRX n g mb U2 D2 w L W' :=
  ⟨(h.own.below k).mono (Nat.le_refl _) k.size, below_up h.up k, h.lo, Keep.below k _ _ h.m0, Keep.below k _ _ h.m1, h.ne⟩
theorem GRX.cell {n g mb U2 D2 w L W} (h : GRX n g mb U2 D2 w L W) {k : Nat} (hk : k < 2 * n) : W.cell? ⟨g, k, none⟩ = some (.int .i64 (gi L k)) := by
  obtain ⟨b, o, e, hc⟩ := h.own.frs.at_ (by omega)
  injection e with e
  injection e with e1 e2
  subst e1
  subst e2
  have := hc k hk
  rw [Nat.zero_add] at this
  exact this
theorem GRX.frozen {n g mb U2 D2 w L W} (h : GRX n g mb U2 D2 w L W) {k : Nat} (hk : k < 2 * n) : W.frozen? ⟨g, k, none⟩ = false := by
  obtain ⟨o, e, _, _, hf⟩ := h.own.own (by omega)
  injection e with e
  injection e with _ e2
  subst e2
  have := hf k hk
  rw [Nat.zero_add] at this
  exact this
theorem GRX.set {n g mb U2 D2 w L W} (h : GRX n g mb U2 D2 w L W) {k : Nat} (hk : k < 2 * n) (v : Int) : GRX n g mb U2 D2 w (L.set k v) (W.setCell ⟨g, k, none⟩ (.int .i64 v)) := by
  have h1 := h.own.set hk v
  rw [Nat.zero_add] at h1
  refine ⟨h1.mono (Nat.le_refl _) (by simp [World.setCell]), h.up.setCell (p := ⟨g, k, none⟩) h.lo _, h.lo, ?_, ?_, h.ne⟩
  · rw [World.cell?_setCell_other _ _ _ _ (by intro e; have := congrArg Addr.block e; first | exact h.ne this | exact h.ne this.symm)]; exact h.m0
  · rw [World.cell?_setCell_other _ _ _ _ (by intro e; have := congrArg Addr.block e; first | exact h.ne this | exact h.ne this.symm)]; exact h.m1
theorem made_zero (n k : Nat) (hk : k < n * 2) : (madeCells #[.int .i64 0, .int .i64 0] (n * 2))[k]? = some (.int .i64 0) := by
  have h2 : k % 2 = 0 ∨ k % 2 = 1 := by omega
  rcases h2 with h2 | h2 <;> simp [madeCells, hk, h2]
theorem GRX.start (w : World) (n mb : Nat) (U2 D2 : Int) (hn : n ≤ 3) (h0 : w.cell? ⟨mb, 0, none⟩ = some (.int .i64 U2)) (h1 : w.cell? ⟨mb, 1, none⟩ = some (.int .i64 D2)) :
    GRX n w.heap.size mb U2 D2 w ((List.range (2 * n)).map fun _ => 0) (w.alloc (.cells (madeCells #[.int .i64 0, .int .i64 0] (n * 2)) 32)) := by
  have hb := blk_new w 32 (madeCells #[.int .i64 0, .int .i64 0] (n * 2))
  have hl : mb < w.heap.size := World.block_lt_of_cell? w _ h0
  refine ⟨⟨⟨by simp, Nat.le_refl _, by omega, fun _ => ⟨_, 0, rfl, fun k hk => ?_⟩⟩, fun _ => ⟨0, rfl, Nat.le_refl _, by simp, fun k _ => blk_frozen hb _⟩⟩, below_alloc _ _, Nat.le_refl _, Keep.below (below_alloc _ _) _ _ h0, Keep.below (below_alloc _ _) _ _ h1, by omega⟩
  rw [Nat.zero_add, gi_range hk]
  exact blk_cell hb (made_zero n k (by omega))

set_option maxRecDepth 100000 in
set_option maxHeartbeats 3200000 in
theorem GrowthOf_impl (A : Option Addr) (n c : Nat) (a : List (List Int)) (X : Option Addr) (nx cx : Nat) (x : List Int) (w : World) (ha : IntRows w A n c a) (hx : Ints w X nx cx x) :
    Calls Try.prog 39 #[.slice A n c, .slice X nx cx] w (NewF w (grF a x)) := by
  have HX := Lib.hid ha
  have HY := Lib.hid hx
  have hl := ha.len
  have hlx := hx.len
  clear ha hx
  have HC := Lib.hid (ValidField_impl A n c a w HX.out)
  by_cases hv : VF a
  · rw [pb_true hv] at HC
    have hn1 := hv.q.1.n1
    have hn3 := hv.q.1.n3
    rw [hl] at hn1 hn3
    have hvs := hv.q.1.vsn x
    rw [hl] at hvs
    by_cases hs : VS x (n : Int)
    · have HF := Lib.hid (FS.of hl hv hs)
      have HS := Lib.hid (fun W (k : Keep w W) => (hvs.trans (pb_true hs)) ▸ ValidShares_impl X nx cx x (n : Int) W (HY.out.keep k))
      have hm := hv.q.len2' hl
      obtain ⟨b, o, rb, ro, cc, rfl, tab⟩ := HX.out.tab hv.q.1
      rw [hm] at tab
      have HT := Lib.hid tab
      obtain rfl : n = nx := by have := hs.1; omega
      have HGF := Lib.hid (grF_yes HF.out)
      have HTX := Lib.hid hs.2.2
      have HPB := Lib.hid (fun i => (⟨tab.bd, onl_bds n i, HF.out.x⟩ : PB a (onl n i) x n n))
      obtain ⟨i0, hi0, hz0, hz1, hz2⟩ := info_parts Try.infoF
      clear hm tab hv hs hl hlx hvs
      go_enter Try.func39, Try.ntmps39
      go_wp2_with fail
      refine HC.out.mono ?_
      rintro e w1 ⟨rfl, hb⟩
      have HB1 := Lib.hid (show Below w.heap.size w w1 from hb)
      clear hb HC
      have HC := Lib.hid (HS.out w1 (Keep.below HB1.out))
      go_wp2_with fail
      refine HC.out.mono ?_
      rintro e w2 ⟨rfl, hq⟩
      have HB2 := Lib.hid (below_quiet HB1.out hq)
      clear hq HC HB1
      have HC := Lib.hid (meanPay_any b o rb ro cc n n c cx cx _ _ a x x w2 (HT.out.keep (Keep.below HB2.out)) (HY.out.keep (Keep.below HB2.out)) (HY.out.keep (Keep.below HB2.out)) HF.out.pb HTX.out HTX.out)
      go_wp2_with fail
      refine HC.out.mono ?_
      rintro e w3 ⟨rfl, hb⟩
      have HB3 := Lib.hid (below_up HB2.out hb)
      clear hb HC HB2
      have HFV : Hid (frV (payU a x x n n) (tot x * tot x) = .agg #[.int .i64 (frU (gP a x n) (tot x * tot x)), .int .i64 (frD (gP a x n) (tot x * tot x))]) := Lib.hid rfl
      rw [HFV.out]
      have HOV := Lib.hid (fun i (hi : i < n) => HF.out.over hi)
      simp only at HOV
      generalize frU (gP a x n) (tot x * tot x) = U2 at *
      generalize frD (gP a x n) (tot x * tot x) = D2 at *
      have hb3 := below_alloc w3 (.cells #[.int .i64 U2, .int .i64 D2] 32)
      have HB4 := Lib.hid (below_up HB3.out hb3)
      have HG0 := Lib.hid (GRX.start (w3.alloc (.cells #[.int .i64 U2, .int .i64 D2] 32)) n w3.heap.size U2 D2 hn3 (blk_cell (blk_new w3 _ _) rfl) (blk_cell (blk_new w3 _ _) rfl))
      have hmk := run_make (P := Try.prog) (w3.alloc (.cells #[.int .i64 U2, .int .i64 D2] 32)) 41 32 i0 (.agg #[.int .i64 0, .int .i64 0]) Try.underlying41 hi0 hz0 .i64 .i64 (n : Int) (n : Int) (by omega) (Int.le_refl _) (by rw [hz2]; omega) (by omega)
      rw [Int.toNat_natCast, hz1] at hmk
      clear hb3 HB3
      have HM0 := Lib.hid (mixT_zero (gi (grL a x n n)) (fun _ => 0) (2 * n))
      rw [← HM0.out, World.size_alloc] at HG0
      clear HM0
      go_wp2
      clear hmk
      generalize w3.alloc (.cells #[.int .i64 U2, .int .i64 D2] 32) = W0 at *
      generalize w3.heap.size = mb at *
      go_loopw [27] (fun i_ wr => ∃ k : Nat, k ≤ n ∧ i_ = .int .i64 k ∧ Hid (GRX n (mb + 1) mb U2 D2 W0 (mixT (gi (grL a x n n)) (fun _ => 0) (2 * n) (k * 2)) wr)) (fun i_ _ => n - (intOf i_).toNat)
      case atStart => exact ⟨0, Nat.zero_le _, rfl, HG0⟩
      case round =>
        clear HG0
        obtain ⟨k, hk, rfl, HG⟩ := hrel
        by_cases hlt : k < n
        · have HOK := HOV.out k hlt
          obtain ⟨o1, o2, HE⟩ := HOK
          have HGR := Lib.hid (gi_grL a x n (k := n) (i := k) hlt)
          have HST := Lib.hid (show ((mixT (gi (grL a x n n)) (fun _ => 0) (2 * n) (k * 2)).set (k * 2) (gi (grL a x n n) (k * 2))).set (k * 2 + 1) (gi (grL a x n n) (k * 2 + 1)) = mixT (gi (grL a x n n)) (fun _ => 0) (2 * n) ((k + 1) * 2) by rw [mixT_set, mixT_set, show k * 2 + 1 + 1 = (k + 1) * 2 by omega])
          rw [HGR.out.1, HGR.out.2] at HST
          have HP := Lib.hid (payU_alone a x n n k hlt)
          have HT1 := Lib.hid (tot_onl (n := n) (i := k) hlt)
          have HMV : Hid (frV (payU a (onl n k) x n n) (tot (onl n k) * tot x) = .agg #[.int .i64 (frU (dotr a x k n) (tot x)), .int .i64 (frD (dotr a x k n) (tot x))]) := Lib.hid (by rw [HP.out, HT1.out, Int.one_mul]; rfl)
          have HFE : Hid (frV (gU a x n k) (gP a x n) = .agg #[.int .i64 (frU (gU a x n k) (gP a x n)), .int .i64 (frD (gU a x n k) (gP a x n))]) := Lib.hid rfl
          rw [HFE.out] at HE
          clear HP HGR HFE
          generalize frU (dotr a x k n) (tot x) = U1 at *
          generalize frD (dotr a x k n) (tot x) = D1 at *
          generalize frU (gU a x n k) (gP a x n) = U at *
          generalize frD (gU a x n k) (gP a x n) = V at *
          have HOVR := Lib.hid (fun W => HE ▸ over_any U1 D1 U2 D2 W o1 o2)
          clear HE o1 o2
          have m1 := HG.out.m0
          have m2 := HG.out.m1
          go_wp2
          go_region_law ((first
            | (go_simp; go_at_call 82; refine (alone_impl n k _ (by omega) hlt).mono ?_; rintro e w5 ⟨rfl, ho, hb⟩; have HG5 := Lib.hid ((HG.out.next (Quiet.below (B := wr.heap.size) ⟨1, rfl⟩)).next hb); have HO := Lib.hid ho.ints; have m3 := HG5.out.m0; have m4 := HG5.out.m1; clear ho hb HG)
            | (go_simp; go_at_call 81; refine (HMV.out ▸ meanPay_any b o rb ro cc n n c n cx _ _ a (onl n k) x w5 (HT.out.keep (Keep.below (below_up HB4.out HG5.out.up))) HO.out (HY.out.keep (Keep.below (below_up HB4.out HG5.out.up))) (HPB.out k) (by rw [HT1.out]; omega) HTX.out).mono ?_; rintro e w6 ⟨rfl, hb⟩; have HG6 := Lib.hid (HG5.out.next hb); have m5 := HG6.out.m0; have m6 := HG6.out.m1; clear hb HG5)
            | (go_simp; go_at_call 83; refine (HOVR.out _).mono ?_; rintro e w7 ⟨rfl, hb⟩; have HG7 := Lib.hid (HG6.out.next hb); have q1 := HG7.out.cell (k := k * 2) (by omega); have q2 := HG7.out.cell (k := k * 2 + 1) (by omega); have z1 := HG7.out.frozen (k := k * 2) (by omega); have z2 := HG7.out.frozen (k := k * 2 + 1) (by omega); clear hb HG6)))
          all_goals
            have HG8 := Lib.hid ((HG7.out.set (k := k * 2) (by omega) U).set (k := k * 2 + 1) (by omega) V)
            rw [HST.out] at HG8
            clear m1 m2 m3 m4 m5 m6 q1 q2 z1 z2
            go_wp2
            go_roundw
            case rel => exact ⟨k + 1, by omega, by go_num, Lib.hid (by first | exact HG8.out | exact HG8.out.next (Quiet.below ⟨1, rfl⟩) | exact HG8.out.next (Quiet.below ⟨_, rfl⟩))⟩
            case measure => simp [intOf]; omega
        · obtain rfl : k = n := by omega
          have HNW := Lib.hid (show NewF w (grF a x) (.returned (.slice (some ⟨mb + 1, 0, none⟩) k k)) wr from by
            refine NewF.from HB4.out ?_
            have e : mixT (gi (grL a x k k)) (fun _ => 0) (2 * k) (k * 2) = grF a x := by
              rw [HGF.out, show k * 2 = 2 * k by omega, mixT_all, ← grL_len a x k k]
              exact list_range _
            have ho := HG.out.own
            rw [e] at ho
            exact ⟨_, _, _, mb + 1, rfl, ho.frs.len, ho, HG.out.up⟩)
          go_wp2
          go_ret
          exact HNW.out
    · have HN := Lib.hid (grF_no (a := a) (x := x) (fun h => hs (by have := h.2; rw [hl] at this; exact this)))
      have HS := Lib.hid (fun W (k : Keep w W) => (hvs.trans (pb_false hs)) ▸ ValidShares_impl X nx cx x (n : Int) W (HY.out.keep k))
      clear hv hs hl hlx hvs
      go_enter Try.func39, Try.ntmps39
      go_wp2_with fail
      refine HC.out.mono ?_
      rintro e w1 ⟨rfl, hb⟩
      have HB1 := Lib.hid (show Below w.heap.size w w1 from hb)
      clear hb HC
      have HC := Lib.hid (HS.out w1 (Keep.below HB1.out))
      go_wp2_with fail
      refine HC.out.mono ?_
      rintro e w2 ⟨rfl, hq⟩
      have HB2 := Lib.hid (below_quiet HB1.out hq)
      clear hq HC HB1
      go_wp2
      go_ret
      exact NewF.empty HB2.out HN.out
  · rw [pb_false hv] at HC
    have HN := Lib.hid (grF_no (a := a) (x := x) (fun h => hv h.1))
    clear hv hl hlx
    go_enter Try.func39, Try.ntmps39
    go_wp2_with fail
    refine HC.out.mono ?_
    rintro e w1 ⟨rfl, hb⟩
    go_wp2
    go_ret
    exact NewF.empty hb HN.out
end Go.Proofs.Ytlgnpfpdmjhhbaa

/- Small functions of the laws. -/
namespace Go.Proofs.Ytlgnpfpdmjhhbaa
open Go.RowKit

set_option maxHeartbeats 400000 in
theorem equalInts_any (A B : Option Addr) (n c m d : Nat) (xs ys : List Int) (w : World) (hx : Ints w A n c xs) (hy : Ints w B m d ys) :
    Calls Try.prog 88 #[.slice A n c, .slice B m d] w fun e w' => e = .returned (.bool (eqI xs ys)) ∧ Quiet w w' := by
  obtain ⟨lx, cx, mx, _, hx⟩ := hx
  obtain ⟨ly, cy, my, _, hy⟩ := hy
  have Lx := Lib.hid lx
  have Ly := Lib.hid ly
  clear lx ly
  by_cases hnm : n = m
  · subst hnm
    go_enter Try.func88, Try.ntmps88
    go_wp2
    go_loopw [5] (fun i wr => ∃ k : Nat, k ≤ n ∧ i = .int .i64 k ∧ (∀ j, j < k → gi xs j = gi ys j) ∧ Quiet w wr) (fun i _ => n - (intOf i).toNat)
    case atStart => exact ⟨0, Nat.zero_le _, rfl, fun _ h => absurd h (by omega), Quiet.refl _⟩
    case round =>
      obtain ⟨k, hk, rfl, hall, q, rfl⟩ := hrel
      have HALL := Lib.hid hall
      clear hall
      by_cases hlt : k < n
      · obtain ⟨b, o, rfl, hcx⟩ := hx (by omega)
        obtain ⟨b2, o2, rfl, hcy⟩ := hy (by omega)
        have c1 := hcx k hlt
        have c2 := hcy k hlt
        clear hx hy hcx hcy
        by_cases he : gi xs k = gi ys k
        · have he' : (gi xs k != gi ys k) = false := by simp [he]
          have HE := Lib.hid he
          clear he
          go_wp2
          go_quiet (fail)
          go_wp2
          go_roundw
          case rel => exact ⟨k + 1, by omega, by go_num, fun j hj => by
            by_cases hjk : j < k
            · exact HALL.out j hjk
            · obtain rfl : j = k := by omega
              exact HE.out, ⟨_, rfl⟩⟩
          case measure => simp [intOf]; omega
        · have he' : (gi xs k != gi ys k) = true := by simpa using he
          go_wp2
          go_quiet (fail)
          go_wp2
          go_ret
          exact ⟨ret_bool (eqI_no he).symm, Quiet.two _ _ _⟩
      · obtain rfl : k = n := by omega
        go_wp2
        go_ret
        exact ⟨ret_bool (eqI_yes (by rw [Lx.out, Ly.out]) fun j hj => HALL.out j (by rw [Lx.out] at hj; exact hj)).symm, ⟨_, rfl⟩⟩
  · go_enter Try.func88, Try.ntmps88
    go_wp2
    go_ret
    exact ⟨ret_bool (eqI_len (by rw [Lx.out, Ly.out]; exact hnm)).symm, Quiet.refl _⟩

end Go.Proofs.Ytlgnpfpdmjhhbaa

/- Rows compared, by the laws; squares turned. -/
namespace Go.Proofs.Ytlgnpfpdmjhhbaa
open Go.RowKit

set_option maxHeartbeats 400000 in
theorem equalRows_any (A B : Option Addr) (n c m d : Nat) (xs ys : List (List Int)) (w : World) (hx : IntRows w A n c xs) (hy : IntRows w B m d ys) :
    Calls Try.prog 49 #[.slice A n c, .slice B m d] w fun e w' => e = .returned (.bool (eqRR xs ys)) ∧ Quiet w w' := by
  obtain ⟨lx, cx, mx, hx⟩ := hx
  obtain ⟨ly, cy, my, hy⟩ := hy
  have Lx := Lib.hid lx
  have Ly := Lib.hid ly
  clear lx ly
  by_cases hnm : n = m
  · subst hnm
    go_enter Try.func49, Try.ntmps49
    go_wp2
    go_loopw [5] (fun i wr => ∃ k : Nat, k ≤ n ∧ i = .int .i64 k ∧ Hid (∀ j, j < k → eqI (gr xs j) (gr ys j) = true) ∧ Quiet w wr) (fun i _ => n - (intOf i).toNat)
    case atStart => exact ⟨0, Nat.zero_le _, rfl, Lib.hid (fun _ h => absurd h (by omega)), Quiet.refl _⟩
    case round =>
      obtain ⟨k, hk, rfl, HALL, q, rfl⟩ := hrel
      by_cases hlt : k < n
      · obtain ⟨b, o, rfl, hcx⟩ := hx (by omega)
        obtain ⟨b2, o2, rfl, hcy⟩ := hy (by omega)
        obtain ⟨R, cc, c1, hR⟩ := hcx k hlt
        obtain ⟨R2, cc2, c2, hR2⟩ := hcy k hlt
        clear hx hy hcx hcy
        cases he : eqI (gr xs k) (gr ys k) with
        | true =>
          have HE := Lib.hid he
          have hq := fun W (hW : Quiet w W) => (he ▸ equalInts_any _ _ _ _ _ _ _ _ W (hR.keep (Keep.quiet hW)) (hR2.keep (Keep.quiet hW)))
          clear he
          go_wp2
          go_quiet ((go_at_call 88; exact quiet_fit (hq _ (by first | exact ⟨_, rfl⟩ | exact Quiet.two _ _ _)) (fun m => by first | exact drewN_to1 _ _ _ | exact drewN_to2 _ _ _ _)))
          go_wp2
          go_roundw
          case rel => exact ⟨k + 1, by omega, by go_num, Lib.hid (fun j hj => by
            by_cases hjk : j < k
            · exact HALL.out j hjk
            · obtain rfl : j = k := by omega
              exact HE.out), ⟨_, rfl⟩⟩
          case measure => simp [intOf]; omega
        | false =>
          have HE := Lib.hid he
          have hq := fun W (hW : Quiet w W) => (he ▸ equalInts_any _ _ _ _ _ _ _ _ W (hR.keep (Keep.quiet hW)) (hR2.keep (Keep.quiet hW)))
          clear he
          go_wp2
          go_quiet ((go_at_call 88; exact quiet_fit (hq _ (by first | exact ⟨_, rfl⟩ | exact Quiet.two _ _ _)) (fun m => by first | exact drewN_to1 _ _ _ | exact drewN_to2 _ _ _ _)))
          go_wp2
          go_ret
          exact ⟨ret_bool (eqRR_no HE.out).symm, Quiet.two _ _ _⟩
      · obtain rfl : k = n := by omega
        go_wp2
        go_ret
        exact ⟨ret_bool (eqRR_yes (by rw [Lx.out, Ly.out]) fun j hj => HALL.out j (by rw [Lx.out] at hj; exact hj)).symm, ⟨_, rfl⟩⟩
  · go_enter Try.func49, Try.ntmps49
    go_wp2
    go_ret
    exact ⟨ret_bool (eqRR_len (by rw [Lx.out, Ly.out]; exact hnm)).symm, Quiet.refl _⟩
theorem VQ.m {a : List (List Int)} {k : Nat} (v : VQ a) (h : a.length = k) : (gr a 0).length = k := by have := v.2; omega
theorem VQ.flip {a : List (List Int)} {k : Nat} (v : VQ a) (h : a.length = k) : VQ (flip a k k) := by
  have h1 := v.1.flip
  rw [h, v.m h] at h1
  refine ⟨h1, ?_⟩
  have := v.1.n1
  rw [flip_len, gr_flip (by omega)]
  simp
theorem VQ.even {a : List (List Int)} {k : Nat} (v : VQ a) (h : a.length = k) : Even a k := by have h1 := v.1.even; rw [v.m h] at h1; exact h1
theorem VQ.evenP {a : List (List Int)} {k : Nat} (v : VQ a) (h : a.length = k) : EvP a ↔ Go.Proofs.Ytlgnpfpdmjhhbaa.flip a k k = a := by
  constructor
  · intro e
    refine gr_ext (by rw [flip_len, h]) fun i hi => ?_
    rw [flip_len] at hi
    refine gi_ext (by rw [gr_flip hi, (v.1.rows i (by omega)).1, v.m h]; simp) fun j hj => ?_
    rw [gr_flip hi] at hj
    have hj' : j < k := by simpa using hj
    have := g2_flipT (a := a) (n := k) (m := k) hi hj'
    unfold g2 at this
    rw [this]
    exact e.e j i (by omega) (by omega)
  · intro e
    refine ⟨v, fun i j hi hj => ?_⟩
    have := g2_flipT (a := a) (n := k) (m := k) (i := i) (j := j) (by omega) (by omega)
    rw [e] at this
    exact this

end Go.Proofs.Ytlgnpfpdmjhhbaa

/- A table spoiled now and then, beside the box of a game. -/
namespace Go.Proofs.Ytlgnpfpdmjhhbaa
open Go.RowKit

theorem box_ne_box {w : World} {h g : Nat} {t u : TypeId} {cs ds : Array Value} (a : Blk w h t cs) (b : Blk w g u ds) (ne : t ≠ u) : h ≠ g := by
  rintro rfl
  unfold Blk at a b
  rw [a] at b
  injection b with b
  injection b with _ b _
  exact ne b
theorem box_ne_int {w : World} {h b o : Nat} {t : TypeId} {cs : Array Value} {k : IntKind} (a : Blk w h t cs) (hcs : ∀ (k : Nat) (v : Value), cs[k]? = some v → ∀ (kk : IntKind) (x : Int), v ≠ Value.int kk x) (hc : ∃ y, w.cell? ⟨b, o, none⟩ = some (.int k y)) : h ≠ b := by
  rintro rfl
  obtain ⟨y, hc⟩ := hc
  unfold Blk at a
  simp only [World.cell?, a] at hc
  exact hcs o _ hc k y rfl
theorem box_ne_own {w : World} {h base n : Nat} {t e : TypeId} {cs : Array Value} {v : Value} {xs : List Value} (a : Blk w h t cs) (own : w.ownsRow base e 1 v n xs) (ne : t ≠ e) : v.ownBlock ≠ some h := by
  rcases own.2 with ⟨rfl, _⟩ | ⟨g, cap, cur, rfl, _, hg, _⟩
  · simp [Value.ownBlock]
  · intro e1
    have : g = h := by simpa [Value.ownBlock] using e1
    subst this
    unfold Blk at a
    rw [a] at hg
    injection hg with hg
    injection hg with _ hg _
    exact ne hg
end Go.Proofs.Ytlgnpfpdmjhhbaa

/- A game under way: both tables and the box. -/
namespace Go.Proofs.Ytlgnpfpdmjhhbaa
open Go.RowKit

theorem add_at (b o i : Nat) : (⟨b, o, none⟩ : Addr).add i = ⟨b, o + i, none⟩ := by unfold Addr.add; split <;> simp_all
theorem OwnI.mono_lo {lo hi lo' w b A n c xs} (h : OwnI lo hi w b A n c xs) (k : lo' ≤ lo) : OwnI lo' hi w b A n c xs := h.mono k (Nat.le_refl _)
theorem ownsRow_lo {w : World} {base base' : Nat} {e : TypeId} {size n : Nat} {v : Value} {xs : List Value} (h : w.ownsRow base e size v n xs) (k : base' ≤ base) : w.ownsRow base' e size v n xs := by
  obtain ⟨h1, h2⟩ := h
  refine ⟨h1, ?_⟩
  rcases h2 with h2 | ⟨g, cap, cur, rfl, hb, r⟩
  · exact .inl h2
  · exact .inr ⟨g, cap, cur, rfl, Nat.le_trans k hb, r⟩
theorem Bld.mono_lo {lo hi lo' w v vs xss} (h : Bld lo hi w v vs xss) (k : lo' ≤ lo) : Bld lo' hi w v vs xss := by
  obtain ⟨h1, h4, G, R, C, h2, h3⟩ := h
  exact ⟨ownsRow_lo h1 k, h4, G, R, C, fun j hj => ⟨(h2 j hj).1, (h2 j hj).2.1.mono_lo k, (h2 j hj).2.2⟩, h3⟩

/-- A number of a table that append has made is set. -/
theorem Bld.set_at {lo hi w v vs xss} (h : Bld lo hi w v vs xss) {i j : Nat} (h0 : i < xss.length) (h1 : j < (gr xss i).length) {x : Int} (hx : -9223372036854775808 ≤ x ∧ x ≤ 9223372036854775807) :
    ∃ bo c b o cc, v = .slice (some ⟨bo, 0, none⟩) xss.length c ∧ w.cell? ⟨bo, i, none⟩ = some (.slice (some ⟨b, o, none⟩) (gr xss i).length cc) ∧ lo ≤ b ∧ b < hi ∧ (∃ y, w.cell? ⟨b, o + j, none⟩ = some (.int .i64 y)) ∧ w.frozen? ⟨b, o + j, none⟩ = false ∧
      Bld lo hi (w.setCell ⟨b, o + j, none⟩ (.int .i64 x)) v vs (xss.set i ((gr xss i).set j x)) := by
  obtain ⟨ho, h4, G, R, C, h2, h3⟩ := h
  obtain ⟨q0, q1, q2⟩ := h2 i h0
  obtain ⟨o, e, l1, l2, hf⟩ := q1.own (by omega)
  have q1' := q1
  rw [e] at q1' q0
  have hset := q1'.set h1 hx
  obtain ⟨b', o', e', hc⟩ := q1.ints.at_ (by omega)
  rw [e] at e'
  injection e' with e'
  injection e' with e1 e2 _
  have hc0 := hc j h1
  rw [← e1, ← e2] at hc0
  have hlen : ∀ k, (gr (xss.set i ((gr xss i).set j x)) k).length = (gr xss k).length := fun k => by
    by_cases e : k = i
    · subst e; rw [gr_set_eq h0, List.length_set]
    · rw [gr_set_ne e]
  have hv : ∃ bo c, v = .slice (some ⟨bo, 0, none⟩) xss.length c ∧ w.cell? ⟨bo, i, none⟩ = vs[i]? := by
    rcases ho.2 with ⟨_, h5⟩ | ⟨g, cap, cur, rfl, hb, _⟩
    · omega
    · have hcx := ho.cells (g := g) rfl i _ q0
      rw [add_at, Nat.zero_add] at hcx
      exact ⟨g, cap, rfl, by rw [q0]; exact hcx⟩
  obtain ⟨bo, c, ev, hcv⟩ := hv
  refine ⟨bo, c, G i, o, C i, ev, by rw [hcv, q0], l1, l2, ⟨_, hc0⟩, hf j h1, ⟨?_, h4, G, R, C, fun k hk => ?_, fun k l hkl hl hk0 hl0 => ?_⟩⟩
  · rw [List.length_set]
    exact blk_kept ho fun g hg => Below.heap_setCell _ _ _ _ (fun e => q2 (by omega) (by rw [hg, e]))
  · rw [List.length_set] at hk
    rw [hlen]
    obtain ⟨a, b, c⟩ := h2 k hk
    refine ⟨a, ?_, c⟩
    by_cases ek : k = i
    · subst ek
      rw [gr_set_eq h0, e]
      exact hset
    · rw [gr_set_ne ek]
      exact b.of_block fun hp => Below.heap_setCell _ _ _ _ (by
        show G k ≠ G i
        rcases Nat.lt_or_gt_of_ne ek with hl | hl
        · exact h3 k i hl h0 hp (by omega)
        · exact Ne.symm (h3 i k hl hk (by omega) hp))
  · rw [List.length_set] at hl
    rw [hlen] at hk0 hl0
    exact h3 k l hkl hl hk0 hl0
/-- .. and of a table of one's own. -/
theorem OwnR.set_at {lo hi w b A n c xss} (h : OwnR lo hi w b A n c xss) {i j : Nat} (h0 : i < n) (h1 : j < (gr xss i).length) {x : Int} (hx : -9223372036854775808 ≤ x ∧ x ≤ 9223372036854775807) :
    ∃ o g r cc, A = some ⟨b, o, none⟩ ∧ w.cell? ⟨b, o + i, none⟩ = some (.slice (some ⟨g, r, none⟩) (gr xss i).length cc) ∧ lo ≤ g ∧ g < hi ∧ (∃ y, w.cell? ⟨g, r + j, none⟩ = some (.int .i64 y)) ∧ w.frozen? ⟨g, r + j, none⟩ = false ∧
      OwnR lo hi (w.setCell ⟨g, r + j, none⟩ (.int .i64 x)) b A n c (xss.set i ((gr xss i).set j x)) := by
  obtain ⟨o, g, R, cc, e, c1, hI, hset⟩ := h.at_row h0
  obtain ⟨r, e2, l1, l2, hf⟩ := hI.own (by omega)
  subst e2
  obtain ⟨b', o', e', hc⟩ := hI.ints.at_ (by omega)
  injection e' with e'
  injection e' with e3 e4 _
  subst e3
  subst e4
  exact ⟨o, g, r, cc, e, c1, l1, l2, ⟨_, hc j h1⟩, hf j h1, (hset _ _ (by rw [List.length_set]) (hI.set h1 hx) (fun hz => absurd hz (by omega)) ((One.refl g w).set _ _)).1⟩

/-- Rows of as many numbers. -/
structure Shp (n m : Nat) (xss : List (List Int)) : Prop where
  len : xss.length = n
  row : ∀ k, k < n → (gr xss k).length = m
  sm : Small xss
theorem Shp.set {n m xss} (h : Shp n m xss) {i j : Nat} (hi : i < n) {x : Int} (hx : -1000 ≤ x ∧ x ≤ 1000) : Shp n m (xss.set i ((gr xss i).set j x)) := by
  have hl := h.len
  have hm := h.sm.rows _ (gr_mem (xs := xss) (k := i) (by omega))
  refine ⟨by rw [List.length_set]; exact hl, fun k hk => ?_, ⟨by rw [List.length_set]; exact h.sm.n, fun r hr => ?_⟩⟩
  · by_cases e : k = i
    · subst e; rw [gr_set_eq (by omega), List.length_set]; exact h.row k hk
    · rw [gr_set_ne e]; exact h.row k hk
  · rcases List.mem_or_eq_of_mem_set hr with hr | rfl
    · exact h.sm.rows r hr
    · refine ⟨by rw [List.length_set]; exact hm.1, fun y hy => ?_⟩
      rcases List.mem_or_eq_of_mem_set hy with hy | rfl
      · exact hm.2 y hy
      · exact hx

theorem box_slices (Aa Bb : Option Addr) (na ca nb cb : Nat) : ∀ (k : Nat) (v : Value), (#[.slice Aa na ca, .slice Bb nb cb] : Array Value)[k]? = some v → ∀ (kk : IntKind) (x : Int), v ≠ Value.int kk x := by
  intro k v h kk x e
  subst e
  match k, h with
  | 0, h => simp at h
  | 1, h => simp at h
  | k + 2, h => simp at h
end Go.Proofs.Ytlgnpfpdmjhhbaa

/- Squares and fields drawn from bytes. -/
namespace Go.Proofs.Ytlgnpfpdmjhhbaa
open Go.RowKit

/-- A number of a drawn table is set. -/
theorem TO.set_at {w0 wb g A l c p v vs xss w} (h : TO w0 wb g A l c p v vs xss w) {i j : Nat} (h0 : i < xss.length) (h1 : j < (gr xss i).length) {x : Int} (hx : -1000 ≤ x ∧ x ≤ 1000) :
    ∃ bo c' b o cc, v = .slice (some ⟨bo, 0, none⟩) xss.length c' ∧ w.cell? ⟨bo, i, none⟩ = some (.slice (some ⟨b, o, none⟩) (gr xss i).length cc) ∧ (∃ y, w.cell? ⟨b, o + j, none⟩ = some (.int .i64 y)) ∧ w.frozen? ⟨b, o + j, none⟩ = false ∧
      TO w0 wb g A l c p v vs (xss.set i ((gr xss i).set j x)) (w.setCell ⟨b, o + j, none⟩ (.int .i64 x)) := by
  obtain ⟨bo, c', b, o, cc, ev, hc, l1, l2, hy, hf, hb⟩ := h.bo.set_at h0 h1 (x := x) (by omega)
  have hgl := h.gl
  have hs : (w.setCell ⟨b, o + j, none⟩ (.int .i64 x)).heap.size = w.heap.size := by simp [World.setCell]
  refine ⟨bo, c', b, o, cc, ev, hc, hy, hf, ⟨⟨blk_other h.rd.box (by show g ≠ b; omega) _, h.rd.bytes, h.rd.below.setCell (by show w0.heap.size ≤ b; have := h.rd.lt; omega) _, h.rd.lt, h.rd.small⟩, by rw [hs]; exact hb, h.gl, ?_⟩⟩
  exact ⟨h.up.os, h.up.tape, h.up.output, by rw [hs]; exact h.up.size, fun k hk hne => (Below.heap_setCell _ _ _ _ (by show k ≠ b; omega)).trans (h.up.block k hk hne)⟩
/-- .. and read. -/
theorem TO.get_at {w0 wb g A l c p bo c' vs xss w} (h : TO w0 wb g A l c p (.slice (some ⟨bo, 0, none⟩) xss.length c') vs xss w) {i j : Nat} (h0 : i < xss.length) (h1 : j < (gr xss i).length) :
    ∃ b o cc, w.cell? ⟨bo, i, none⟩ = some (.slice (some ⟨b, o, none⟩) (gr xss i).length cc) ∧ w.cell? ⟨b, o + j, none⟩ = some (.int .i64 (g2 xss i j)) := by
  obtain ⟨ho, h4, G, R, C, h2, h3⟩ := h.bo
  obtain ⟨q0, q1, q2⟩ := h2 i h0
  have hcx := ho.cells (g := bo) rfl i _ q0
  rw [add_at, Nat.zero_add] at hcx
  obtain ⟨b, o, e, hc⟩ := q1.ints.at_ (by omega)
  rw [e] at hcx
  exact ⟨b, o, C i, hcx, hc j h1⟩
theorem g2_small {xss : List (List Int)} (h : Small xss) {i j : Nat} (h0 : i < xss.length) (h1 : j < (gr xss i).length) : -1000 ≤ g2 xss i j ∧ g2 xss i j ≤ 1000 :=
  (h.rows _ (gr_mem h0)).2 _ (gi_mem h1)
theorem TO.qu {w0 wb g A l c p v vs xss w w'} (h : TO w0 wb g A l c p v vs xss w) (k : Quiet w w') : TO w0 wb g A l c p v vs xss w' := h.below k.below
theorem Shp.of {n m : Nat} {lo hi : Int} {xss : List (List Int)} (hl : xss.length = n) (h : ∀ r ∈ xss, RowIn m lo hi r) (hn : n ≤ 4) (hm : m ≤ 4) (h1 : -1000 ≤ lo) (h2 : hi ≤ 1000) : Shp n m xss :=
  ⟨hl, fun k hk => (h _ (gr_mem (by omega))).1, ⟨by omega, fun r hr => ⟨by have := (h r hr).1; omega, fun y hy => by have := (h r hr).2 y hy; omega⟩⟩⟩

set_option maxRecDepth 100000 in
set_option maxHeartbeats 3200000 in
theorem someSquare_any (w0 w : World) (g : Nat) (A : Option Addr) (l c p : Nat) (h : Rdr w0 w g A l c p) (hp : p < 800000000) :
    Calls Try.prog 84 #[.pointer (some ⟨g, 0, none⟩)] w (SomeT w0 g A l c p w) := by
  have HR := Lib.hid h
  have H1 := Lib.hid (one_lit w0 w _ g A l c (p) w.heap.size 5 [2, 3, 3, 2, 1] h (by omega) (below_alloc w (.cells #[iv 2, iv 3, iv 3, iv 2, iv 1] 3)) (Nat.le_refl _) (Ints.lit w [2, 3, 3, 2, 1] (by decide) (by decide)) (by omega))
  clear h
  go_enter Try.func84, Try.ntmps84
  go_wp2_with fail
  refine H1.out.mono ?_
  rintro e w1 ⟨n, rfl, hx, hr, hgr⟩
  have hn1 : 1 ≤ n ∧ n ≤ 3 := by simp at hx; omega
  have HG1 := Lib.hid hgr
  have H2 := Lib.hid (one_lit w0 w1 _ g A l c (p + 1) w1.heap.size 3 [3, 9, 1] hr (by omega) (below_alloc w1 (.cells #[iv 3, iv 9, iv 1] 3)) (Nat.le_refl _) (Ints.lit w1 [3, 9, 1] (by decide) (by decide)) (by omega))
  clear hx hr hgr H1 HR
  go_wp2_with fail
  refine H2.out.mono ?_
  rintro e w2 ⟨x, rfl, hx, hr, hgr⟩
  have hx1 : 1 ≤ x ∧ x ≤ 9 := by simp at hx; omega
  have HG2 := Lib.hid (grown_trans HG1.out hgr)
  obtain ⟨n, rfl⟩ := Int.eq_ofNat_of_zero_le (show 0 ≤ n by omega)
  have hn3 : n ≤ 3 := by omega
  have hn0 : 1 ≤ n := by omega
  have H4 := Lib.hid (tableOf_any w0 w2 g A l c (p + 2) n n (-x) x hr (by omega) (by omega) (by omega) (by omega) (by omega) (by omega))
  clear hx hr hgr H2 HG1 hn1
  go_wp2_with fail
  refine H4.out.mono ?_
  rintro e w4 ⟨Av, cv, vs, xss, p4, rfl, hl, hxs, hto, hp4⟩
  have HTO := Lib.hid hto
  have HSP := Lib.hid (Shp.of hl hxs (by omega) (by omega) (by omega) (by omega))
  have H5 := Lib.hid (pick_any w0 w4 g A l c p4 4 hto.rd (by omega))
  clear hxs hto H4 hl
  go_wp2_with fail
  refine H5.out.mono ?_
  rintro e w5 ⟨k, rfl, hk1, _, hr, z, hw⟩
  have hone := Rdr.one (g := g) w4 (.int .i64 (p4 + 1 : Nat)) z
  rw [← hw] at hone
  have HT5 := Lib.hid (HTO.out.one hr hone)
  clear hr hone hw hk1 H5 HTO
  by_cases e0 : k = 0
  · subst e0
    have HL0 := Lib.hid (show ∃ zs, Shp n n zs ∧ TO w0 w2 g A l c (p4 + 1) (.slice Av n cv) vs zs w5 from ⟨xss, HSP.out, HT5.out⟩)
    clear HSP HT5
    go_wp2
    go_loopw [6] (fun i_ wr => ∃ i : Nat, i ≤ n ∧ i_ = .int .i64 i ∧ Hid (∃ zs, Shp n n zs ∧ TO w0 w2 g A l c (p4 + 1) (.slice Av n cv) vs zs wr)) (fun i_ _ => n - (intOf i_).toNat)
    case atStart => exact ⟨0, Nat.zero_le _, rfl, HL0⟩
    case round =>
      clear HL0
      obtain ⟨i, hi, rfl, HL⟩ := hrel
      by_cases hlt : i < n
      · go_wp2
        go_loopw [7] (fun j_ wi => ∃ j : Nat, j ≤ i ∧ j_ = .int .i64 j ∧ Hid (∃ zs, Shp n n zs ∧ TO w0 w2 g A l c (p4 + 1) (.slice Av n cv) vs zs wi)) (fun j_ _ => i - (intOf j_).toNat)
        case atStart => exact ⟨0, Nat.zero_le _, rfl, HL⟩
        case round =>
          clear HL
          obtain ⟨j, hj, rfl, HL⟩ := hrel
          by_cases hjl : j < i
          · obtain ⟨xs, hsp, hto⟩ := HL.out
            have HSX := Lib.hid hsp
            have hlen := hsp.len
            have hri := hsp.row i hlt
            have hrj := hsp.row j (by omega)
            have hv := g2_small hsp.sm (i := j) (j := i) (by omega) (by omega)
            obtain ⟨bo, c', b, o, cc, ev, q1, ⟨y, q2⟩, q3, hts⟩ := hto.set_at (i := i) (j := j) (by omega) (by omega) hv
            injection ev with ev1 ev2 ev3
            subst ev1
            subst ev3
            clear ev2
            have hto' := hto
            rw [← hlen] at hto'
            obtain ⟨b2, o2, cc2, q4, q5⟩ := hto'.get_at (i := j) (j := i) (by omega) (by omega)
            rw [hri] at q1
            rw [hrj] at q4
            have HN := Lib.hid (show ∃ zs, Shp n n zs ∧ TO w0 w2 g A l c (p4 + 1) (.slice (some ⟨bo, 0, none⟩) n cv) vs zs (wr.setCell ⟨b, o + j, none⟩ (.int .i64 (g2 xs j i))) from ⟨_, hsp.set hlt hv, hts⟩)
            have hjn : j < n := by omega
            clear hsp hto hto' hlen hri hrj hv hts HL
            generalize g2 xs j i = x0 at *
            go_wp2
            go_region
            all_goals
              clear q1 q2 q3 q4 q5
              go_wp2
              go_roundw
              case rel => exact ⟨j + 1, by omega, by go_num, Lib.hid (by obtain ⟨xs', h1, h2⟩ := HN.out; exact ⟨xs', h1, by first | exact h2 | exact h2.qu ⟨1, rfl⟩ | exact h2.qu ⟨_, rfl⟩⟩)⟩
              case measure => simp [intOf]; omega
          · obtain rfl : j = i := by omega
            go_wp2
            go_roundw
            case rel => exact ⟨j + 1, by omega, by go_num, HL⟩
            case measure => simp [intOf]; omega
      · obtain rfl : i = n := by omega
        obtain ⟨xs, hsp, hto⟩ := HL.out
        have HSX := Lib.hid hsp
        have HTX := Lib.hid hto
        clear hsp hto HL
        generalize wr = w6 at *
        have H6 := Lib.hid (spoil_any w0 w2 w6 g A l c (p4 + 1) _ _ _ _ (by rw [HSX.out.len]; exact HTX.out) (by omega) HSX.out.sm (by have := HSX.out.len; omega))
        rw [HSX.out.len] at H6
        go_wp2_with fail
        refine H6.out.mono ?_
        rintro e w9 ⟨v', vs', xss', p', rfl, hs, hto, hp5⟩
        have HTO := Lib.hid hto
        have HSM2 := Lib.hid hs
        clear hs hto H6
        go_wp2
        go_ret
        exact ⟨_, _, _, _, _, rfl, HSM2.out, HTO.out, by omega, HG2.out⟩
  · have e0' : (k == 0) = false := by simpa using e0
    have H6 := Lib.hid (spoil_any w0 w2 w5 g A l c (p4 + 1) _ _ _ _ (by rw [HSP.out.len]; exact HT5.out) (by omega) HSP.out.sm (by have := HSP.out.len; omega))
    rw [HSP.out.len] at H6
    go_wp2_with fail
    refine H6.out.mono ?_
    rintro e w9 ⟨v', vs', xss', p', rfl, hs, hto, hp5⟩
    have HTO := Lib.hid hto
    have HSM2 := Lib.hid hs
    clear hs hto H6
    go_wp2
    go_ret
    exact ⟨_, _, _, _, _, rfl, HSM2.out, HTO.out, by omega, HG2.out⟩

end Go.Proofs.Ytlgnpfpdmjhhbaa

/- Fields drawn from bytes. -/
namespace Go.Proofs.Ytlgnpfpdmjhhbaa
open Go.RowKit

set_option maxRecDepth 100000 in
set_option maxHeartbeats 3200000 in
theorem someField_any (w0 w : World) (g : Nat) (A : Option Addr) (l c p : Nat) (h : Rdr w0 w g A l c p) (hp : p < 800000000) :
    Calls Try.prog 87 #[.pointer (some ⟨g, 0, none⟩)] w (SomeT w0 g A l c p w) := by
  have HR := Lib.hid h
  have H1 := Lib.hid (one_lit w0 w _ g A l c (p) w.heap.size 5 [2, 3, 3, 2, 1] h (by omega) (below_alloc w (.cells #[iv 2, iv 3, iv 3, iv 2, iv 1] 3)) (Nat.le_refl _) (Ints.lit w [2, 3, 3, 2, 1] (by decide) (by decide)) (by omega))
  clear h
  go_enter Try.func87, Try.ntmps87
  go_wp2_with fail
  refine H1.out.mono ?_
  rintro e w1 ⟨n, rfl, hx, hr, hgr⟩
  have hn1 : 1 ≤ n ∧ n ≤ 3 := by simp at hx; omega
  have HG1 := Lib.hid hgr
  have H2 := Lib.hid (one_lit w0 w1 _ g A l c (p + 1) w1.heap.size 3 [4, 9, 2] hr (by omega) (below_alloc w1 (.cells #[iv 4, iv 9, iv 2] 3)) (Nat.le_refl _) (Ints.lit w1 [4, 9, 2] (by decide) (by decide)) (by omega))
  clear hx hr hgr H1 HR
  go_wp2_with fail
  refine H2.out.mono ?_
  rintro e w2 ⟨x, rfl, hx, hr, hgr⟩
  have hx1 : 1 ≤ x ∧ x ≤ 9 := by simp at hx; omega
  have HG2 := Lib.hid (grown_trans HG1.out hgr)
  obtain ⟨n, rfl⟩ := Int.eq_ofNat_of_zero_le (show 0 ≤ n by omega)
  have hn3 : n ≤ 3 := by omega
  have hn0 : 1 ≤ n := by omega
  have H4 := Lib.hid (tableOf_any w0 w2 g A l c (p + 2) n n 1 x hr (by omega) (by omega) (by omega) (by omega) (by omega) (by omega))
  clear hx hr hgr H2 HG1 hn1
  go_wp2_with fail
  refine H4.out.mono ?_
  rintro e w4 ⟨Av, cv, vs, xss, p4, rfl, hl, hxs, hto, hp4⟩
  have HTO := Lib.hid hto
  have HSP := Lib.hid (Shp.of hl hxs (by omega) (by omega) (by omega) (by omega))
  have H5 := Lib.hid (pick_any w0 w4 g A l c p4 3 hto.rd (by omega))
  clear hxs hto H4 hl
  go_wp2_with fail
  refine H5.out.mono ?_
  rintro e w5 ⟨k, rfl, hk1, _, hr, z, hw⟩
  have hone := Rdr.one (g := g) w4 (.int .i64 (p4 + 1 : Nat)) z
  rw [← hw] at hone
  have HT5 := Lib.hid (HTO.out.one hr hone)
  clear hr hone hw hk1 H5 HTO
  by_cases e0 : k = 0
  · subst e0
    have HL0 := Lib.hid (show ∃ zs, Shp n n zs ∧ TO w0 w2 g A l c (p4 + 1) (.slice Av n cv) vs zs w5 from ⟨xss, HSP.out, HT5.out⟩)
    clear HSP HT5
    go_wp2
    go_loopw [5] (fun i_ wr => ∃ i : Nat, i ≤ n ∧ i_ = .int .i64 i ∧ Hid (∃ zs, Shp n n zs ∧ TO w0 w2 g A l c (p4 + 1) (.slice Av n cv) vs zs wr)) (fun i_ _ => n - (intOf i_).toNat)
    case atStart => exact ⟨0, Nat.zero_le _, rfl, HL0⟩
    case round =>
      clear HL0
      obtain ⟨i, hi, rfl, HL⟩ := hrel
      by_cases hlt : i < n
      · go_wp2
        go_loopw [6] (fun j_ wi => ∃ j : Nat, j ≤ i ∧ j_ = .int .i64 j ∧ Hid (∃ zs, Shp n n zs ∧ TO w0 w2 g A l c (p4 + 1) (.slice Av n cv) vs zs wi)) (fun j_ _ => i - (intOf j_).toNat)
        case atStart => exact ⟨0, Nat.zero_le _, rfl, HL⟩
        case round =>
          clear HL
          obtain ⟨j, hj, rfl, HL⟩ := hrel
          by_cases hjl : j < i
          · obtain ⟨xs, hsp, hto⟩ := HL.out
            have HSX := Lib.hid hsp
            have hlen := hsp.len
            have hri := hsp.row i hlt
            have hrj := hsp.row j (by omega)
            have hv := g2_small hsp.sm (i := j) (j := i) (by omega) (by omega)
            obtain ⟨bo, c', b, o, cc, ev, q1, ⟨y, q2⟩, q3, hts⟩ := hto.set_at (i := i) (j := j) (by omega) (by omega) hv
            injection ev with ev1 ev2 ev3
            subst ev1
            subst ev3
            clear ev2
            have hto' := hto
            rw [← hlen] at hto'
            obtain ⟨b2, o2, cc2, q4, q5⟩ := hto'.get_at (i := j) (j := i) (by omega) (by omega)
            rw [hri] at q1
            rw [hrj] at q4
            have HN := Lib.hid (show ∃ zs, Shp n n zs ∧ TO w0 w2 g A l c (p4 + 1) (.slice (some ⟨bo, 0, none⟩) n cv) vs zs (wr.setCell ⟨b, o + j, none⟩ (.int .i64 (g2 xs j i))) from ⟨_, hsp.set hlt hv, hts⟩)
            have hjn : j < n := by omega
            clear hsp hto hto' hlen hri hrj hv hts HL
            generalize g2 xs j i = x0 at *
            go_wp2
            go_region
            all_goals
              clear q1 q2 q3 q4 q5
              go_wp2
              go_roundw
              case rel => exact ⟨j + 1, by omega, by go_num, Lib.hid (by obtain ⟨xs', h1, h2⟩ := HN.out; exact ⟨xs', h1, by first | exact h2 | exact h2.qu ⟨1, rfl⟩ | exact h2.qu ⟨_, rfl⟩⟩)⟩
              case measure => simp [intOf]; omega
          · obtain rfl : j = i := by omega
            go_wp2
            go_roundw
            case rel => exact ⟨j + 1, by omega, by go_num, HL⟩
            case measure => simp [intOf]; omega
      · obtain rfl : i = n := by omega
        obtain ⟨xs, hsp, hto⟩ := HL.out
        have HSX := Lib.hid hsp
        have HTX := Lib.hid hto
        clear hsp hto HL
        generalize wr = w6 at *
        have H7 := Lib.hid (pick_any w0 w6 g A l c (p4 + 1) 40 HTX.out.rd (by omega))
        go_wp2_with fail
        refine H7.out.mono ?_
        rintro e w7 ⟨k7, rfl, hk1, _, hr, z, hw⟩
        have hone := Rdr.one (g := g) w6 (.int .i64 ((p4 + 1) + 1 : Nat)) z
        rw [← hw] at hone
        have HT7 := Lib.hid (HTX.out.one hr hone)
        clear hr hone hw hk1 H7 HTX
        by_cases e7 : k7 = 0
        · subst e7
          have hl7 := HSX.out.len
          have hr7 := HSX.out.row 0 (by omega)
          obtain ⟨bo, c', b, o, cc, ev, q1, ⟨y, q2⟩, q3, hto⟩ := HT7.out.set_at (i := 0) (j := 0) (by omega) (by omega) (x := 0) (by omega)
          injection ev with ev1 ev2 ev3
          subst ev1
          subst ev3
          clear ev2
          rw [hr7] at q1
          rw [Nat.add_zero] at q2 q3 hto
          have HT8 := Lib.hid hto
          have HS8 := Lib.hid (HSX.out.set (i := 0) (j := 0) (by omega) (x := 0) (by omega))
          clear hto HT7 hl7 hr7
          go_wp2_with fail
          clear q1 q2 q3
          have H6 := Lib.hid (spoil_any w0 w2 (w7.setCell ⟨b, o, none⟩ (.int .i64 0)) g A l c ((p4 + 1) + 1) _ _ _ _ (by rw [HS8.out.len]; exact HT8.out) (by omega) HS8.out.sm (by have := HS8.out.len; omega))
          rw [HS8.out.len] at H6
          go_wp2_with fail
          refine H6.out.mono ?_
          rintro e w9 ⟨v', vs', xss', p', rfl, hs, hto, hp5⟩
          have HTO := Lib.hid hto
          have HSM2 := Lib.hid hs
          clear hs hto H6
          go_wp2
          go_ret
          exact ⟨_, _, _, _, _, rfl, HSM2.out, HTO.out, by omega, HG2.out⟩
        · have e7' : (k7 == 0) = false := by simpa using e7
          have H6 := Lib.hid (spoil_any w0 w2 w7 g A l c ((p4 + 1) + 1) _ _ _ _ (by rw [HSX.out.len]; exact HT7.out) (by omega) HSX.out.sm (by have := HSX.out.len; omega))
          rw [HSX.out.len] at H6
          go_wp2_with fail
          refine H6.out.mono ?_
          rintro e w9 ⟨v', vs', xss', p', rfl, hs, hto, hp5⟩
          have HTO := Lib.hid hto
          have HSM2 := Lib.hid hs
          clear hs hto H6
          go_wp2
          go_ret
          exact ⟨_, _, _, _, _, rfl, HSM2.out, HTO.out, by omega, HG2.out⟩
  · have e0' : (k == 0) = false := by simpa using e0
    have H7 := Lib.hid (pick_any w0 w5 g A l c (p4 + 1) 40 HT5.out.rd (by omega))
    go_wp2_with fail
    refine H7.out.mono ?_
    rintro e w7 ⟨k7, rfl, hk1, _, hr, z, hw⟩
    have hone := Rdr.one (g := g) w5 (.int .i64 ((p4 + 1) + 1 : Nat)) z
    rw [← hw] at hone
    have HT7 := Lib.hid (HT5.out.one hr hone)
    clear hr hone hw hk1 H7 HT5
    by_cases e7 : k7 = 0
    · subst e7
      have hl7 := HSP.out.len
      have hr7 := HSP.out.row 0 (by omega)
      obtain ⟨bo, c', b, o, cc, ev, q1, ⟨y, q2⟩, q3, hto⟩ := HT7.out.set_at (i := 0) (j := 0) (by omega) (by omega) (x := 0) (by omega)
      injection ev with ev1 ev2 ev3
      subst ev1
      subst ev3
      clear ev2
      rw [hr7] at q1
      rw [Nat.add_zero] at q2 q3 hto
      have HT8 := Lib.hid hto
      have HS8 := Lib.hid (HSP.out.set (i := 0) (j := 0) (by omega) (x := 0) (by omega))
      clear hto HT7 hl7 hr7
      go_wp2_with fail
      clear q1 q2 q3
      have H6 := Lib.hid (spoil_any w0 w2 (w7.setCell ⟨b, o, none⟩ (.int .i64 0)) g A l c ((p4 + 1) + 1) _ _ _ _ (by rw [HS8.out.len]; exact HT8.out) (by omega) HS8.out.sm (by have := HS8.out.len; omega))
      rw [HS8.out.len] at H6
      go_wp2_with fail
      refine H6.out.mono ?_
      rintro e w9 ⟨v', vs', xss', p', rfl, hs, hto, hp5⟩
      have HTO := Lib.hid hto
      have HSM2 := Lib.hid hs
      clear hs hto H6
      go_wp2
      go_ret
      exact ⟨_, _, _, _, _, rfl, HSM2.out, HTO.out, by omega, HG2.out⟩
    · have e7' : (k7 == 0) = false := by simpa using e7
      have H6 := Lib.hid (spoil_any w0 w2 w7 g A l c ((p4 + 1) + 1) _ _ _ _ (by rw [HSP.out.len]; exact HT7.out) (by omega) HSP.out.sm (by have := HSP.out.len; omega))
      rw [HSP.out.len] at H6
      go_wp2_with fail
      refine H6.out.mono ?_
      rintro e w9 ⟨v', vs', xss', p', rfl, hs, hto, hp5⟩
      have HTO := Lib.hid hto
      have HSM2 := Lib.hid hs
      clear hs hto H6
      go_wp2
      go_ret
      exact ⟨_, _, _, _, _, rfl, HSM2.out, HTO.out, by omega, HG2.out⟩

end Go.Proofs.Ytlgnpfpdmjhhbaa

/- A row under way: its numbers may be set; shares drawn. -/
namespace Go.Proofs.Ytlgnpfpdmjhhbaa
open Go.RowKit

theorem BldI.set {lo hi w v xs} (h : BldI lo hi w v xs) {j : Nat} (hj : j < xs.length) (x : Int) :
    ∃ b c, v = .slice (some ⟨b, 0, none⟩) xs.length c ∧ lo ≤ b ∧ b < hi ∧ w.cell? ⟨b, j, none⟩ = some (.int .i64 (gi xs j)) ∧ w.frozen? ⟨b, j, none⟩ = false ∧
      BldI lo hi (w.setCell ⟨b, j, none⟩ (.int .i64 x)) v (xs.set j x) := by
  have hh := h.hi_
  rcases h.own.2 with ⟨_, h0⟩ | ⟨g, cap, cur, rfl, hb, hg, hnc, hcm, hcs, htake⟩
  · omega
  · rw [Nat.mul_one] at htake hcs
    have hB : Blk w g 3 cur := hg
    have hc : cur[j]? = some (.int .i64 (gi xs j)) := by
      rw [← getElem_iv hj, ← htake, List.getElem?_take, if_pos hj]; simp
    refine ⟨g, cap, rfl, hb, hh g rfl, blk_cell hB hc, blk_frozen hB j, ⟨⟨by simp, .inr ⟨g, cap, cur.setIfInBounds j (.int .i64 x), by rw [List.length_set], hb, blk_set hB j _, by rw [List.length_set]; exact hnc, hcm, by simp [hcs], ?_⟩⟩, hh⟩⟩
    rw [List.length_set, Nat.mul_one, Array.toList_setIfInBounds, List.take_set, htake, List.map_set]
    rfl

/-- A row by itself, begun behind the world wb. -/
def SH (w0 wb : World) (g : Nat) (A : Option Addr) (l c p : Nat) (u : Value) (ys : List Int) (w : World) : Prop := TI w0 wb g A l c p wb.heap.size (.slice none 0 0) [] [] u ys w
theorem SH.start {w0 wb g A l c p} (h : Rdr w0 wb g A l c p) : SH w0 wb g A l c p (.slice (some ⟨wb.heap.size, 0, none⟩) 0 0) [] (wb.alloc (.cells #[] 3)) :=
  ⟨h.below_ (below_alloc _ _), Bld.nil _ _ _, by rw [World.size_alloc]; exact BldI.make (Nat.le_refl _), blk_lt h.box, Nat.le_refl _, by simp, grown_of_below (below_alloc _ _)⟩
theorem SH.below {w0 wb g A l c p u ys w w'} (h : SH w0 wb g A l c p u ys w) (k : Below w.heap.size w w') : SH w0 wb g A l c p u ys w' :=
  ⟨h.rd.below_ k, Bld.nil _ _ _, (h.bi.below k).mono k.size, h.gl, h.lh, Nat.le_trans h.hs k.size, grown_below h.up k⟩
theorem SH.one {w0 wb g A l c p p' u ys w w'} (h : SH w0 wb g A l c p u ys w) (hr : Rdr w0 w' g A l c p') (ho : One g w w') : SH w0 wb g A l c p' u ys w' := TI.one h hr ho
theorem SH.set {w0 wb g A l c p u ys w} (h : SH w0 wb g A l c p u ys w) {j : Nat} (hj : j < ys.length) (x : Int) :
    ∃ b cc, u = .slice (some ⟨b, 0, none⟩) ys.length cc ∧ w.cell? ⟨b, j, none⟩ = some (.int .i64 (gi ys j)) ∧ w.frozen? ⟨b, j, none⟩ = false ∧ SH w0 wb g A l c p u (ys.set j x) (w.setCell ⟨b, j, none⟩ (.int .i64 x)) := by
  obtain ⟨b, cc, e, h1, h2, h3, h4, h5⟩ := h.bi.set hj x
  have hgl := h.gl
  have hs : (w.setCell ⟨b, j, none⟩ (.int .i64 x)).heap.size = w.heap.size := by simp [World.setCell]
  refine ⟨b, cc, e, h3, h4, ⟨⟨blk_other h.rd.box (by show g ≠ b; omega) _, h.rd.bytes, h.rd.below.setCell (by show w0.heap.size ≤ b; have := h.rd.lt; omega) _, h.rd.lt, h.rd.small⟩, Bld.nil _ _ _, by rw [hs]; exact h5, h.gl, h.lh, by rw [hs]; exact h.hs, ?_⟩⟩
  exact ⟨h.up.os, h.up.tape, h.up.output, by rw [hs]; exact h.up.size, fun k hk hne => (Below.heap_setCell _ _ _ _ (by show k ≠ b; omega)).trans (h.up.block k hk hne)⟩
def SharesOut (w0 wb : World) (g : Nat) (A : Option Addr) (l c p n : Nat) (e : Ending) (w' : World) : Prop :=
  ∃ Av cv ys p', e = .returned (.slice Av ys.length cv) ∧ ys.length ≤ n + 1 ∧ (∀ x ∈ ys, -1 ≤ x ∧ x ≤ 1001) ∧ SH w0 wb g A l c p' (.slice Av ys.length cv) ys w' ∧ p' ≤ p + 3 * n + 3

end Go.Proofs.Ytlgnpfpdmjhhbaa

/- Best shares by a part of a table, by the model. -/
namespace Go.Proofs.Ytlgnpfpdmjhhbaa
open Go.RowKit
open V (sumN detN rowC colC cofN minorN skip sgn Asc Kern)

/-- Shares by a part, and that they are best; or that there are none. -/
def NewK (w : World) (a : List (List Int)) (k : Nat) (r s : Nat → Nat) (e : Ending) (w' : World) : Prop :=
  (KerP a k r s ∧ ∃ A1 c1 A2 c2, e = .returned (.tuple #[.slice A1 a.length c1, .slice A2 (gr a 0).length c2, .bool true]) ∧ Ints w' A1 a.length c1 (shr a.length r (kX a r s k) k) ∧
    Ints w' A2 (gr a 0).length c2 (shr (gr a 0).length s (kY a r s k) k) ∧ Below w.heap.size w w') ∨
  (¬ KerP a k r s ∧ ∃ v1 v2, e = .returned (.tuple #[v1, v2, .bool false]) ∧ Below w.heap.size w w')
theorem flip_tr {xss : List (List Int)} {k : Nat} {f : Nat → Nat → Int} (h : Sq k xss f) : Sq k (flip xss k k) (trN f) :=
  ⟨flip_len _ _ _, fun p hp => by rw [gr_flip hp]; simp, fun p q hp hq => by
    unfold g2; rw [gr_flip hp, gi_col hq]; exact h.eq q p hq hp⟩
theorem Pl.keep {w w' : World} {X k c r n} (h : Pl w X k c r n) (q : Keep w w') : Pl w' X k c r n := ⟨h.ints.keep q, h.lt⟩

/-- What cleared answers, with its flag as a letter. -/
def ClrV (w' : World) (xs : List Int) (ok : Bool) (v : Value) : Prop :=
  (ok = true ∧ ClrP xs ∧ ∃ A c, v = .slice A xs.length c ∧ Ints w' A xs.length c (clrL xs (gcdL xs xs.length) xs.length)) ∨ (ok = false ∧ ¬ ClrP xs)
theorem NewC.uni {w w' : World} {xs : List Int} {e : Ending} (h : NewC w xs e w') : ∃ ok v, e = .returned (.tuple #[v, .bool ok]) ∧ Below w.heap.size w w' ∧ ClrV w' xs ok v := by
  rcases h with ⟨h1, A, n, c, g, rfl, rfl, ho, hb⟩ | ⟨h1, rfl, hb⟩
  · exact ⟨true, _, rfl, hb, .inl ⟨rfl, h1, A, c, rfl, ho.ints⟩⟩
  · exact ⟨false, _, rfl, hb, .inr ⟨rfl, h1⟩⟩
theorem ClrV.keep {w' w2 : World} {xs : List Int} {ok : Bool} {v : Value} (h : ClrV w' xs ok v) (k : Keep w' w2) : ClrV w2 xs ok v := by
  rcases h with ⟨h1, h2, A, c, h3, h4⟩ | h
  · exact .inl ⟨h1, h2, A, c, h3, h4.keep k⟩
  · exact .inr h
theorem mid_of {x : Int} (h : -648 ≤ x ∧ x ≤ 648) : Mid x := by unfold Mid; omega

end Go.Proofs.Ytlgnpfpdmjhhbaa

/- The value's shares, by the model. -/
namespace Go.Proofs.Ytlgnpfpdmjhhbaa
open Go.RowKit
open V (Asc)

/-- The best shares of a table. -/
def NewV (w : World) (a : List (List Int)) (e : Ending) (w' : World) : Prop :=
  ∃ A1 c1 A2 c2, e = .returned (.tuple #[.slice A1 a.length c1, .slice A2 (gr a 0).length c2]) ∧ Ints w' A1 a.length c1 (bx a) ∧ Ints w' A2 (gr a 0).length c2 (by_ a) ∧ Below w.heap.size w w'
theorem NewK.no {w w' : World} {a : List (List Int)} {k : Nat} {r s : Nat → Nat} {e : Ending} (h : NewK w a k r s e w') (hn : ¬ KerP a k r s) : ∃ v1 v2, e = .returned (.tuple #[v1, v2, .bool false]) ∧ Below w.heap.size w w' := by
  rcases h with ⟨h1, _⟩ | ⟨_, h⟩
  · exact absurd h1 hn
  · exact h
theorem NewK.yes {w w' : World} {a : List (List Int)} {k : Nat} {r s : Nat → Nat} {e : Ending} (h : NewK w a k r s e w') (hn : KerP a k r s) :
    ∃ A1 c1 A2 c2, e = .returned (.tuple #[.slice A1 a.length c1, .slice A2 (gr a 0).length c2, .bool true]) ∧ Ints w' A1 a.length c1 (shr a.length r (kX a r s k) k) ∧
      Ints w' A2 (gr a 0).length c2 (shr (gr a 0).length s (kY a r s k) k) ∧ Below w.heap.size w w' := by
  rcases h with ⟨_, h⟩ | ⟨h1, _⟩
  · exact h
  · exact absurd hn h1
theorem memL_pl {w : World} {A : Option Addr} {n c S m : Nat} (h : Ints w A n c (memL S m)) (e : n = (memL S m).length) : Pl w A n c (idx S m) m := by
  subst e
  exact ⟨by rw [← memL_idx]; exact h, (idx_asc S m).1⟩

end Go.Proofs.Ytlgnpfpdmjhhbaa

/- A table and shares, drawn from bytes. -/
namespace Go.Proofs.Ytlgnpfpdmjhhbaa
open Go.RowKit

theorem OwnR.grown {lo hi w w' b A n c xss} {g : Nat} (h : OwnR lo hi w b A n c xss) (k : w.grownBy w' (some g)) (hg : g < lo) : OwnR lo hi w' b A n c xss :=
  h.of_blocks fun i h1 _ h3 => k.block i h3 (fun e => by injection e with e; omega)
theorem OwnI.grown {lo hi w w' b A n c xs} {g : Nat} (h : OwnI lo hi w b A n c xs) (k : w.grownBy w' (some g)) (hg : g < lo) : OwnI lo hi w' b A n c xs :=
  h.of_block fun hn => k.block _ (h.lt hn) (fun e => by obtain ⟨_, _, q, _⟩ := h.own hn; injection e with e; omega)
theorem Picked.one {w0 g A l c p n w e w'} (h : Picked w0 g A l c p n w e w') : ∃ m : Int, e = .returned (.int .i64 m) ∧ (1 ≤ n → 0 ≤ m ∧ m < n) ∧ Rdr w0 w' g A l c (p + 1) ∧ w.grownBy w' (some g) := by
  obtain ⟨m, h1, h2, _, h4, q, rfl⟩ := h
  exact ⟨m, h1, h2, h4, ⟨rfl, rfl, rfl, by simp [World.setCell], fun k _ hne => Below.heap_setCell _ _ _ _ (fun e => hne (by rw [e]))⟩⟩

/-- A table and shares. -/
def DrawnTS (w : World) (e : Ending) (w' : World) : Prop :=
  ∃ Av n c gg xss Bv m cb ys, e = .returned (.tuple #[.slice Av n c, .slice Bv m cb]) ∧ Small xss ∧ OwnR w.heap.size w'.heap.size w' gg Av n c xss ∧ Ints w' Bv m cb ys ∧ Below w.heap.size w w'
/-- A table and shares of both players. -/
def DrawnTSS (w : World) (e : Ending) (w' : World) : Prop :=
  ∃ Av n c gg xss Bv m cb xs Cv l cc ys, e = .returned (.tuple #[.slice Av n c, .slice Bv m cb, .slice Cv l cc]) ∧ Small xss ∧ OwnR w.heap.size w'.heap.size w' gg Av n c xss ∧ Ints w' Bv m cb xs ∧ Ints w' Cv l cc ys ∧ Below w.heap.size w w'

end Go.Proofs.Ytlgnpfpdmjhhbaa

/- Squares and fields drawn, with shares or alone. -/
namespace Go.Proofs.Ytlgnpfpdmjhhbaa
open Go.RowKit

set_option maxHeartbeats 400000 in
theorem DrawValidSquare_any (A : Option Addr) (n c : Nat) (w : World) (h : Bytes w A n c) :
    Calls Try.prog 43 #[.slice A n c] w (DrawnT w) := by
  have H0 := Lib.hid (newReader_any A n c w h)
  clear h
  go_enter Try.func43, Try.ntmps43
  go_wp2_with fail
  refine H0.out.mono ?_
  rintro e w1 ⟨A1, l, c1, rfl, hl, hr, hs⟩
  have H1 := Lib.hid (someSquare_any w w1 w.heap.size A1 l c1 0 hr (by omega))
  clear hr hl H0
  go_wp2_with fail
  refine H1.out.mono ?_
  rintro e w2 ⟨wb, v', vs', xss', p', rfl, hsm, hto, hp, hg⟩
  have hsz := hg.size
  obtain ⟨Av, nv, cv, gg, rfl, hnv, hown⟩ := hto.bo.owns (by have := hsm.n; omega)
  have HO := Lib.hid (hown.mono (show w.heap.size ≤ wb.heap.size by omega) (Nat.le_refl _))
  have HB := Lib.hid hto.rd.below
  have HS := Lib.hid hsm
  clear hsm hto hown hg H1 hnv
  go_wp2
  go_ret
  exact ⟨_, _, _, _, _, rfl, HS.out, HO.out, HB.out⟩
set_option maxHeartbeats 400000 in
theorem DrawIsEven_any (A : Option Addr) (n c : Nat) (w : World) (h : Bytes w A n c) :
    Calls Try.prog 48 #[.slice A n c] w (DrawnT w) := by
  have H0 := Lib.hid (newReader_any A n c w h)
  clear h
  go_enter Try.func48, Try.ntmps48
  go_wp2_with fail
  refine H0.out.mono ?_
  rintro e w1 ⟨A1, l, c1, rfl, hl, hr, hs⟩
  have H1 := Lib.hid (someSquare_any w w1 w.heap.size A1 l c1 0 hr (by omega))
  clear hr hl H0
  go_wp2_with fail
  refine H1.out.mono ?_
  rintro e w2 ⟨wb, v', vs', xss', p', rfl, hsm, hto, hp, hg⟩
  have hsz := hg.size
  obtain ⟨Av, nv, cv, gg, rfl, hnv, hown⟩ := hto.bo.owns (by have := hsm.n; omega)
  have HO := Lib.hid (hown.mono (show w.heap.size ≤ wb.heap.size by omega) (Nat.le_refl _))
  have HB := Lib.hid hto.rd.below
  have HS := Lib.hid hsm
  clear hsm hto hown hg H1 hnv
  go_wp2
  go_ret
  exact ⟨_, _, _, _, _, rfl, HS.out, HO.out, HB.out⟩
set_option maxHeartbeats 400000 in
theorem DrawValidField_any (A : Option Addr) (n c : Nat) (w : World) (h : Bytes w A n c) :
    Calls Try.prog 47 #[.slice A n c] w (DrawnT w) := by
  have H0 := Lib.hid (newReader_any A n c w h)
  clear h
  go_enter Try.func47, Try.ntmps47
  go_wp2_with fail
  refine H0.out.mono ?_
  rintro e w1 ⟨A1, l, c1, rfl, hl, hr, hs⟩
  have H1 := Lib.hid (someField_any w w1 w.heap.size A1 l c1 0 hr (by omega))
  clear hr hl H0
  go_wp2_with fail
  refine H1.out.mono ?_
  rintro e w2 ⟨wb, v', vs', xss', p', rfl, hsm, hto, hp, hg⟩
  have hsz := hg.size
  obtain ⟨Av, nv, cv, gg, rfl, hnv, hown⟩ := hto.bo.owns (by have := hsm.n; omega)
  have HO := Lib.hid (hown.mono (show w.heap.size ≤ wb.heap.size by omega) (Nat.le_refl _))
  have HB := Lib.hid hto.rd.below
  have HS := Lib.hid hsm
  clear hsm hto hown hg H1 hnv
  go_wp2
  go_ret
  exact ⟨_, _, _, _, _, rfl, HS.out, HO.out, HB.out⟩

end Go.Proofs.Ytlgnpfpdmjhhbaa

/- Shares at which some strategies have as much: the sums of the cofactors of the columns, and the differences to the first row. Plain. -/
namespace Go.Proofs.Ytlgnpfpdmjhhbaa
open V (sumN detN rowC colC cofN minorN skip sgn Asc)

/-- The square of a part, as it is. -/
def lf (a : List (List Int)) (r : Nat → Nat) : Nat → Nat → Int := fun p q => g2 a (r p) (r q) + 0
/-- The differences to the first row, behind a row of ones. -/
def mf (a : List (List Int)) (r : Nat → Nat) : Nat → Nat → Int := fun p q => if p = 0 then 1 else g2 a (r p) (r q) - g2 a (r 0) (r q)

theorem rowC_shift {k : Nat} (hk : k ≤ 3) {f g : Nat → Nat → Int} (z : Int) (h : ∀ p q, g p q = f p q + z) {p : Nat} (hp : p < k) : rowC k g p = rowC k f p := by
  have : k = 1 ∨ k = 2 ∨ k = 3 := by omega
  rcases this with rfl | rfl | rfl
  · simp [rowC, sumN, cofN, detN]
  · have : p = 0 ∨ p = 1 := by omega
    rcases this with rfl | rfl <;> simp [rowC, sumN, cofN, sgn, detN, minorN, skip, h] <;> omega
  · obtain ⟨e0, e1, e2⟩ := V.rowC3 f
    obtain ⟨d0, d1, d2⟩ := V.rowC3 g
    have : p = 0 ∨ p = 1 ∨ p = 2 := by omega
    rcases this with rfl | rfl | rfl
    · rw [e0, d0]; simp only [h]; grind
    · rw [e1, d1]; simp only [h]; grind
    · rw [e2, d2]; simp only [h]; grind
theorem lf_kY (a : List (List Int)) (r : Nat → Nat) {k : Nat} (hk : k ≤ 3) : cofL k (trN (lf a r)) k = kY a r r k := by
  unfold kY cofL
  refine List.map_congr_left fun p hp => ?_
  exact (rowC_shift hk 18 (f := trN (lf a r)) (g := trN (kf a r r)) (fun p q => by unfold trN lf kf; omega) (List.mem_range.1 hp)).symm
theorem gi_kY {a : List (List Int)} {r : Nat → Nat} {k : Nat} (hk : k ≤ 3) {c : Nat} (hc : c < k) : gi (kY a r r k) c = colC k (kf a r r) c := by
  unfold kY; rw [gi_cofL hc, rowC_tr hk]
theorem mf_cof {a : List (List Int)} {r : Nat → Nat} {k : Nat} (hk : k ≤ 3) {c : Nat} (hc : c < k) : cofN k (mf a r) 0 c = gi (kY a r r k) c := by
  rw [gi_kY hk hc]
  have : k = 1 ∨ k = 2 ∨ k = 3 := by omega
  rcases this with rfl | rfl | rfl
  · obtain rfl : c = 0 := by omega
    simp [colC, sumN, cofN, sgn, detN]
  · have : c = 0 ∨ c = 1 := by omega
    rcases this with rfl | rfl <;> simp [colC, sumN, cofN, sgn, detN, minorN, skip, mf, kf] <;> omega
  · obtain ⟨e0, e1, e2⟩ := V.colC3 (kf a r r)
    have : c = 0 ∨ c = 1 ∨ c = 2 := by omega
    rcases this with rfl | rfl | rfl
    · rw [e0]; simp [sumN, cofN, sgn, detN, minorN, skip, mf, kf]; grind
    · rw [e1]; simp [sumN, cofN, sgn, detN, minorN, skip, mf, kf]; grind
    · rw [e2]; simp [sumN, cofN, sgn, detN, minorN, skip, mf, kf]; grind
theorem mf_det {a : List (List Int)} {r : Nat → Nat} {k : Nat} (h1 : 1 ≤ k) (hk : k ≤ 3) : detN k (mf a r) = sumN (gi (kY a r r k)) k := by
  obtain ⟨l, rfl⟩ : ∃ l, k = l + 1 := ⟨k - 1, by omega⟩
  rw [detN]
  refine sumN_congr fun j hj => ?_
  rw [← mf_cof hk hj]
  unfold cofN
  rw [Nat.zero_add, show mf a r 0 j = 1 from rfl, Nat.add_sub_cancel, Int.one_mul]
theorem mf_ab {a : List (List Int)} (v : VT a) (h : a.length = (gr a 0).length) {r : Nat → Nat} {k : Nat} (hr : Asc a.length k r) : Ab k (mf a r) := fun p q hp hq => by
  unfold mf
  have h0 := hr.1 0 (by omega)
  have hpp := hr.1 p hp
  have hqq := hr.1 q hq
  have e1 := v.bd hpp (j := r q) (by omega)
  have e2 := v.bd h0 (j := r q) (by omega)
  split <;> omega

/-- All numbers more than 0, or all less. -/
def LevP (X : List Int) : Prop := (∀ p, p < X.length → 0 < gi X p) ∨ ∀ p, p < X.length → gi X p < 0
theorem LevP.clr {X : List Int} (h : LevP X) (h0 : 0 < X.length) : ClrP X := by
  rcases h with h | h
  · exact ⟨⟨0, h0, by have := h 0 h0; omega⟩, .inl fun p hp => by have := h p hp; omega⟩
  · exact ⟨⟨0, h0, by have := h 0 h0; omega⟩, .inr fun p hp => by have := h p hp; omega⟩
def levB (xs : List Int) : Bool := decide (lst xs ≤ 0) && decide (0 ≤ mxl xs)
theorem levB_iff {xs : List Int} (h0 : 0 < xs.length) : levB xs = false ↔ LevP xs := by
  unfold levB lst mxl LevP
  rw [Bool.and_eq_false_iff, decide_eq_false_iff_not, decide_eq_false_iff_not]
  constructor
  · rintro (h | h)
    · exact .inl fun p hp => by have := mn_le (xs := xs) (k := xs.length - 1) (j := p) (by omega); omega
    · exact .inr fun p hp => by have := mx_ge xs (k := xs.length - 1) (j := p) (by omega); omega
  · rintro (h | h)
    · obtain ⟨j, hj, e⟩ := mn_mem (xs := xs) (xs.length - 1)
      exact .inl (by have := h j (by omega); omega)
    · obtain ⟨j, hj, e⟩ := mx_at xs (xs.length - 1)
      exact .inr (by have := h j (by omega); omega)

/-- The first c numbers, times z. -/
def sgL (X : List Int) (z : Int) (c : Nat) : List Int := (List.range c).map fun p => z * gi X p
theorem sgL_succ (X : List Int) (z : Int) (c : Nat) : sgL X z (c + 1) = sgL X z c ++ [z * gi X c] := by simp [sgL, List.range_succ]
theorem sgL_len (X : List Int) (z : Int) (c : Nat) : (sgL X z c).length = c := by simp [sgL]
theorem gi_sgL {X : List Int} {z : Int} {c p : Nat} (h : p < c) : gi (sgL X z c) p = z * gi X p := by
  rw [gi_get (by rw [sgL_len]; exact h)]; simp [sgL]
theorem gcdL_sgL {X : List Int} {z : Int} (hz : z = 1 ∨ z = -1) {k : Nat} : ∀ {j}, j ≤ k → gcdL (sgL X z k) j = gcdL X j
  | 0, _ => rfl
  | j + 1, h => by
    rw [gcdL, gcdL, gcdL_sgL hz (by omega), gi_sgL (by omega)]
    rcases hz with rfl | rfl
    · rw [Int.one_mul]
    · unfold gcdI; rw [Int.neg_one_mul, Int.gcd_neg]
theorem shr_sgL {X : List Int} {z : Int} (hz : z = 1 ∨ z = -1) {n k : Nat} {r : Nat → Nat} (hl : X.length = k) : shr n r (sgL X z k) k = shr n r X k := by
  unfold shr
  rw [sgL_len, hl, gcdL_sgL hz (Nat.le_refl _)]
  congr 1
  unfold clrL
  refine List.map_congr_left fun p hp => ?_
  rw [gi_sgL (List.mem_range.1 hp)]
  rcases hz with rfl | rfl
  · rw [Int.one_mul]
  · rw [show max (-1 * gi X p) (-(-1 * gi X p)) = max (gi X p) (-(gi X p)) by omega]
/-- The sign of the sum. -/
def zsg (X : List Int) (k : Nat) : Int := if sumN (gi X) k < 0 then -1 else 1
theorem zsg_or (X : List Int) (k : Nat) : zsg X k = 1 ∨ zsg X k = -1 := by unfold zsg; split <;> simp
theorem lev_sum {X : List Int} (h : LevP X) (h0 : 0 < X.length) : sumN (gi X) X.length ≠ 0 ∧ ∀ p, p < X.length → 0 < zsg X X.length * gi X p := by
  rcases h with h | h
  · have hs := sumN_pos (f := gi X) (n := X.length) (fun i hi => by have := h i hi; omega) ⟨0, h0, h 0 h0⟩
    refine ⟨by omega, fun p hp => ?_⟩
    unfold zsg; rw [if_neg (by omega), Int.one_mul]; exact h p hp
  · have hs := sumN_pos (f := fun i => (-1) * gi X i) (n := X.length) (fun i hi => by have := h i hi; omega) ⟨0, h0, by have := h 0 h0; omega⟩
    rw [sumN_mul] at hs
    refine ⟨by omega, fun p hp => ?_⟩
    unfold zsg; rw [if_pos (by omega)]; have := h p hp; omega
theorem lev_of {X : List Int} {z : Int} (hz : z = 1 ∨ z = -1) (h : ∀ p, p < X.length → 0 < z * gi X p) : LevP X := by
  rcases hz with rfl | rfl
  · exact .inl fun p hp => by have := h p hp; omega
  · exact .inr fun p hp => by have := h p hp; omega

theorem memL_ge : ∀ R, R < 8 → ∀ n, n < 4 → 1 ≤ R → R < 2 ^ n → 1 ≤ (memL R n).length := by decide
/-- The shares of some strategies are the only ones at which these have as much, and no other one has more. -/
def LevAt (a : List (List Int)) (k : Nat) (r : Nat → Nat) : Prop := LevP (kY a r r k) ∧ RestP a (shr a.length r (kY a r r k) k) a.length
def lvl (a : List (List Int)) (s : Nat) : List Int := shr a.length (idx s a.length) (kY a (idx s a.length) (idx s a.length) (memL s a.length).length) (memL s a.length).length
def LvP (a : List (List Int)) (s : Nat) : Prop := 1 ≤ s ∧ s < 2 ^ a.length ∧ LevAt a (memL s a.length).length (idx s a.length)
noncomputable def resR (a : List (List Int)) : Nat → List (List Int)
  | 0 => []
  | s + 1 => if pb (LvP a s) = true then resR a s ++ [lvl a s] else resR a s
noncomputable def resF (a : List (List Int)) : List (List Int) := if pb (VQ a) = true then resR a 8 else []
theorem resR_yes {a : List (List Int)} {s : Nat} (h : LvP a s) : resR a (s + 1) = resR a s ++ [lvl a s] := by rw [resR, if_pos (pb_true h)]
theorem resR_no {a : List (List Int)} {s : Nat} (h : ¬ LvP a s) : resR a (s + 1) = resR a s := by rw [resR, if_neg (by rw [pb_false h]; decide)]
theorem lvl_len (a : List (List Int)) (s : Nat) : (lvl a s).length = a.length := putL_len _ _ _ _
theorem resR_one (a : List (List Int)) : resR a 1 = [] := by rw [resR_no (fun h => by have := h.1; omega)]; rfl
theorem resR_len (a : List (List Int)) : ∀ s, (resR a s).length ≤ s
  | 0 => by simp [resR]
  | s + 1 => by
    have := resR_len a s
    by_cases h : LvP a s
    · rw [resR_yes h, List.length_append, List.length_singleton]; omega
    · rw [resR_no h]; omega
theorem resR_end {a : List (List Int)} : ∀ {d}, resR a (2 ^ a.length + d) = resR a (2 ^ a.length)
  | 0 => rfl
  | d + 1 => by rw [← Nat.add_assoc, resR_no (fun h => by have := h.2.1; omega), resR_end]
theorem resR_all {a : List (List Int)} (h : a.length ≤ 3) : resR a 8 = resR a (2 ^ a.length) := by
  have h8 : 2 ^ a.length ≤ 8 := pow_le8 h
  have := resR_end (a := a) (d := 8 - 2 ^ a.length)
  rwa [show 2 ^ a.length + (8 - 2 ^ a.length) = 8 by omega] at this
theorem mem_resR {a : List (List Int)} {x : List Int} : ∀ {k}, x ∈ resR a k ↔ ∃ s, s < k ∧ LvP a s ∧ x = lvl a s
  | 0 => by simp [resR]
  | k + 1 => by
    have ih := mem_resR (a := a) (x := x) (k := k)
    by_cases h : LvP a k
    · rw [resR_yes h, List.mem_append, List.mem_singleton, ih]
      constructor
      · rintro (⟨s, h1, h2, h3⟩ | h1)
        · exact ⟨s, by omega, h2, h3⟩
        · exact ⟨k, by omega, h, h1⟩
      · rintro ⟨s, h1, h2, h3⟩
        by_cases e : s = k
        · subst e; exact .inr h3
        · exact .inl ⟨s, by omega, h2, h3⟩
    · rw [resR_no h, ih]
      constructor
      · rintro ⟨s, h1, h2, h3⟩; exact ⟨s, by omega, h2, h3⟩
      · rintro ⟨s, h1, h2, h3⟩
        by_cases e : s = k
        · subst e; exact absurd h2 h
        · exact ⟨s, by omega, h2, h3⟩
theorem lvl_VS {a : List (List Int)} (q : VQ a) {s : Nat} (h : LvP a s) (h8 : s < 8) : VS (lvl a s) a.length := by
  have hk3 : (memL s a.length).length ≤ 3 := by have := memL_le s a.length; have := q.1.n3; omega
  have h1 := memL_ge s h8 a.length (by have := q.1.n3; omega) h.1 h.2.1
  have hr := idx_asc s a.length
  exact shr_VS (kY_len _ _ _ _) hr (h.2.2.1.clr (by rw [kY_len]; omega)) (fun p hp => kY_bd q.1 hk3 hr (by rw [← q.2]; exact hr) hp)
end Go.Proofs.Ytlgnpfpdmjhhbaa

/- The shares of some strategies at which these have as much, by the model. -/
namespace Go.Proofs.Ytlgnpfpdmjhhbaa
open Go.RowKit
open V (sumN detN rowC colC cofN minorN skip sgn Asc)

/-- The first j numbers of row p of the differences; the first i rows. -/
def dfR (a : List (List Int)) (r : Nat → Nat) (p j : Nat) : List Int := (List.range j).map fun q => mf a r p q
def dfL (a : List (List Int)) (r : Nat → Nat) (k i : Nat) : List (List Int) := (List.range i).map fun p => dfR a r p k
theorem dfR_succ (a : List (List Int)) (r : Nat → Nat) (p j : Nat) : dfR a r p (j + 1) = dfR a r p j ++ [mf a r p j] := by simp [dfR, List.range_succ]
theorem dfL_succ (a : List (List Int)) (r : Nat → Nat) (k i : Nat) : dfL a r k (i + 1) = dfL a r k i ++ [dfR a r i k] := by simp [dfL, List.range_succ]
theorem dfR_len (a : List (List Int)) (r : Nat → Nat) (p j : Nat) : (dfR a r p j).length = j := by simp [dfR]
theorem dfL_len (a : List (List Int)) (r : Nat → Nat) (k i : Nat) : (dfL a r k i).length = i := by simp [dfL]
theorem dfL_sq (a : List (List Int)) (r : Nat → Nat) (k : Nat) : Sq k (dfL a r k k) (mf a r) :=
  ⟨dfL_len _ _ _ _, fun p hp => by rw [gr_get (by rw [dfL_len]; exact hp)]; simp [dfL, dfR], fun p q hp hq => by
    unfold g2; rw [gr_get (by rw [dfL_len]; exact hp), gi_get (by simp [dfL, dfR]; exact hq)]; simp [dfL, dfR]⟩
theorem dfR_zero {a : List (List Int)} {r : Nat → Nat} {p j : Nat} (h : p = 0) : dfR a r p (j + 1) = dfR a r p j ++ [1] := by subst h; exact dfR_succ _ _ _ _
theorem dfR_next {a : List (List Int)} {r : Nat → Nat} {p j : Nat} (h : p ≠ 0) : dfR a r p (j + 1) = dfR a r p j ++ [g2 a (r p) (r j) - g2 a (r 0) (r j)] := by
  rw [dfR_succ, mf, if_neg h]
theorem mf_odd {a : List (List Int)} {r : Nat → Nat} {k c : Nat} (hk : k ≤ 3) (hc : c < k) (h : c % 2 = 1) : gi (kY a r r k) c = -(detN (k - 1) (minorN (mf a r) 0 c)) := by
  rw [← mf_cof hk hc, cofN_odd (by omega)]
theorem mf_even {a : List (List Int)} {r : Nat → Nat} {k c : Nat} (hk : k ≤ 3) (hc : c < k) (h : ¬ c % 2 = 1) : gi (kY a r r k) c = detN (k - 1) (minorN (mf a r) 0 c) := by
  rw [← mf_cof hk hc, cofN_even (by omega)]

/-- Shares of some strategies at which these have as much, and that they are at rest; or that there are none. -/
def NewW (w : World) (a : List (List Int)) (k : Nat) (r : Nat → Nat) (e : Ending) (w' : World) : Prop :=
  (LevAt a k r ∧ ∃ A1 c1 g, e = .returned (.tuple #[.slice A1 a.length c1, .bool true]) ∧ OwnI w.heap.size w'.heap.size w' g A1 a.length c1 (shr a.length r (kY a r r k) k) ∧ Below w.heap.size w w') ∨
  (¬ LevAt a k r ∧ ∃ v, e = .returned (.tuple #[v, .bool false]) ∧ Below w.heap.size w w')

theorem newW_of {w w' : World} {a : List (List Int)} {k n : Nat} {r : Nat → Nat} {A : Option Addr} {c g : Nat} (hl : a.length = n) (ho : OwnI w.heap.size w'.heap.size w' g A n c (shr n r (kY a r r k) k)) (hb : Below w.heap.size w w') :
    NewW w a k r (.returned (.tuple #[.slice A n c, .bool (pb (LevAt a k r))])) w' := by
  subst hl
  by_cases h : LevAt a k r
  · rw [pb_true h]; exact .inl ⟨h, A, c, g, rfl, ho, hb⟩
  · rw [pb_false h]; exact .inr ⟨h, _, rfl, hb⟩

set_option maxRecDepth 100000 in
set_option maxHeartbeats 6400000 in
theorem restOn_any (b o : Nat) (rb ro cc : Nat → Nat) (n c k cx : Nat) (X : Option Addr) (a : List (List Int)) (r : Nat → Nat) (w : World) (ht : Tab w b o rb ro cc n n a) (hx : Pl w X k cx r n) (hq : VQ a) (hl : a.length = n) (h1 : 1 ≤ k) (hk : k ≤ 3) (hr : Asc n k r) :
    Calls Try.prog 90 #[.slice (some ⟨b, o, none⟩) n c, .slice X k cx] w (NewW w a k r) := by
  have HT := Lib.hid ht
  have HX := Lib.hid hx
  have HV := Lib.hid hq
  have HL := Lib.hid hl
  have HR := Lib.hid (show Asc a.length k r by rw [hl]; exact hr)
  have hn3 := ht.n3
  have HAB := Lib.hid (mf_ab hq.1 hq.2 (show Asc a.length k r by rw [hl]; exact hr))
  obtain ⟨bx, ox, rfl, hcx⟩ := hx.ints.at_ (by omega)
  have c0 := hcx 0 (by omega)
  rw [gi_lstN (by omega)] at c0
  simp only [Nat.add_zero] at c0
  have HC0 := Lib.hid c0
  have hr0 := hx.lt 0 (by omega)
  have HR0 := Lib.hid (ht.row (r 0) hr0)
  have HCX := Lib.hid hcx
  have HS0 := Lib.hid (TM.start w)
  obtain ⟨i0, hi0, hz0, hz1, hz2⟩ := info_parts Try.infoI
  clear ht hx hq hl hr hcx c0
  go_enter Try.func90, Try.ntmps90
  go_wp2
  go_loopw [7, 8] (fun v i wr => ∃ (p : Nat) (vs : List Value), p ≤ k ∧ i = .int .i64 p ∧ Hid (TM w v vs (dfL a r k p) wr)) (fun _ i _ => k - (intOf i).toNat)
  case atStart => exact ⟨0, [], Nat.zero_le _, rfl, HS0⟩
  case round =>
    clear HS0
    obtain ⟨p, vs, hp, rfl, HTM⟩ := hrel
    obtain ⟨Av, cv, rfl⟩ := HTM.out.bo.form
    by_cases hlt : p < k
    · have HI := Lib.hid HTM.out.row
      clear HTM
      have c1 := HCX.out p hlt
      rw [gi_lstN hlt] at c1
      have HC1 := Lib.hid c1
      have hrp := HX.out.lt p hlt
      have HRW := Lib.hid (HT.out.row (r p) hrp)
      clear c1
      go_wp2
      generalize wr.heap.size = N at *
      go_loopw [9, 10] (fun u j wi => ∃ (q : Nat), q ≤ k ∧ j = .int .i64 q ∧ Hid (TN w N (.slice Av (dfL a r k p).length cv) vs (dfL a r k p) u (dfR a r p q) wi)) (fun _ j _ => k - (intOf j).toNat)
      case atStart => exact ⟨0, Nat.zero_le _, rfl, HI⟩
      case round =>
        clear HI
        obtain ⟨q, hq, rfl, HI⟩ := hrel
        obtain ⟨Au, cu, rfl⟩ := HI.out.bi.form
        by_cases hlm : q < k
        · have HML := Lib.hid (dfR_len a r p q)
          by_cases hp0 : p = 0
          · have hpz : ((p : Int) == 0) = true := by simp; omega
            have HRS := Lib.hid (dfR_zero (a := a) (r := r) (j := q) hp0)
            clear hp0
            have hHs := HI.out.hs
            have hlh := HI.out.lh
            generalize dfR a r p q = ys at *
            have hb := below_alloc wr (.cells #[iv 1] 3)
            have HB4 := Lib.hid ((HI.out.bi.below hb).own)
            have HN := Lib.hid (cell_one_new wr (iv 1) 3)
            have hyl : ys.length ≤ 3 := by have := HML.out; omega
            clear hb
            go_wp2_with (at_builtin; refine wpList_append_own_at _ rfl _ _ 24 rfl N 3 i0 (.int .i64 0) 1 8 Try.underlying24 hi0 hz0 hz1 hz2 rfl (by decide) _ ys.length (ys.map iv) rfl HB4.out ⟨wr.heap.size, 0, none⟩ 1 1 [iv 1] rfl rfl ?c1 ?c2 ?c3 ?c4 ?c5 ?_)
            case c1 => exact HN.out
            case c2 => intro u hu; simp at hu; subst hu; rfl
            case c3 => unfold maxLen; omega
            case c4 => omega
            case c5 => simp; omega
            intro v' w5 hown' hgrow _ hat
            have HI5 := Lib.hid (HI.out.push hown' hgrow (by simpa using hat))
            clear HB4 HN hown' hgrow hat HI
            go_wp2
            go_roundw
            case rel => exact ⟨q + 1, by omega, by go_num, Lib.hid (by rw [HRS.out]; exact HI5.out)⟩
            case measure => simp [intOf]; omega
          · have hpz : ((p : Int) == 0) = false := by simp; omega
            have HRS := Lib.hid (dfR_next (a := a) (r := r) (p := p) (j := q) hp0)
            have c2 := HCX.out q hlm
            rw [gi_lstN hlm] at c2
            have hsq := HX.out.lt q hlm
            have c3 := HT.out.cell (r p) (r q) hrp hsq
            have c4 := HT.out.cell (r 0) (r q) hr0 hsq
            obtain ⟨z1, z2⟩ := HT.out.bd (r p) (r q) hrp hsq
            obtain ⟨z3, z4⟩ := HT.out.bd (r 0) (r q) hr0 hsq
            have HKA := Lib.hid (And.intro (And.intro (And.intro HC1.out HRW.out) (And.intro c2 c3)) (And.intro (And.intro HC0.out HR0.out) c4))
            have HKB := Lib.hid (show (_ ∧ _) ∧ _ from And.intro (And.intro (And.intro (Keep.below HI.out.up _ _ HC1.out) (Keep.below HI.out.up _ _ HRW.out)) (And.intro (Keep.below HI.out.up _ _ c2) (Keep.below HI.out.up _ _ c3))) (And.intro (And.intro (Keep.below HI.out.up _ _ HC0.out) (Keep.below HI.out.up _ _ HR0.out)) (Keep.below HI.out.up _ _ c4)))
            have hHs := HI.out.hs
            have hlh := HI.out.lh
            have hk0 : 0 < k := by omega
            have hk0' : (0 : Int) < (k : Int) := by omega
            have HPR := Lib.hid hrp
            have HSQ := Lib.hid hsq
            clear c2 c3 c4
            generalize g2 a (r p) (r q) = x at *
            generalize g2 a (r 0) (r q) = y at *
            generalize dfR a r p q = ys at *
            have hyl : ys.length ≤ 3 := by have := HML.out; omega
            generalize hrr : r p = R at *
            have HRR := Lib.hid hrr
            generalize hss : r q = S at *
            have HSS := Lib.hid hss
            generalize hzz : r 0 = Z at *
            have HZZ := Lib.hid hzz
            clear hrr hss hzz
            have HW : Hid (IntKind.i64.wrap (x - y) = x - y) := Lib.hid (wrapIn (by omega))
            have k1 := HKB.out.1.1.1
            have k2 := HKB.out.1.1.2
            have k3 := HKB.out.1.2.1
            have k4 := HKB.out.1.2.2
            have k5 := HKB.out.2.1.1
            have k6 := HKB.out.2.1.2
            have k7 := HKB.out.2.2
            go_wp2
            go_region_held3 (fun W => ((W.cell? ⟨bx, ox + p, none⟩ = some (.int .i64 R) ∧ W.cell? ⟨b, o + R, none⟩ = some (.slice (some ⟨rb R, ro R, none⟩) n (cc R))) ∧ (W.cell? ⟨bx, ox + q, none⟩ = some (.int .i64 S) ∧ W.cell? ⟨rb R, ro R + S, none⟩ = some (.int .i64 x))) ∧ ((W.cell? ⟨bx, ox, none⟩ = some (.int .i64 Z) ∧ W.cell? ⟨b, o + Z, none⟩ = some (.slice (some ⟨rb Z, ro Z, none⟩) n (cc Z))) ∧ W.cell? ⟨rb Z, ro Z + S, none⟩ = some (.int .i64 y)))
              (first | exact HKK.out | exact HKB.out | go_keep)
              ((refine step_append_lies _ (by rfl) _ _ _ (by rfl) N 3 i0 _ 1 8 Try.underlying24 hi0 hz0 hz1 hz2 rfl (by omega) (.slice Au ys.length cu) ys.length (ys.map iv) (by rfl) ((HI.out.bi.own.alloc _).drew) ⟨wr.heap.size, 0, none⟩ 1 1 [iv (IntKind.i64.wrap (x - y))] (by rfl) (by rfl) (World.news_of_block (w := (wr.alloc (.cells #[iv (IntKind.i64.wrap (x - y))] 3)).drew) (cs := #[iv (IntKind.i64.wrap (x - y))]) (t := 3) (fr := (0, 0)) (heap_alloc_new wr _)) (by simp [Value.oneCell', iv]) (by omega) (by unfold maxLen; omega) (by omega) (by simp; omega) (wr.heap.size + 1) (by simp) ?_; intro gg cap w1 hown1 hgrow hat hlt1; rw [HW.out] at hown1; have HI2 := Lib.hid (HI.out.push2 ((below_alloc wr _).drew) hown1 hgrow hlt1); have HKK := Lib.hid (And.intro (And.intro (And.intro (Keep.below HI2.out.up _ _ HKA.out.1.1.1) (Keep.below HI2.out.up _ _ HKA.out.1.1.2)) (And.intro (Keep.below HI2.out.up _ _ HKA.out.1.2.1) (Keep.below HI2.out.up _ _ HKA.out.1.2.2))) (And.intro (And.intro (Keep.below HI2.out.up _ _ HKA.out.2.1.1) (Keep.below HI2.out.up _ _ HKA.out.2.1.2)) (Keep.below HI2.out.up _ _ HKA.out.2.2))); clear hown1 hgrow hat hlt1 HI))
            clear k1 k2 k3 k4 k5 k6 k7
            go_wp2
            go_roundw
            case rel => exact ⟨q + 1, by omega, by go_num, Lib.hid (by rw [HRS.out]; first | exact HI2.out | exact HI2.out.qu ⟨1, rfl⟩ | exact HI2.out.qu ⟨_, rfl⟩)⟩
            case measure => simp [intOf]; omega
        · obtain rfl : q = k := by omega
          have HBD := Lib.hid (show ∀ x ∈ dfR a r p q, -27 ≤ x ∧ x ≤ 27 from fun x hx => by
            obtain ⟨j, hj, rfl⟩ := List.mem_map.1 hx
            exact HAB.out p j hlt (List.mem_range.1 hj))
          obtain ⟨Ar, nr, cr, gg, e, rfl, ho, _⟩ := HI.out.bi.owns (by rw [dfR_len]; omega) (fun x hx => by have := HBD.out x hx; omega)
          injection e with e1 _ e3
          subst e1
          subst e3
          have HO := Lib.hid ho
          have HML := Lib.hid (dfR_len a r p q)
          have HTL := Lib.hid (dfL_len a r q p)
          have HMS := Lib.hid (dfL_succ a r q p)
          have hb := below_alloc wr (.cells #[.slice Au (dfR a r p q).length cu] 24)
          have HB4 := Lib.hid (HI.out.bo.below hb).own
          have HN := Lib.hid (cell_one_new wr (.slice Au (dfR a r p q).length cu) 24)
          have hHs := HI.out.hs
          have hlh := HI.out.lh
          clear hb ho HBD
          generalize dfR a r p q = ys at *
          generalize dfL a r q p = ms at *
          obtain ⟨i0', hi0', hz0', hz1', hz2'⟩ := info_parts Try.info_row
          go_wp2_with (at_builtin; refine wpList_append_own_at _ rfl _ _ 22 rfl w.heap.size 24 i0' (.slice none 0 0) 1 24 Try.underlying22 hi0' hz0' hz1' hz2' rfl (by decide) _ ms.length vs rfl HB4.out ⟨wr.heap.size, 0, none⟩ 1 1 [.slice Au ys.length cu] rfl rfl ?d1 ?d2 ?d3 ?d4 ?d5 ?_)
          case d2 => rfl
          case d3 => have := HTL.out; unfold maxLen; omega
          case d4 => have := HTL.out; omega
          case d5 => omega
          intro v' w5 hown' hgrow _ hat
          have HT5 := Lib.hid (HI.out.done HO.out hown' hgrow (by simpa using hat))
          clear HB4 HN hown' hgrow hat HI HO
          go_wp2
          go_roundw
          case rel => exact ⟨p + 1, _, by omega, by go_num, Lib.hid (by rw [HMS.out]; exact HT5.out)⟩
          case measure => simp [intOf]; omega
    · obtain rfl : p = k := by omega
      obtain ⟨A', n', c', gg, e, hn', hown⟩ := HTM.out.bo.owns (by rw [dfL_len]; omega)
      injection e with e1 e2 e3
      subst e1
      subst e2
      subst e3
      have HSQ := Lib.hid (dfL_sq a r p)
      have HML := Lib.hid HSQ.out.len
      have HIR := Lib.hid hown.rows
      rw [HML.out] at HIR ⊢
      have HB := Lib.hid HTM.out.up
      have HSM := Lib.hid (HSQ.out.small hk HAB.out)
      have HDT := Lib.hid (mf_det (a := a) (r := r) h1 hk)
      have HYL := Lib.hid (kY_len a r r p)
      have HBD := Lib.hid (det_small hk HAB.out)
      clear hown HTM hn'
      have HC := Lib.hid (det_any p hk _ _ _ _ wr HIR.out HSQ.out HAB.out)
      by_cases hd0 : detN p (mf a r) = 0
      · have HNO := Lib.hid (show ¬ LevAt a p r from fun h => by
          have := (lev_sum h.1 (by rw [kY_len]; omega)).1
          rw [kY_len, ← HDT.out] at this
          exact this hd0)
        rw [hd0] at HC
        clear hd0
        go_wp2_with fail
        refine HC.out.mono ?_
        rintro e w1 ⟨rfl, hb⟩
        have HB1 := Lib.hid (below_up HB.out hb)
        clear hb HC
        go_wp2
        go_ret2
        exact .inr ⟨HNO.out, _, rfl, HB1.out⟩
      have hdz : (detN p (mf a r) == 0) = false := by simpa using hd0
      have HD0 := Lib.hid hd0
      clear hd0
      generalize hD : detN p (mf a r) = D at *
      have HDD := Lib.hid hD
      obtain ⟨D1, D2⟩ := HBD.out
      clear hD
      go_wp2_with fail
      refine HC.out.mono ?_
      rintro e w1 ⟨rfl, hb⟩
      have HB1 := Lib.hid (below_up HB.out hb)
      have HIR1 := Lib.hid (HIR.out.keep (Keep.below hb))
      clear hb HC HB HIR
      have HS1 := Lib.hid (IU.start w1)
      have HZ : Hid (zsg (kY a r r p) p = if D < 0 then -1 else 1) := Lib.hid (by unfold zsg; rw [← HDT.out])
      have HZO := Lib.hid (zsg_or (kY a r r p) p)
      have HYB := Lib.hid (fun q (hq : q < p) => kY_bd HV.out.1 hk HR.out (by rw [← HV.out.2]; exact HR.out) (p := q) (by rw [kY_len]; exact hq))
      go_wp2
      generalize zsg (kY a r r p) p = z at *
      go_loopw [11, 12] (fun v i wr => ∃ (c : Nat), c ≤ p ∧ i = .int .i64 c ∧ Hid (IU w1 v (sgL (kY a r r p) z c) wr) ∧ Hid (∀ q, q < c → 0 < z * gi (kY a r r p) q)) (fun _ i _ => p - (intOf i).toNat)
      case atStart => exact ⟨0, Nat.zero_le _, rfl, HS1, Lib.hid (fun _ h => absurd h (by omega))⟩
      case round =>
        clear HS1
        obtain ⟨c, hc, rfl, HI, HALL⟩ := hrel
        obtain ⟨Av, cv, rfl⟩ := HI.out.bi.form
        by_cases hlt : c < p
        · have HC := Lib.hid (minor_any _ p _ _ 0 c wr (HIR1.out.keep (Keep.below HI.out.up)) HSM.out HSQ.out.even (by omega) (by omega))
          have HYC := HYB.out c hlt
          have HBC := Lib.hid (det_small (k := p - 1) (by omega) (HAB.out.minor' (by omega) 0 c))
          have HOD := Lib.hid (mf_odd (a := a) (r := r) hk hlt)
          have HEV := Lib.hid (mf_even (a := a) (r := r) hk hlt)
          have HSS := Lib.hid (sgL_succ (kY a r r p) z c)
          have HSL := Lib.hid (sgL_len (kY a r r p) z c)
          have HNX : Hid (0 < z * gi (kY a r r p) c → ∀ q, q < c + 1 → 0 < z * gi (kY a r r p) q) := Lib.hid (fun h q hq => by
            by_cases e : q = c
            · subst e; exact h
            · exact HALL.out q (by omega))
          have HNO : Hid (¬ 0 < z * gi (kY a r r p) c → ¬ LevAt a p r) := Lib.hid (fun h l => by
            have := (lev_sum l.1 (by rw [kY_len]; omega)).2 c (by rw [kY_len]; exact hlt)
            rw [kY_len] at this
            have e : zsg (kY a r r p) p = z := by rw [HZ.out]; unfold zsg; rw [← HDT.out]
            rw [e] at this; exact h this)
          go_wp2_with fail
          refine HC.out.mono ?_
          rintro e w2 ⟨A2, n2, c2, g2_, rfl, hn2, ho, hb⟩
          have HI2 := Lib.hid (HI.out.next hb)
          have HQ2 := Lib.hid (HSQ.out.minor' (r := 0) (c := c) (by omega) hlt)
          have HO2 := Lib.hid ho.rows
          obtain rfl : n2 = p - 1 := hn2.trans HQ2.out.len
          clear hb HC hn2 ho HI
          have HC := Lib.hid (det_any (p - 1) (by omega) _ _ _ _ w2 HO2.out HQ2.out (HAB.out.minor' (by omega) 0 c))
          have HBN := HBC.out
          generalize detN (p - 1) (minorN (mf a r) 0 c) = d at *
          generalize hyy : gi (kY a r r p) c = y at *
          have HYY := Lib.hid hyy
          clear hyy
          go_wp2_with fail
          refine HC.out.mono ?_
          rintro e w3 ⟨rfl, hb⟩
          have HI3 := Lib.hid (HI2.out.next hb)
          have HIR3 := Lib.hid (HIR1.out.keep (Keep.below HI3.out.up))
          clear hb HC HI2 HO2 HQ2
          have HC := Lib.hid (HDD.out ▸ det_any p hk _ _ _ _ w3 HIR3.out HSQ.out HAB.out)
          obtain ⟨y1, y2⟩ := HYC
          obtain ⟨b1, b2⟩ := HBN
          by_cases hpp : c % 2 = 1
          · by_cases hdn : D < 0
            · skip
              have HY1 := Lib.hid (HOD.out hpp)
              have HZ1 := Lib.hid (show z = -1 by rw [HZ.out, if_pos hdn])
              have e0 : ((c : Int) % 2 == 1) = true := by simp; omega
              have e1 : decide (D < 0) = true := by simpa using hdn
              have HVL := Lib.hid (show z * y = d by rw [HZ1.out, HY1.out]; omega)
              clear HY1 HZ1 HOD HEV HZ HZO
              by_cases hle : d ≤ 0
              · have HX2 := Lib.hid (HNO.out (by rw [HVL.out]; omega))
                clear HNO HNX
                go_wp2_with fail
                refine HC.out.mono ?_
                rintro e w4 ⟨rfl, hb⟩
                have HI4 := Lib.hid (HI3.out.next hb)
                clear hb HC HI3 HIR3
                have HB5 := Lib.hid (below_up HB1.out HI4.out.up)
                go_wp2
                go_ret2
                exact .inr ⟨HX2.out, _, rfl, HB5.out⟩
              · have HX2 := Lib.hid (HNX.out (by rw [HVL.out]; omega))
                clear HNO HNX
                go_wp2_with fail
                refine HC.out.mono ?_
                rintro e w4 ⟨rfl, hb⟩
                have HI4 := Lib.hid (HI3.out.next hb)
                clear hb HC HI3 HIR3
                rw [HVL.out] at HSS
                have hyl : (sgL (kY a r r p) z c).length ≤ 3 := by rw [HSL.out]; omega
                have HYY2 := Lib.hid (show sgL (kY a r r p) z c = sgL (kY a r r p) z c from rfl)
                generalize sgL (kY a r r p) z c = ys at *
                have hb := below_alloc w4 (.cells #[iv (d)] 3)
                have HB4 := Lib.hid ((HI4.out.bi.below hb).own)
                have HN := Lib.hid (cell_one_new w4 (iv (d)) 3)
                have hwz := HI4.out.up.size
                clear hb
                go_wp2_with (at_builtin; refine wpList_append_own_at _ rfl _ _ 24 rfl w1.heap.size 3 i0 (.int .i64 0) 1 8 Try.underlying24 hi0 hz0 hz1 hz2 rfl (by decide) _ ys.length (ys.map iv) rfl HB4.out ⟨w4.heap.size, 0, none⟩ 1 1 [iv (d)] rfl rfl ?c1 ?c2 ?c3 ?c4 ?c5 ?_)
                case c1 => exact HN.out
                case c2 => intro u hu; simp at hu; subst hu; rfl
                case c3 => unfold maxLen; omega
                case c4 => omega
                case c5 => simp; omega
                intro v' w5 hown' hgrow _ hat
                have HI5 := Lib.hid (HI4.out.push hown' hgrow (by simpa using hat))
                clear HB4 HN hown' hgrow hat HI4
                go_wp2
                go_roundw
                case rel => exact ⟨c + 1, by omega, by go_num, Lib.hid (by rw [HSS.out]; exact HI5.out), HX2⟩
                case measure => simp [intOf]; omega
            · skip
              have HY1 := Lib.hid (HOD.out hpp)
              have HZ1 := Lib.hid (show z = 1 by rw [HZ.out, if_neg hdn])
              have e0 : ((c : Int) % 2 == 1) = true := by simp; omega
              have e1 : decide (D < 0) = false := by simpa using hdn
              have HVL := Lib.hid (show z * y = -d by rw [HZ1.out, HY1.out]; omega)
              clear HY1 HZ1 HOD HEV HZ HZO
              by_cases hle : -d ≤ 0
              · have HX2 := Lib.hid (HNO.out (by rw [HVL.out]; omega))
                clear HNO HNX
                go_wp2_with fail
                refine HC.out.mono ?_
                rintro e w4 ⟨rfl, hb⟩
                have HI4 := Lib.hid (HI3.out.next hb)
                clear hb HC HI3 HIR3
                have HB5 := Lib.hid (below_up HB1.out HI4.out.up)
                go_wp2
                go_ret2
                exact .inr ⟨HX2.out, _, rfl, HB5.out⟩
              · have HX2 := Lib.hid (HNX.out (by rw [HVL.out]; omega))
                clear HNO HNX
                go_wp2_with fail
                refine HC.out.mono ?_
                rintro e w4 ⟨rfl, hb⟩
                have HI4 := Lib.hid (HI3.out.next hb)
                clear hb HC HI3 HIR3
                rw [HVL.out] at HSS
                have hyl : (sgL (kY a r r p) z c).length ≤ 3 := by rw [HSL.out]; omega
                have HYY2 := Lib.hid (show sgL (kY a r r p) z c = sgL (kY a r r p) z c from rfl)
                generalize sgL (kY a r r p) z c = ys at *
                have hb := below_alloc w4 (.cells #[iv (-d)] 3)
                have HB4 := Lib.hid ((HI4.out.bi.below hb).own)
                have HN := Lib.hid (cell_one_new w4 (iv (-d)) 3)
                have hwz := HI4.out.up.size
                clear hb
                go_wp2_with (at_builtin; refine wpList_append_own_at _ rfl _ _ 24 rfl w1.heap.size 3 i0 (.int .i64 0) 1 8 Try.underlying24 hi0 hz0 hz1 hz2 rfl (by decide) _ ys.length (ys.map iv) rfl HB4.out ⟨w4.heap.size, 0, none⟩ 1 1 [iv (-d)] rfl rfl ?c1 ?c2 ?c3 ?c4 ?c5 ?_)
                case c1 => exact HN.out
                case c2 => intro u hu; simp at hu; subst hu; rfl
                case c3 => unfold maxLen; omega
                case c4 => omega
                case c5 => simp; omega
                intro v' w5 hown' hgrow _ hat
                have HI5 := Lib.hid (HI4.out.push hown' hgrow (by simpa using hat))
                clear HB4 HN hown' hgrow hat HI4
                go_wp2
                go_roundw
                case rel => exact ⟨c + 1, by omega, by go_num, Lib.hid (by rw [HSS.out]; exact HI5.out), HX2⟩
                case measure => simp [intOf]; omega
          · by_cases hdn : D < 0
            · skip
              have HY1 := Lib.hid (HEV.out hpp)
              have HZ1 := Lib.hid (show z = -1 by rw [HZ.out, if_pos hdn])
              have e0 : ((c : Int) % 2 == 1) = false := by simp; omega
              have e1 : decide (D < 0) = true := by simpa using hdn
              have HVL := Lib.hid (show z * y = -d by rw [HZ1.out, HY1.out]; omega)
              clear HY1 HZ1 HOD HEV HZ HZO
              by_cases hle : -d ≤ 0
              · have HX2 := Lib.hid (HNO.out (by rw [HVL.out]; omega))
                clear HNO HNX
                go_wp2_with fail
                refine HC.out.mono ?_
                rintro e w4 ⟨rfl, hb⟩
                have HI4 := Lib.hid (HI3.out.next hb)
                clear hb HC HI3 HIR3
                have HB5 := Lib.hid (below_up HB1.out HI4.out.up)
                go_wp2
                go_ret2
                exact .inr ⟨HX2.out, _, rfl, HB5.out⟩
              · have HX2 := Lib.hid (HNX.out (by rw [HVL.out]; omega))
                clear HNO HNX
                go_wp2_with fail
                refine HC.out.mono ?_
                rintro e w4 ⟨rfl, hb⟩
                have HI4 := Lib.hid (HI3.out.next hb)
                clear hb HC HI3 HIR3
                rw [HVL.out] at HSS
                have hyl : (sgL (kY a r r p) z c).length ≤ 3 := by rw [HSL.out]; omega
                have HYY2 := Lib.hid (show sgL (kY a r r p) z c = sgL (kY a r r p) z c from rfl)
                generalize sgL (kY a r r p) z c = ys at *
                have hb := below_alloc w4 (.cells #[iv (-d)] 3)
                have HB4 := Lib.hid ((HI4.out.bi.below hb).own)
                have HN := Lib.hid (cell_one_new w4 (iv (-d)) 3)
                have hwz := HI4.out.up.size
                clear hb
                go_wp2_with (at_builtin; refine wpList_append_own_at _ rfl _ _ 24 rfl w1.heap.size 3 i0 (.int .i64 0) 1 8 Try.underlying24 hi0 hz0 hz1 hz2 rfl (by decide) _ ys.length (ys.map iv) rfl HB4.out ⟨w4.heap.size, 0, none⟩ 1 1 [iv (-d)] rfl rfl ?c1 ?c2 ?c3 ?c4 ?c5 ?_)
                case c1 => exact HN.out
                case c2 => intro u hu; simp at hu; subst hu; rfl
                case c3 => unfold maxLen; omega
                case c4 => omega
                case c5 => simp; omega
                intro v' w5 hown' hgrow _ hat
                have HI5 := Lib.hid (HI4.out.push hown' hgrow (by simpa using hat))
                clear HB4 HN hown' hgrow hat HI4
                go_wp2
                go_roundw
                case rel => exact ⟨c + 1, by omega, by go_num, Lib.hid (by rw [HSS.out]; exact HI5.out), HX2⟩
                case measure => simp [intOf]; omega
            · skip
              have HY1 := Lib.hid (HEV.out hpp)
              have HZ1 := Lib.hid (show z = 1 by rw [HZ.out, if_neg hdn])
              have e0 : ((c : Int) % 2 == 1) = false := by simp; omega
              have e1 : decide (D < 0) = false := by simpa using hdn
              have HVL := Lib.hid (show z * y = d by rw [HZ1.out, HY1.out]; omega)
              clear HY1 HZ1 HOD HEV HZ HZO
              by_cases hle : d ≤ 0
              · have HX2 := Lib.hid (HNO.out (by rw [HVL.out]; omega))
                clear HNO HNX
                go_wp2_with fail
                refine HC.out.mono ?_
                rintro e w4 ⟨rfl, hb⟩
                have HI4 := Lib.hid (HI3.out.next hb)
                clear hb HC HI3 HIR3
                have HB5 := Lib.hid (below_up HB1.out HI4.out.up)
                go_wp2
                go_ret2
                exact .inr ⟨HX2.out, _, rfl, HB5.out⟩
              · have HX2 := Lib.hid (HNX.out (by rw [HVL.out]; omega))
                clear HNO HNX
                go_wp2_with fail
                refine HC.out.mono ?_
                rintro e w4 ⟨rfl, hb⟩
                have HI4 := Lib.hid (HI3.out.next hb)
                clear hb HC HI3 HIR3
                rw [HVL.out] at HSS
                have hyl : (sgL (kY a r r p) z c).length ≤ 3 := by rw [HSL.out]; omega
                have HYY2 := Lib.hid (show sgL (kY a r r p) z c = sgL (kY a r r p) z c from rfl)
                generalize sgL (kY a r r p) z c = ys at *
                have hb := below_alloc w4 (.cells #[iv (d)] 3)
                have HB4 := Lib.hid ((HI4.out.bi.below hb).own)
                have HN := Lib.hid (cell_one_new w4 (iv (d)) 3)
                have hwz := HI4.out.up.size
                clear hb
                go_wp2_with (at_builtin; refine wpList_append_own_at _ rfl _ _ 24 rfl w1.heap.size 3 i0 (.int .i64 0) 1 8 Try.underlying24 hi0 hz0 hz1 hz2 rfl (by decide) _ ys.length (ys.map iv) rfl HB4.out ⟨w4.heap.size, 0, none⟩ 1 1 [iv (d)] rfl rfl ?c1 ?c2 ?c3 ?c4 ?c5 ?_)
                case c1 => exact HN.out
                case c2 => intro u hu; simp at hu; subst hu; rfl
                case c3 => unfold maxLen; omega
                case c4 => omega
                case c5 => simp; omega
                intro v' w5 hown' hgrow _ hat
                have HI5 := Lib.hid (HI4.out.push hown' hgrow (by simpa using hat))
                clear HB4 HN hown' hgrow hat HI4
                go_wp2
                go_roundw
                case rel => exact ⟨c + 1, by omega, by go_num, Lib.hid (by rw [HSS.out]; exact HI5.out), HX2⟩
                case measure => simp [intOf]; omega
        · obtain rfl : c = p := by omega
          have HLV := Lib.hid (show LevP (kY a r r c) from lev_of HZO.out (fun q hq => HALL.out q (by rw [HYL.out] at hq; exact hq)))
          have HSL := Lib.hid (sgL_len (kY a r r c) z c)
          have HCL := Lib.hid (show ClrP (sgL (kY a r r c) z c) from (LevP.clr (.inl fun q hq => by rw [sgL_len] at hq; rw [gi_sgL hq]; exact HALL.out q hq) (by rw [sgL_len]; omega)))
          have HMD := Lib.hid (show ∀ q, q < (sgL (kY a r r c) z c).length → Mid (gi (sgL (kY a r r c) z c) q) from fun q hq => by
            rw [sgL_len] at hq; rw [gi_sgL hq]
            have := HYB.out q hq
            unfold Mid
            rcases HZO.out with e | e <;> rw [e] <;> omega)
          have HSB := Lib.hid (show ∀ y ∈ sgL (kY a r r c) z c, -1000000000000000 ≤ y ∧ y ≤ 1000000000000000 from fun y hy => by
            obtain ⟨q, hq, rfl⟩ := List.mem_map.1 hy
            have := HYB.out q (List.mem_range.1 hq)
            rcases HZO.out with e | e <;> rw [e] <;> omega)
          have HIN := Lib.hid (HI.out.ints (by rw [HSL.out]; omega) HSB.out)
          have HB2 := Lib.hid (below_up HB1.out HI.out.up)
          have HSR := Lib.hid (shr_sgL (X := kY a r r c) HZO.out (n := n) (r := r) HYL.out)
          have HSV := Lib.hid (shr_VS (n := n) (kY_len a r r c) (by rw [← HL.out]; exact HR.out) (HLV.out.clr (by rw [kY_len]; omega)) (fun q hq => HYB.out q (by rw [HYL.out] at hq; exact hq)))
          have HC := Lib.hid (cleared_any Av _ cv _ wr HIN.out HMD.out (by rw [HSL.out]; exact hk))
          clear HSB HI HMD
          rw [HSL.out] at HC HIN ⊢
          go_wp2_with fail
          refine HC.out.mono ?_
          rintro e w2 hcl
          obtain ⟨A2, n2, c2, g2_, rfl, hn2, ho, hb⟩ : ∃ Av nq cq gg, e = .returned (.tuple #[.slice Av nq cq, .bool true]) ∧ nq = (sgL (kY a r r c) z c).length ∧ OwnI wr.heap.size w2.heap.size w2 gg Av nq cq (clrL (sgL (kY a r r c) z c) (gcdL (sgL (kY a r r c) z c) (sgL (kY a r r c) z c).length) (sgL (kY a r r c) z c).length) ∧ Below wr.heap.size wr w2 := by
            rcases hcl with ⟨_, h⟩ | ⟨h, _⟩
            · exact h
            · exact absurd HCL.out h
          rw [HSL.out] at hn2
          subst hn2
          have HO2 := Lib.hid ho.ints
          have HB3 := Lib.hid (below_up HB2.out hb)
          clear hcl ho hb HC HIN HB2
          have HC := Lib.hid (spread_any n n2 c2 cx A2 _ _ r w2 HO2.out ⟨HX.out.ints.keep (Keep.below HB3.out), HX.out.lt⟩ (by omega) hk)
          go_wp2_with fail
          refine HC.out.mono ?_
          rintro e w3 ⟨A3, n3, c3, g3, rfl, hn3', ho, hb⟩
          have HB4 := Lib.hid (below_up HB3.out hb)
          have hsz := HB3.out.size
          have HO3 := Lib.hid (show OwnI w.heap.size w3.heap.size w3 g3 A3 n3 c3 (shr n r (kY a r r n2) n2) from by
            rw [← HSR.out]; exact ho.mono hsz (Nat.le_refl _))
          obtain rfl : n3 = n := hn3'.trans (putL_len _ _ _ _)
          clear hn3' ho hb HC HB3 HO2 hsz
          have HC := Lib.hid (fits_any b o rb ro cc n3 c c3 A3 a _ w3 (HT.out.keep (Keep.below HB4.out)) HO3.out.ints (fun j hj => HSV.out.2.1 j (by rw [show (shr n3 r (kY a r r n2) n2).length = n3 from putL_len _ _ _ _]; exact hj)))
          have HRP := Lib.hid (show pb (RestP a (shr n3 r (kY a r r n2) n2) n3) = pb (LevAt a n2 r) from pb_congr (by
            unfold LevAt; rw [HL.out]; exact ⟨fun h => ⟨HLV.out, h⟩, fun h => h.2⟩))
          rw [HRP.out] at HC
          go_wp2_with fail
          refine HC.out.mono ?_
          rintro e w4 ⟨rfl, hb⟩
          have HB5 := Lib.hid (below_up HB4.out hb)
          have HO5 := Lib.hid ((HO3.out.below hb).mono (Nat.le_refl _) hb.size)
          clear hb HC HB4 HO3
          go_wp2
          go_ret2
          exact newW_of HL.out HO5.out HB5.out
end Go.Proofs.Ytlgnpfpdmjhhbaa

/- The rests of a table, by the model. -/
namespace Go.Proofs.Ytlgnpfpdmjhhbaa
open Go.RowKit
open V (sumN detN rowC colC cofN minorN skip sgn Asc)

theorem shl_val' {n : Nat} (h : n ≤ 3) : ∃ P : Nat, wrap64 ((2 : Int) ^ n) = (P : Int) ∧ P = 2 ^ n := by
  refine ⟨2 ^ n, ?_, rfl⟩
  have : n = 0 ∨ n = 1 ∨ n = 2 ∨ n = 3 := by omega
  rcases this with rfl | rfl | rfl | rfl <;> (unfold wrap64; decide)
theorem NewT.from {w w1 w2 : World} {xss : List (List Int)} {e : Ending} (h : Below w.heap.size w w1) (k : NewT w1 xss e w2) : NewT w xss e w2 := by
  obtain ⟨A, n, c, g, e1, e2, ho, hb⟩ := k
  exact ⟨A, n, c, g, e1, e2, ho.mono h.size (Nat.le_refl _), below_up h hb⟩
theorem TM.new {wb vs xss w} {A : Option Addr} {n c : Nat} (h : TM wb (.slice A n c) vs xss w) (hm : xss.length ≤ 100) : NewT wb xss (.returned (.slice A n c)) w := by
  obtain ⟨A', n', c', gg, e, hn', hown⟩ := h.bo.owns (by omega)
  injection e with e1 e2 e3
  subst e1
  subst e2
  subst e3
  exact ⟨_, _, _, gg, rfl, hn', hown, h.up⟩
theorem NewT.none {w w' : World} {xss : List (List Int)} (h : Below w.heap.size w w') (hx : xss = []) : NewT w xss (.returned (.slice none 0 0)) w' := by
  subst hx
  exact ⟨_, _, _, 0, rfl, rfl, OwnR.nil _ _ _ _, h⟩
theorem resF_yes {a : List (List Int)} (h : VQ a) : resF a = resR a 8 := by unfold resF; rw [if_pos (pb_true h)]
theorem resF_no {a : List (List Int)} (h : ¬ VQ a) : resF a = [] := by unfold resF; rw [if_neg (by rw [pb_false h]; decide)]

set_option maxRecDepth 100000 in
set_option maxHeartbeats 3200000 in
theorem RestsOn_spec (A : Option Addr) (n c : Nat) (a : List (List Int)) (w : World) (hx : IntRows w A n c a) :
    Calls Try.prog 50 #[.slice A n c] w (NewT w (resF a)) := by
  have HX := Lib.hid hx
  have hl := hx.len
  by_cases hv : VQ a
  · have HC := Lib.hid (pb_true hv ▸ validSquare_any A n c a w hx)
    have HF := Lib.hid (resF_yes hv)
    have HV := Lib.hid hv
    have HL := Lib.hid hl
    have hn3 : n ≤ 3 := by have := hv.1.n3; omega
    obtain ⟨P, hP, hP2⟩ := shl_val' hn3
    have HP2 := Lib.hid hP2
    obtain ⟨b, o, rb, ro, cc, rfl, tab⟩ := hx.tab hv.1
    rw [show (gr a 0).length = n by rw [← hv.2, hl]] at tab
    have HT0 := Lib.hid tab
    clear hx hl hv hP2 tab
    go_enter Try.func50, Try.ntmps50
    go_wp2_with fail
    refine HC.out.mono ?_
    rintro e w1 ⟨rfl, hq⟩
    have HB0 := Lib.hid (show Below w.heap.size w w1 from hq.below)
    have HT1 := Lib.hid (HT0.out.keep (Keep.quiet hq))
    have HS0 := Lib.hid (show TM w1 _ [] (resR a 1) _ from by rw [resR_one]; exact TM.start w1)
    clear hq HC HX HT0
    go_wp2
    go_loopw [3, 4] (fun v i wr => ∃ (s : Nat) (vs : List Value), 1 ≤ s ∧ s ≤ 8 ∧ i = .int .i64 s ∧ Hid (TM w1 v vs (resR a s) wr)) (fun _ i _ => 8 - (intOf i).toNat)
    case atStart => exact ⟨1, [], by omega, by omega, rfl, HS0⟩
    case round =>
      clear HS0
      obtain ⟨s, vs, hs1, hs8, rfl, HTM⟩ := hrel
      obtain ⟨Av, cv, rfl⟩ := HTM.out.bo.form
      by_cases hlt : s < 8
      · have HC := Lib.hid (members_any s n wr (by omega) (by omega))
        go_wp2_with fail
        refine HC.out.mono ?_
        rintro e w2 ⟨Ao, k, co, go_, rfl, hk, ho, hb⟩
        have HO := Lib.hid (memL_pl ho.ints hk)
        have HK := Lib.hid hk
        have HTM2 := Lib.hid (HTM.out.next hb)
        have hk3 : k ≤ 3 := by have := memL_le s n; omega
        clear ho hb HC HTM hk
        by_cases hsp : s < P
        · have hk1 : 1 ≤ k := by rw [HK.out]; exact memL_ge s hlt n (by omega) hs1 (by rw [← HP2.out]; exact hsp)
          have hkz : ((k : Int) == 0) = false := by simp; omega
          have hsd : decide ((P : Int) ≤ (s : Int)) = false := by simp; omega
          have HAS := Lib.hid (show Asc n k (idx s n) from by rw [HK.out]; exact idx_asc s n)
          have HLV : Hid (LvP a s ↔ LevAt a k (idx s n)) := Lib.hid (by
            unfold LvP
            rw [HL.out, ← HK.out]
            exact ⟨fun h => h.2.2, fun h => ⟨hs1, by rw [← HP2.out]; exact hsp, h⟩⟩)
          have HEQ : Hid (lvl a s = shr a.length (idx s n) (kY a (idx s n) (idx s n) k) k) := Lib.hid (by unfold lvl; rw [HL.out, ← HK.out])
          have HC := Lib.hid (restOn_any b o rb ro cc n c k co Ao a (idx s n) w2 (HT1.out.keep (Keep.below HTM2.out.up)) HO.out HV.out HL.out hk1 hk3 HAS.out)
          go_wp2_with fail
          refine HC.out.mono ?_
          rintro e w3 hnew
          clear HC
          by_cases hlv : LevAt a k (idx s n)
          · obtain ⟨A1, c1, g1, rfl, ho, hb⟩ : ∃ A1 c1 g, e = .returned (.tuple #[.slice A1 a.length c1, .bool true]) ∧ OwnI w2.heap.size w3.heap.size w3 g A1 a.length c1 (shr a.length (idx s n) (kY a (idx s n) (idx s n) k) k) ∧ Below w2.heap.size w2 w3 := by
              rcases hnew with ⟨_, h⟩ | ⟨h, _⟩
              · exact h
              · exact absurd hlv h
            have HMS := Lib.hid (resR_yes (HLV.out.2 hlv))
            rw [← HEQ.out] at ho
            have HLL := Lib.hid (lvl_len a s)
            have HTL := Lib.hid (resR_len a s)
            rw [← HLL.out] at ho
            rw [← HLL.out]
            have HO3 := Lib.hid ho
            have HB3 := Lib.hid hb
            have hb2 := below_alloc w3 (.cells #[.slice A1 (lvl a s).length c1] 24)
            have HB4 := Lib.hid ((HTM2.out.next hb).bo.below hb2).own
            have HN := Lib.hid (cell_one_new w3 (.slice A1 (lvl a s).length c1) 24)
            have hlh : w1.heap.size ≤ w3.heap.size := Nat.le_trans HTM2.out.up.size hb.size
            have hll3 : (lvl a s).length ≤ 3 := by rw [HLL.out, HL.out]; exact hn3
            clear hb ho hb2 hnew hlv HLV HEQ HLL
            generalize lvl a s = ys at *
            generalize resR a s = ms at *
            obtain ⟨i0, hi0, hz0, hz1, hz2⟩ := info_parts Try.info_row
            go_wp2_with (at_builtin; refine wpList_append_own_at _ rfl _ _ 22 rfl w1.heap.size 24 i0 (.slice none 0 0) 1 24 Try.underlying22 hi0 hz0 hz1 hz2 rfl (by decide) _ ms.length vs rfl HB4.out ⟨w3.heap.size, 0, none⟩ 1 1 [.slice A1 ys.length c1] rfl rfl ?d1 ?d2 ?d3 ?d4 ?d5 ?_)
            case d1 => exact HN.out
            case d2 => intro u hu; simp at hu; subst hu; rfl
            case d3 => have := HTL.out; unfold maxLen; omega
            case d4 => have := HTL.out; omega
            case d5 => simp; omega
            intro v' w5 hown' hgrow _ hat
            have HT5 := Lib.hid (HTM2.out.push HB3.out HO3.out hown' hgrow (by simpa using hat))
            clear HB4 HN hown' hgrow hat HTM2 HO3
            go_wp2
            go_roundw
            case rel => exact ⟨s + 1, _, by omega, by omega, by go_num, Lib.hid (by rw [HMS.out]; exact HT5.out)⟩
            case measure => simp [intOf]; omega
          · obtain ⟨v, rfl, hb⟩ : ∃ v, e = .returned (.tuple #[v, .bool false]) ∧ Below w2.heap.size w2 w3 := by
              rcases hnew with ⟨h, _⟩ | ⟨_, h⟩
              · exact absurd h hlv
              · exact h
            have HMS := Lib.hid (resR_no (fun h => hlv (HLV.out.1 h)))
            have HTM3 := Lib.hid (HTM2.out.next hb)
            clear hnew hlv hb HLV HEQ HTM2
            go_wp2
            go_roundw
            case rel => exact ⟨s + 1, _, by omega, by omega, by go_num, Lib.hid (by rw [HMS.out]; exact HTM3.out)⟩
            case measure => simp [intOf]; omega
        · have HMS := Lib.hid (resR_no (a := a) (s := s) (fun h => by have := h.2.1; rw [HL.out, ← HP2.out] at this; omega))
          have hsd : decide ((P : Int) ≤ (s : Int)) = true := by simp; omega
          by_cases hk0 : k = 0
          · have hkz : ((k : Int) == 0) = true := by simp; omega
            have HK0 := Lib.hid hk0
            clear hk0
            go_wp2
            go_roundw
            case rel => exact ⟨s + 1, _, by omega, by omega, by go_num, Lib.hid (by rw [HMS.out]; exact HTM2.out)⟩
            case measure => simp [intOf]; omega
          · have hkz : ((k : Int) == 0) = false := by simp; omega
            go_wp2
            go_roundw
            case rel => exact ⟨s + 1, _, by omega, by omega, by go_num, Lib.hid (by rw [HMS.out]; exact HTM2.out)⟩
            case measure => simp [intOf]; omega
      · obtain rfl : s = 8 := by omega
        have HNW := Lib.hid (NewT.from HB0.out (HTM.out.new (by have := resR_len a 8; omega)))
        go_wp2
        go_ret
        rw [HF.out]
        exact HNW.out
  · have HC := Lib.hid (pb_false hv ▸ validSquare_any A n c a w hx)
    have HF := Lib.hid (resF_no hv)
    clear hx hl hv
    go_enter Try.func50, Try.ntmps50
    go_wp2_with fail
    refine HC.out.mono ?_
    rintro e w1 ⟨rfl, hq⟩
    go_wp2
    go_ret
    exact NewT.none hq.below HF.out
end Go.Proofs.Ytlgnpfpdmjhhbaa

/- Members of sets; numbers put to their places: by the program. -/
namespace Go.Proofs.Ytlgnpfpdmjhhbaa
open Go.RowKit

theorem and_one : ∀ s, s < 8 → ∀ k, k < 3 → (bits BinOp.and IntKind.i64 (((s : Nat) : Int) / 2 ^ k) 1 == 1) = (s / 2 ^ k % 2 == 1) := by decide +kernel
set_option maxHeartbeats 1000000 in
theorem membersOf_any (s : Nat) (w : World) (hs : s < 8) : Calls Try.prog 92 #[.int .i64 s] w (NewI w (memL s 3)) := by
  have HS0 := Lib.hid (IU.nil w)
  have HA := Lib.hid (and_one s hs)
  go_enter Try.func92, Try.ntmps92
  go_wp2
  go_loopw [3, 5] (fun v i wr => ∃ k : Nat, k ≤ 3 ∧ i = .int .i64 k ∧ Hid (IU w v (memL s k) wr)) (fun _ i _ => 3 - (intOf i).toNat)
  case atStart => exact ⟨0, Nat.zero_le _, rfl, HS0⟩
  case round =>
    clear HS0
    obtain ⟨k, hk, rfl, HI⟩ := hrel
    obtain ⟨Av, cv, rfl⟩ := HI.out.bi.form
    by_cases hlt : k < 3
    · have hand := HA.out k hlt
      by_cases hp : s / 2 ^ k % 2 = 1
      · have HCS := Lib.hid (memL_yes hp)
        have HML := Lib.hid (memL_le s k)
        rw [show (s / 2 ^ k % 2 == 1) = true by simpa using hp] at hand
        clear hp
        have hb := below_alloc wr (.cells #[iv (k : Int)] 3)
        have HB4 := Lib.hid (HI.out.bi.below hb).own
        have HN := Lib.hid (cell_one_new wr (iv (k : Int)) 3)
        have hwz := HI.out.up.size
        clear hb
        generalize memL s k = ys at *
        obtain ⟨i0, hi0, hz0, hz1, hz2⟩ := info_parts Try.info_int
        go_wp2_with (at_builtin; refine wpList_append_own_at _ rfl _ _ 24 rfl w.heap.size 3 i0 (.int .i64 0) 1 8 Try.underlying24 hi0 hz0 hz1 hz2 rfl (by decide) _ ys.length (ys.map iv) rfl HB4.out ⟨wr.heap.size, 0, none⟩ 1 1 [iv (k : Int)] rfl rfl ?c1 ?c2 ?c3 ?c4 ?c5 ?_)
        case c1 => exact HN.out
        case c2 => intro u hu; simp at hu; subst hu; rfl
        case c3 => have := HML.out; unfold maxLen; omega
        case c4 => have := HML.out; omega
        case c5 => simp; omega
        intro v' w5 hown' hgrow _ hat
        have HI5 := Lib.hid (HI.out.push hown' hgrow (by simpa using hat))
        clear HB4 HN hown' hgrow hat HI hand
        go_wp2
        go_roundw
        case rel => exact ⟨k + 1, by omega, by go_num, Lib.hid (by rw [HCS.out]; exact HI5.out)⟩
        case measure => simp [intOf]; omega
      · have HCS := Lib.hid (memL_no hp)
        rw [show (s / 2 ^ k % 2 == 1) = false by simpa using hp] at hand
        clear hp
        go_wp2
        go_roundw
        case rel => exact ⟨k + 1, by omega, by go_num, Lib.hid (by rw [HCS.out]; exact HI.out)⟩
        case measure => simp [intOf]; omega
    · obtain rfl : k = 3 := by omega
      have HNW := Lib.hid (HI.out.new (by have := memL_le s 3; omega) (memb_bd s 3 (by omega)))
      go_wp2
      go_ret
      exact HNW.out

set_option maxRecDepth 100000 in
set_option maxHeartbeats 2000000 in
theorem spreadI_any (n k cx cy : Nat) (X Y : Option Addr) (xs : List Int) (r : Nat → Nat) (w : World) (hx : Ints w X k cx xs) (hy : Pl w Y k cy r n) (hn : n ≤ 3) (hk3 : k ≤ 3) (hm : ∀ p, p < xs.length → Mid (gi xs p)) (hc : ClrP xs) :
    Calls Try.prog 112 #[.slice X k cx, .slice Y k cy, .int .i64 n] w (NewI w (shr n r xs k)) := by
  have HX := Lib.hid hx
  have HY := Lib.hid hy
  have HM := Lib.hid hm
  have HLX := Lib.hid hx.len
  have hg0 : 0 < gcdL xs k := by have := clr_pos hc; rwa [hx.len] at this
  have HS0 := Lib.hid (SU.start w n (by omega))
  have hmk := run_make_row' (P := Try.prog) 24 3 (.int .i64 0) 8 Try.underlying24 Try.info3 rfl .i64 .i64 n (by omega) (by omega)
  have HC := Lib.hid (fun W (k : Keep w W) => commonFactor_any _ _ _ _ W (hx.keep k) hm)
  clear hx hy hm hc
  have HSH : Hid (shr n r xs k = putL n r (clrL xs (gcdL xs k) k) k) := Lib.hid (by unfold shr; rw [HLX.out])
  rw [HSH.out]
  have HGM := gcdL_mid HM.out (k := k) (Nat.le_of_eq HLX.out.symm)
  obtain ⟨mg1, mg2⟩ := HGM
  clear HSH
  generalize gcdL xs k = G at *
  have hgz : (G == 0) = false := by simp; omega
  have hgn : ¬ (G = 0) := by omega
  have HZ : Hid (List.replicate n 0 = putL n r (clrL xs G k) 0) := Lib.hid rfl
  rw [HZ.out] at HS0
  clear HZ
  go_enter Try.func112, Try.ntmps112
  go_wp2_with fail
  refine (HC.out _ (Keep.below HS0.out.up)).mono ?_
  rintro e w2 ⟨rfl, hq⟩
  have HS1 := Lib.hid (HS0.out.qu hq)
  clear hq HC HS0 hmk
  go_wp2
  go_loopw [17] (fun i wr => ∃ p : Nat, p ≤ k ∧ i = .int .i64 p ∧ Hid (SU w n (putL n r (clrL xs G k) p) wr)) (fun i _ => k - (intOf i).toNat)
  case atStart => exact ⟨0, Nat.zero_le _, rfl, HS1⟩
  case round =>
    clear HS1
    obtain ⟨p, hp, rfl, HS⟩ := hrel
    by_cases hlt : p < k
    · obtain ⟨bx, ox, rfl, hcx⟩ := HX.out.at_ (by omega)
      obtain ⟨by_, oy, rfl, hcy⟩ := HY.out.ints.at_ (by omega)
      have c1 := hcx p hlt
      have c2 := hcy p hlt
      rw [gi_lstN hlt] at c2
      have hrp := HY.out.lt p hlt
      have d1 := Keep.below HS.out.up _ _ c1
      have d2 := Keep.below HS.out.up _ _ c2
      have d3 := HS.out.cell hrp
      have d4 := HS.out.frozen hrp
      have hmx := HM.out p (by rw [HLX.out]; exact hlt)
      have HE : Hid ((putL n r (clrL xs G k) p).set (r p) (max (gi xs p) (-(gi xs p)) / G) = putL n r (clrL xs G k) (p + 1)) := Lib.hid (by rw [putL, gi_clrL hlt])
      have HV := Lib.hid (show -1000000000000000 ≤ max (gi xs p) (-(gi xs p)) / G ∧ max (gi xs p) (-(gi xs p)) / G ≤ 1000000000000000 from by
        unfold Mid at hmx
        have h1 : 0 ≤ max (gi xs p) (-(gi xs p)) / G := Int.ediv_nonneg (by omega) (by omega)
        have h2 : max (gi xs p) (-(gi xs p)) / G ≤ max (gi xs p) (-(gi xs p)) := Int.ediv_le_self _ (by omega)
        omega)
      obtain ⟨m1, m2⟩ := hmx
      clear hcx hcy c1 c2
      generalize r p = R at *
      generalize gi xs p = x at *
      have HW : Hid ((if x < -x then -x else x) / G = max x (-x) / G) := Lib.hid (by congr 1; split <;> omega)
      have HN := Lib.hid (show SU w n (putL n r (clrL xs G k) (p + 1)) (wr.setCell ⟨w.heap.size, R, none⟩ (.int .i64 ((if x < -x then -x else x) / G))).drew from by
        rw [HW.out, ← HE.out]
        exact (HS.out.set hrp (v := max x (-x) / G) (by have := HV.out; omega)).qu ⟨1, rfl⟩)
      generalize gi (putL n r (clrL xs G k) p) R = y at *
      clear HS HE HV
      go_wp2
      go_region
      all_goals
        clear d1 d2 d3 d4
        go_wp2
        go_roundw
        case rel => exact ⟨p + 1, by omega, by go_num, HN⟩
        case measure => simp [intOf]; omega
    · obtain rfl : p = k := by omega
      have HNW := Lib.hid (HS.out.new (putL_len _ _ _ _).symm)
      go_wp2
      go_ret
      exact HNW.out
end Go.Proofs.Ytlgnpfpdmjhhbaa

/- The rests of a table, by the program. -/
namespace Go.Proofs.Ytlgnpfpdmjhhbaa
open Go.RowKit
open V (sumN detN rowC colC cofN minorN skip sgn Asc)

theorem mid_of' {x : Int} (h : -648 ≤ x ∧ x ≤ 648) : Mid x := by unfold Mid; omega
theorem lf_ab {a : List (List Int)} (v : VT a) (h : a.length = (gr a 0).length) {r : Nat → Nat} {k : Nat} (hr : Asc a.length k r) : Ab k (lf a r) := fun p q hp hq => by
  have := v.bd (hr.1 p hp) (j := r q) (by have := hr.1 q hq; omega)
  unfold lf; omega

/-- Shares of some strategies at which these have as much; or none. -/
def NewLS (w : World) (a : List (List Int)) (n k : Nat) (r : Nat → Nat) (e : Ending) (w' : World) : Prop :=
  (LevP (kY a r r k) ∧ NewI w (shr n r (kY a r r k) k) e w') ∨ (¬ LevP (kY a r r k) ∧ e = .returned (.slice none 0 0) ∧ Below w.heap.size w w')

set_option maxRecDepth 100000 in
set_option maxHeartbeats 4000000 in
theorem levelShares_any (A X : Option Addr) (n c k cx : Nat) (a : List (List Int)) (r : Nat → Nat) (w : World) (ha : IntRows w A n c a) (hq : VQ a) (hx : Pl w X k cx r n) (h1 : 1 ≤ k) (hk3 : k ≤ 3) (hr : Asc n k r) :
    Calls Try.prog 91 #[.slice A n c, .slice X k cx] w (NewLS w a n k r) := by
  have HX := Lib.hid hx
  have HV := Lib.hid hq
  have hl := ha.len
  have HR := Lib.hid (show Asc a.length k r by rw [hl]; exact hr)
  have hn3 : n ≤ 3 := by have := hq.1.n3; omega
  obtain ⟨b, o, rb, ro, cc, rfl, tab⟩ := ha.tab hq.1
  rw [show (gr a 0).length = n by rw [← hq.2, hl]] at tab
  have HT := Lib.hid tab
  have HAB := Lib.hid (lf_ab hq.1 hq.2 HR.out)
  have HLY := Lib.hid (lf_kY a r hk3)
  have HYL := Lib.hid (kY_len a r r k)
  have HYB := Lib.hid (fun p (hp : p < (kY a r r k).length) => mid_of' (kY_bd hq.1 hk3 HR.out (by rw [← hq.2]; exact HR.out) (p := p) hp))
  clear ha hq hx hr hl tab
  have HC := Lib.hid (partOf_any b o rb ro cc n n c k k cx cx X X a r r 0 w HT.out HX.out HX.out hk3 hk3 (by omega) (by omega))
  go_enter Try.func91, Try.ntmps91
  go_wp2_with fail
  refine HC.out.mono ?_
  rintro e w1 ⟨A1, n1, c1, g1, rfl, hn1', ho, hb⟩
  have HSQ := Lib.hid (show Sq k (prtL a r r 0 k k) (lf a r) from prtL_sq a r r 0 k)
  have HO1 := Lib.hid ho.rows
  have HB1 := Lib.hid hb
  obtain rfl : n1 = k := hn1'.trans HSQ.out.len
  clear hn1' ho hb HC
  have HC := Lib.hid (cofactorsM_any n1 hk3 (by omega) A1 c1 _ _ w1 HO1.out HSQ.out HAB.out)
  go_wp2_with fail
  refine HC.out.mono ?_
  rintro e w3 ⟨A3, n3, c3, g3, rfl, hn3', ho, hb⟩
  have HF := Lib.hid ho.rows
  have HB3 := Lib.hid (below_up HB1.out hb)
  obtain rfl : n3 = n1 := hn3'.trans (cofM_len _ _ _)
  clear hn3' ho hb HC HB1 HO1
  have HSF := Lib.hid (cofM_sq n3 (lf a r))
  have HCB := Lib.hid (fun i j (hi : i < n3) (hj : j < n3) => cof_bd hk3 HAB.out hi hj)
  obtain ⟨b3, o3, rb3, ro3, cc3, rfl, tx⟩ := HF.out.tabX HSF.out (by omega) (fun i j hi hj => by have := HCB.out i j hi hj; omega)
  have HTX := Lib.hid tx
  clear tx
  have HC := Lib.hid (turnedX_any b3 o3 rb3 ro3 cc3 n3 c3 _ w3 HTX.out (by omega) hk3)
  go_wp2_with fail
  refine HC.out.mono ?_
  rintro e w5 ⟨rfl, ho, hb, -⟩
  have HG := Lib.hid ho.rows
  have HB5 := Lib.hid (below_up HB3.out hb)
  clear ho hb HC HB3 HF HTX
  have HSO := Lib.hid (show ∀ p, p < n3 → SumOk (gr (flip (cofM n3 (lf a r) n3) n3 n3) p) from fun p hp => by
    rw [gr_flip hp]; exact sumOk_of (by simp; omega) (fun x hx => by
      obtain ⟨i, hi, rfl⟩ := List.mem_map.1 hx
      have hi := List.mem_range.1 hi
      rw [HSF.out.eq i p hi hp]; have := HCB.out i p hi hp; omega))
  generalize w3.heap.size = h3 at *
  have HC := Lib.hid (rowSums_any _ n3 n3 _ w5 HG.out hk3 HSO.out)
  rw [rsL_flip hk3, HLY.out] at HC
  go_wp2_with fail
  refine HC.out.mono ?_
  rintro e w6 ⟨A6, n6, c6, g6, rfl, hn6, ho, hb⟩
  have HY6 := Lib.hid (show Ints w6 A6 n6 c6 (kY a r r n3) from ho.ints)
  have HB6 := Lib.hid (below_up HB5.out hb)
  obtain rfl : n6 = n3 := hn6.trans HYL.out
  clear hn6 ho hb HC HB5 HG HSO HSF HCB HSQ
  have HLB := Lib.hid (levB_iff (xs := kY a r r n6) (by rw [HYL.out]; omega))
  have HC := Lib.hid (Min_any A6 n6 c6 _ w6 HY6.out (by omega))
  have HCL : Hid (LevP (kY a r r n6) → ClrP (kY a r r n6)) := Lib.hid (fun h => h.clr (by rw [HYL.out]; omega))
  have HSP := Lib.hid (fun (h : LevP (kY a r r n6)) (W : World) (k : Keep w6 W) => spreadI_any n n6 c6 cx A6 X _ r W (HY6.out.keep k) ⟨HX.out.ints.keep (Keep.trans (Keep.below HB6.out) k), HX.out.lt⟩ hn3 hk3 HYB.out (HCL.out h))
  clear HYB HCL
  by_cases hm : lst (kY a r r n6) ≤ 0
  · have HCM := Lib.hid (fun q => Max_any A6 n6 c6 _ (w6.drewN q) (HY6.out.keep (Keep.drewN w6 q)) (by omega))
    by_cases hx : 0 ≤ mxl (kY a r r n6)
    · have HNO := Lib.hid (show ¬ LevP (kY a r r n6) from fun h => by
        have := HLB.out.2 h
        unfold levB at this
        rw [decide_eq_true hm, decide_eq_true hx] at this; cases this)
      clear HLB HSP
      generalize mxl (kY a r r n6) = M at *
      generalize lst (kY a r r n6) = L at *
      go_wp2_with fail
      refine HC.out.mono ?_
      rintro e w7 ⟨rfl, q, rfl⟩
      have HC := Lib.hid (HCM.out q)
      clear HCM
      go_wp2_with fail
      refine HC.out.mono ?_
      rintro e w8 ⟨rfl, q2, rfl⟩
      go_wp2
      go_ret
      exact .inr ⟨HNO.out, rfl, below_quiet HB6.out ⟨q + q2, rfl⟩⟩
    · have HYES := Lib.hid (show LevP (kY a r r n6) from HLB.out.1 (by unfold levB; rw [decide_eq_false hx, Bool.and_false]))
      clear HLB
      have HSW := Lib.hid (HSP.out HYES.out)
      clear HSP
      generalize mxl (kY a r r n6) = M at *
      generalize lst (kY a r r n6) = L at *
      go_wp2_with fail
      refine HC.out.mono ?_
      rintro e w7 ⟨rfl, q, rfl⟩
      have HC := Lib.hid (HCM.out q)
      clear HCM
      go_wp2_with fail
      refine HC.out.mono ?_
      rintro e w8 ⟨rfl, q2, rfl⟩
      have HB8 := Lib.hid (below_quiet HB6.out ⟨q + q2, rfl⟩)
      have HC := Lib.hid (HSW.out _ (Keep.drewN w6 (q + q2)))
      go_wp2_with fail
      refine HC.out.mono ?_
      rintro e w9 hnew
      obtain ⟨A9, n9, c9, g9, rfl, hn9, ho, hb⟩ := hnew
      have HN := Lib.hid (NewI.from HB8.out ⟨A9, n9, c9, g9, rfl, hn9, ho, hb⟩)
      clear hn9 ho hb HC
      go_wp2
      go_ret
      exact .inl ⟨HYES.out, HN.out⟩
  · have HYES := Lib.hid (show LevP (kY a r r n6) from HLB.out.1 (by unfold levB; rw [decide_eq_false hm, Bool.false_and]))
    clear HLB
    have HSW := Lib.hid (HSP.out HYES.out)
    clear HSP
    generalize lst (kY a r r n6) = L at *
    go_wp2_with fail
    refine HC.out.mono ?_
    rintro e w7 ⟨rfl, q, rfl⟩
    have HB8 := Lib.hid (below_quiet HB6.out ⟨q, rfl⟩)
    have HC := Lib.hid (HSW.out _ (Keep.drewN w6 q))
    go_wp2_with fail
    refine HC.out.mono ?_
    rintro e w9 hnew
    obtain ⟨A9, n9, c9, g9, rfl, hn9, ho, hb⟩ := hnew
    have HN := Lib.hid (NewI.from HB8.out ⟨A9, n9, c9, g9, rfl, hn9, ho, hb⟩)
    clear hn9 ho hb HC
    go_wp2
    go_ret
    exact .inl ⟨HYES.out, HN.out⟩

set_option maxRecDepth 100000 in
set_option maxHeartbeats 3200000 in
theorem RestsOn_impl (A : Option Addr) (n c : Nat) (a : List (List Int)) (w : World) (hx : IntRows w A n c a) :
    Calls Try.prog 51 #[.slice A n c] w (NewT w (resF a)) := by
  have HX := Lib.hid hx
  have hl := hx.len
  by_cases hv : VQ a
  · have HC := Lib.hid (pb_true hv ▸ ValidSquare_impl A n c a w hx)
    have HV := Lib.hid hv
    have HL := Lib.hid hl
    have hn3 : n ≤ 3 := by have := hv.1.n3; omega
    have hn1 : 1 ≤ n := by have := hv.1.n1; omega
    obtain ⟨P, hP, hP2⟩ := shl_val' hn3
    have hP8 : P ≤ 8 := by rw [hP2]; exact pow_le8 hn3
    have hP1 : 1 ≤ P := by rw [hP2]; exact Nat.one_le_two_pow
    have HP2 := Lib.hid hP2
    have HF := Lib.hid (show resF a = resR a P by rw [resF_yes hv, resR_all (by omega), hl, hP2])
    clear hx hl hv hP2
    go_enter Try.func51, Try.ntmps51
    go_wp2_with fail
    refine HC.out.mono ?_
    rintro e w1 ⟨rfl, hq⟩
    have HB0 := Lib.hid (show Below w.heap.size w w1 from hq.below)
    have HX1 := Lib.hid (HX.out.keep (Keep.quiet hq))
    have HS0 := Lib.hid (show TM w1 (.slice none 0 0) [] (resR a 1) w1 from by rw [resR_one]; exact TM.nil w1)
    clear hq HC HX
    go_wp2
    go_loopw [3, 4] (fun v i wr => ∃ (s : Nat) (vs : List Value), 1 ≤ s ∧ s ≤ P ∧ i = .int .i64 s ∧ Hid (TM w1 v vs (resR a s) wr)) (fun _ i _ => 8 - (intOf i).toNat)
    case atStart => exact ⟨1, [], by omega, by omega, rfl, HS0⟩
    case round =>
      clear HS0
      obtain ⟨s, vs, hs1, hs8, rfl, HTM⟩ := hrel
      obtain ⟨Av, cv, rfl⟩ := HTM.out.bo.form
      by_cases hlt : s < P
      · have hlt' : (s : Int) < (P : Int) := by omega
        have HC := Lib.hid (membersOf_any s wr (by omega))
        rw [memL_all3 s (by omega) n (by omega) (by rw [← HP2.out]; exact hlt)] at HC
        go_wp2_with fail
        refine HC.out.mono ?_
        rintro e w2 ⟨Ao, k, co, go_, rfl, hk, ho, hb⟩
        have HO := Lib.hid (memL_pl ho.ints hk)
        have HK := Lib.hid hk
        have HTM2 := Lib.hid (HTM.out.next hb)
        have hk3 : k ≤ 3 := by have := memL_le s n; omega
        have hk1 : 1 ≤ k := by rw [hk]; exact memL_ge s (by omega) n (by omega) hs1 (by rw [← HP2.out]; exact hlt)
        clear ho hb HC HTM hk
        have HAS := Lib.hid (show Asc n k (idx s n) from by rw [HK.out]; exact idx_asc s n)
        have HLV : Hid (LvP a s ↔ LevAt a k (idx s n)) := Lib.hid (by
          unfold LvP
          rw [HL.out, ← HK.out]
          exact ⟨fun h => h.2.2, fun h => ⟨hs1, by rw [← HP2.out]; exact hlt, h⟩⟩)
        have HEQ : Hid (lvl a s = shr n (idx s n) (kY a (idx s n) (idx s n) k) k) := Lib.hid (by unfold lvl; rw [HL.out, ← HK.out])
        have HC := Lib.hid (levelShares_any A Ao n c k co a (idx s n) w2 (HX1.out.keep (Keep.below HTM2.out.up)) HV.out HO.out hk1 hk3 HAS.out)
        go_wp2_with fail
        refine HC.out.mono ?_
        rintro e w3 hnew
        clear HC
        by_cases hlv : LevP (kY a (idx s n) (idx s n) k)
        · obtain ⟨A1, n1, c1, g1, rfl, hn1', ho, hb⟩ : NewI w2 (shr n (idx s n) (kY a (idx s n) (idx s n) k) k) e w3 := by
            rcases hnew with ⟨_, h⟩ | ⟨h, _⟩
            · exact h
            · exact absurd hlv h
          rw [← HEQ.out] at ho hn1'
          have HLL := Lib.hid (lvl_len a s)
          have HTL := Lib.hid (resR_len a s)
          subst hn1'
          have HO3 := Lib.hid ho
          have HB3 := Lib.hid hb
          have HTM3 := Lib.hid (HTM2.out.next hb)
          have HVS := Lib.hid (show VS (lvl a s) a.length from by
            rw [HEQ.out, HL.out]
            exact shr_VS (kY_len _ _ _ _) HAS.out (hlv.clr (by rw [kY_len]; omega)) (fun p hp => kY_bd HV.out.1 hk3 (by rw [HL.out]; exact HAS.out) (by rw [← HV.out.2, HL.out]; exact HAS.out) hp))
          have HRQ : Hid (RQ a (lvl a s) ↔ LvP a s) := Lib.hid (by
            rw [HLV.out]
            unfold LevAt
            refine ⟨fun h => ⟨hlv, ?_⟩, fun h => ⟨HV.out, HVS.out, ?_⟩⟩
            · have := h.r; rw [HEQ.out] at this; rw [HL.out] at this ⊢; exact this
            · have := h.2; rw [HEQ.out]; rw [HL.out] at this ⊢; exact this)
          have HC := Lib.hid (IsRest_impl A n c a A1 _ c1 (lvl a s) w3 (HX1.out.keep (Keep.below HTM3.out.up)) ho.ints)
          have hll3 : (lvl a s).length ≤ 3 := by rw [HLL.out, HL.out]; exact hn3
          clear hb ho hnew hlv HLV HEQ HLL HVS HTM3
          by_cases hr : LvP a s
          · have HMS := Lib.hid (resR_yes hr)
            rw [pb_true (HRQ.out.2 hr)] at HC
            clear hr HRQ
            generalize lvl a s = ys at *
            generalize resR a s = ms at *
            go_wp2_with fail
            refine HC.out.mono ?_
            rintro e w4 ⟨rfl, hb⟩
            have HB4' := Lib.hid (below_up HB3.out hb)
            have HO4 := Lib.hid ((HO3.out.below hb).mono (Nat.le_refl _) hb.size)
            have hb2 := below_alloc w4 (.cells #[.slice A1 ys.length c1] 24)
            have HB4 := Lib.hid ((HTM2.out.next HB4'.out).bo.below hb2).own
            have HN := Lib.hid (cell_one_new w4 (.slice A1 ys.length c1) 24)
            have hlh : w1.heap.size ≤ w4.heap.size := Nat.le_trans HTM2.out.up.size HB4'.out.size
            clear hb hb2 HC HB3 HO3
            obtain ⟨i0, hi0, hz0, hz1, hz2⟩ := info_parts Try.info_row
            go_wp2_with (at_builtin; refine wpList_append_own_at _ rfl _ _ 22 rfl w1.heap.size 24 i0 (.slice none 0 0) 1 24 Try.underlying22 hi0 hz0 hz1 hz2 rfl (by decide) _ ms.length vs rfl HB4.out ⟨w4.heap.size, 0, none⟩ 1 1 [.slice A1 ys.length c1] rfl rfl ?d1 ?d2 ?d3 ?d4 ?d5 ?_)
            case d1 => exact HN.out
            case d2 => intro u hu; simp at hu; subst hu; rfl
            case d3 => have := HTL.out; unfold maxLen; omega
            case d4 => have := HTL.out; omega
            case d5 => simp; omega
            intro v' w5 hown' hgrow _ hat
            have HT5 := Lib.hid (HTM2.out.push HB4'.out HO4.out hown' hgrow (by simpa using hat))
            clear HB4 HN hown' hgrow hat HTM2 HO4
            go_wp2
            go_roundw
            case rel => exact ⟨s + 1, _, by omega, by omega, by go_num, Lib.hid (by rw [HMS.out]; exact HT5.out)⟩
            case measure => simp [intOf]; omega
          · have HMS := Lib.hid (resR_no hr)
            rw [pb_false (fun h => hr (HRQ.out.1 h))] at HC
            clear hr HRQ
            generalize lvl a s = ys at *
            go_wp2_with fail
            refine HC.out.mono ?_
            rintro e w4 ⟨rfl, hb⟩
            have HTM4 := Lib.hid ((HTM2.out.next HB3.out).next hb)
            clear hb HC HB3 HO3 HTM2
            go_wp2
            go_roundw
            case rel => exact ⟨s + 1, _, by omega, by omega, by go_num, Lib.hid (by rw [HMS.out]; exact HTM4.out)⟩
            case measure => simp [intOf]; omega
        · obtain ⟨rfl, hb⟩ : e = .returned (.slice none 0 0) ∧ Below w2.heap.size w2 w3 := by
            rcases hnew with ⟨h, _⟩ | ⟨_, h⟩
            · exact absurd h hlv
            · exact h
          have HMS := Lib.hid (resR_no (fun h => hlv (HLV.out.1 h).1))
          have HTM3 := Lib.hid (HTM2.out.next hb)
          have HC := Lib.hid (IsRest_impl A n c a none 0 0 [] w3 (HX1.out.keep (Keep.below HTM3.out.up)) (OwnI.nil 0 0 w3 0).ints)
          rw [pb_false (p := RQ a []) (fun h => by have := h.s.1; rw [HL.out] at this; simp at this; omega)] at HC
          clear hnew hlv hb HLV HEQ HTM2
          go_wp2_with fail
          refine HC.out.mono ?_
          rintro e w4 ⟨rfl, hb⟩
          have HTM4 := Lib.hid (HTM3.out.next hb)
          clear hb HC HTM3
          go_wp2
          go_roundw
          case rel => exact ⟨s + 1, _, by omega, by omega, by go_num, Lib.hid (by rw [HMS.out]; exact HTM4.out)⟩
          case measure => simp [intOf]; omega
      · obtain rfl : s = P := by omega
        have HNW := Lib.hid (NewT.from HB0.out (HTM.out.new (by have := resR_len a s; omega)))
        have hlt' : ¬ (s : Int) < (s : Int) := by omega
        go_wp2
        go_ret
        rw [HF.out]
        exact HNW.out
  · have HC := Lib.hid (pb_false hv ▸ ValidSquare_impl A n c a w hx)
    have HF := Lib.hid (resF_no hv)
    clear hx hl hv
    go_enter Try.func51, Try.ntmps51
    go_wp2_with fail
    refine HC.out.mono ?_
    rintro e w1 ⟨rfl, hq⟩
    go_wp2
    go_ret
    exact NewT.none hq.below HF.out
theorem resF_offs (a : List (List Int)) : offs (resF a) (resF a).length ≤ 1000000 := by
  by_cases h : VQ a
  · rw [resF_yes h]
    have h1 := resR_len a 8
    have h3 : ∀ r ∈ resR a 8, r.length ≤ 3 := fun r hr => by
      obtain ⟨s, _, _, rfl⟩ := mem_resR.1 hr
      rw [lvl_len]; exact h.1.n3
    have h2 := offs_le h3 _ (Nat.le_refl (resR a 8).length)
    omega
  · rw [resF_no h]; simp [offs]
end Go.Proofs.Ytlgnpfpdmjhhbaa

