/- Texts merged: K8 K9 Z5 W7 K5 A6 Z6 G1 G2 G7 G7b H1 Y2 G8 D4. -/
import Derived.Test.YtoekpbcdgmejcaaQ7
import Derived.Laws.CopyOwn
/- The next shares, by both programs. -/
namespace Go.Proofs.Ytoekpbcdgmejcaa
open Go.RowKit

/-- What the next shares are to each other. -/
def nxV (a : List (List Int)) (x : List Int) (n i : Nat) : Int := gi x i * dotr a x i n
def nxL (a : List (List Int)) (x : List Int) (n k : Nat) : List Int := (List.range k).map (nxV a x n)
theorem nxL_succ (a : List (List Int)) (x : List Int) (n k : Nat) : nxL a x n (k + 1) = nxL a x n k ++ [nxV a x n k] := by simp [nxL, List.range_succ]
theorem nxL_len (a : List (List Int)) (x : List Int) (n k : Nat) : (nxL a x n k).length = k := by simp [nxL]
theorem gi_nxL {a : List (List Int)} {x : List Int} {n k i : Nat} (h : i < k) : gi (nxL a x n k) i = nxV a x n i := gi_range h
theorem VQ.len2' {a : List (List Int)} {n : Nat} (v : VQ a) (hl : a.length = n) : (gr a 0).length = n := by have := v.2; omega
theorem dotr_pos {a : List (List Int)} {x : List Int} {i n : Nat} (ha : ∀ j, j < n → 1 ≤ g2 a i j) (hx : ∀ j, j < n → 0 ≤ gi x j) : ∀ {k}, k ≤ n → sm x k ≤ dotr a x i k
  | 0, _ => Int.le_refl _
  | k + 1, h => by
    have h1 := dotr_pos ha hx (k := k) (by omega)
    have h2 := ha k (by omega)
    have h3 := hx k (by omega)
    have h4 : 1 * gi x k ≤ g2 a i k * gi x k := Int.mul_le_mul_of_nonneg_right h2 h3
    simp only [sm, dotr]
    omega
/-- A field and shares. -/
structure FS (a : List (List Int)) (x : List Int) (n : Nat) : Prop where
  f : VF a
  s : VS x (n : Int)
  l : a.length = n
theorem FS.n3 {a x n} (h : FS a x n) : 1 ≤ n ∧ n ≤ 3 := by have := h.f.q.1.n1; have := h.f.q.1.n3; have := h.l; omega
theorem FS.xl {a x n} (h : FS a x n) : x.length = n := by have := h.s.1; omega
theorem FS.x {a x n} (h : FS a x n) : ∀ j, j < n → 0 ≤ gi x j ∧ gi x j ≤ 1000 := VS.bds h.s
theorem FS.a {a x n} (h : FS a x n) {i j : Nat} (hi : i < n) (hj : j < n) : 1 ≤ g2 a i j ∧ g2 a i j ≤ 9 := by
  have hl := h.l
  have h1 := h.f.p i j (by omega) (by omega)
  have h2 := h.f.q.1.bd (i := i) (j := j) (by omega) (by have := h.f.q.2; omega)
  omega
theorem FS.dot {a x n} (h : FS a x n) {i : Nat} (hi : i < n) : 1 ≤ dotr a x i n ∧ dotr a x i n ≤ 27000 := by
  have h0 := h.n3
  have h1 := dotr_pos (a := a) (x := x) (i := i) (n := n) (fun j hj => (h.a hi hj).1) (fun j hj => (h.x j hj).1) (Nat.le_refl n)
  have h2 := dotr_bd (a := a) (w := x) (i := i) (m := n) (fun j hj => by have := h.a hi hj; omega) h.x (Nat.le_refl n)
  have h3 := h.s.2.2
  unfold tot at h3
  rw [h.xl] at h3
  omega
theorem FS.nx {a x n} (h : FS a x n) {i : Nat} (hi : i < n) : 0 ≤ nxV a x n i ∧ nxV a x n i ≤ 27000000 ∧ (0 < gi x i → 0 < nxV a x n i) := by
  have h1 := h.dot hi
  have h2 := h.x i hi
  unfold nxV
  have h3 : 0 * dotr a x i n ≤ gi x i * dotr a x i n := Int.mul_le_mul_of_nonneg_right h2.1 (by omega)
  have h4 : gi x i * dotr a x i n ≤ 1000 * 27000 := Int.mul_le_mul h2.2 h1.2 (by omega) (by omega)
  exact ⟨by omega, by omega, fun h => Int.mul_pos h (by omega)⟩
theorem sm_has {x : List Int} : ∀ {k}, (∀ j, j < k → 0 ≤ gi x j) → 0 < sm x k → ∃ j, j < k ∧ 0 < gi x j
  | 0, _, h => by simp [sm] at h
  | k + 1, hp, h => by
    by_cases e : 0 < gi x k
    · exact ⟨k, by omega, e⟩
    · have h1 := hp k (by omega)
      obtain ⟨j, hj, hp'⟩ := sm_has (x := x) (k := k) (fun j hj => hp j (by omega)) (by simp only [sm] at h; omega)
      exact ⟨j, by omega, hp'⟩
theorem FS.clr {a x n} (h : FS a x n) : ClrP (nxL a x n n) ∧ 0 < gcdL (nxL a x n n) n := by
  have h0 := h.s.2.2
  unfold tot at h0
  rw [h.xl] at h0
  obtain ⟨j, hj, hp⟩ := sm_has (fun j hj => (h.x j hj).1) h0
  have hc : ClrP (nxL a x n n) := by
    refine ⟨⟨j, by rw [nxL_len]; exact hj, ?_⟩, .inl fun p hp => ?_⟩
    · rw [gi_nxL hj]; have := (h.nx hj).2.2 hp; omega
    · rw [nxL_len] at hp; rw [gi_nxL hp]; exact (h.nx hp).1
  exact ⟨hc, (clr_yes (nxL_len a x n n) hc).1⟩
theorem FS.mid {a x n} (h : FS a x n) : ∀ p, p < (nxL a x n n).length → Mid (gi (nxL a x n n) p) := fun p hp => by
  rw [nxL_len] at hp
  rw [gi_nxL hp]
  have := h.nx hp
  unfold Mid
  omega
/-- What NextShares answers. -/
noncomputable def nsF (a : List (List Int)) (x : List Int) : List Int := if pb (VF a ∧ VS x a.length) = true then clrL (nxL a x a.length a.length) (gcdL (nxL a x a.length a.length) a.length) a.length else []
theorem nsF_yes {a : List (List Int)} {x : List Int} {n : Nat} (h : FS a x n) : nsF a x = clrL (nxL a x n n) (gcdL (nxL a x n n) n) n := by
  unfold nsF; rw [if_pos (pb_true ⟨h.f, by rw [h.l]; exact h.s⟩), h.l]
theorem nsF_no {a : List (List Int)} {x : List Int} (h : ¬ (VF a ∧ VS x a.length)) : nsF a x = [] := by unfold nsF; rw [if_neg (by rw [pb_false h]; decide)]
theorem FS.of {a : List (List Int)} {x : List Int} {n : Nat} (hl : a.length = n) (hf : VF a) (hs : VS x (n : Int)) : FS a x n := ⟨hf, hs, hl⟩
theorem nsF_le (a : List (List Int)) (x : List Int) : (nsF a x).length ≤ 100 := by
  by_cases h : VF a ∧ VS x a.length
  · have hf : FS a x a.length := ⟨h.1, h.2, rfl⟩
    have := hf.n3
    rw [nsF_yes hf, clrL_len]; omega
  · rw [nsF_no h]; simp

set_option maxRecDepth 100000 in
set_option maxHeartbeats 3200000 in
theorem next_any (b o : Nat) (rb ro cc : Nat → Nat) (n c cx : Nat) (X : Option Addr) (a : List (List Int)) (x : List Int) (w : World) (ht : Tab w b o rb ro cc n n a) (hx : Ints w X n cx x) (hf : FS a x n) :
    Calls Try.prog 75 #[.slice (some ⟨b, o, none⟩) n c, .slice X n cx] w (NewI w (nsF a x)) := by
  have HT := Lib.hid ht
  have HX := Lib.hid hx
  have HF := Lib.hid hf
  have hn1 := ht.n1
  have hn3 := ht.n3
  have HPB := Lib.hid (fun i => (⟨ht.bd, onl_bds n i, hf.x⟩ : PB a (onl n i) x n n))
  have HPU := Lib.hid (fun i (hi : i < n) => payU_alone a x n n i hi)
  have HNS := Lib.hid (nsF_yes hf)
  obtain ⟨bx, ox, rfl, hcx⟩ := hx.at_ (by omega)
  have HCX := Lib.hid hcx
  obtain ⟨i0, hi0, hz0, hz1, hz2⟩ := info_parts Try.infoI
  have HS0 := Lib.hid (IU.start w)
  have HZ : Hid (nxL a x n 0 = []) := Lib.hid rfl
  clear ht hx hf hcx
  go_enter Try.func75, Try.ntmps75
  go_wp2
  go_loopw [5, 6] (fun v i wr => ∃ k : Nat, k ≤ n ∧ i = .int .i64 k ∧ Hid (IU w v (nxL a x n k) wr)) (fun _ i _ => n - (intOf i).toNat)
  case atStart => exact ⟨0, Nat.zero_le _, rfl, Lib.hid (by rw [HZ.out]; exact HS0.out)⟩
  case round =>
    clear HS0 HZ
    obtain ⟨k, hk, rfl, HI⟩ := hrel
    obtain ⟨Av, cv, rfl⟩ := HI.out.bi.form
    by_cases hlt : k < n
    · have c1 := Keep.below HI.out.up _ _ (HCX.out k hlt)
      have HC0 := Lib.hid c1
      have HCS := Lib.hid (nxL_succ a x n k)
      have HML := Lib.hid (nxL_len a x n k)
      obtain ⟨d1, d2⟩ := HF.out.dot hlt
      obtain ⟨x1, x2⟩ := HF.out.x k hlt
      have hnv := HF.out.nx hlt
      have HNV : Hid (nxV a x n k = gi x k * dotr a x k n) := Lib.hid rfl
      rw [HNV.out] at hnv
      obtain ⟨v1, v2, -⟩ := hnv
      have hyl : (nxL a x n k).length ≤ 3 := by have := HML.out; omega
      generalize nxL a x n k = ys at *
      have HP := Lib.hid (HPU.out k hlt)
      generalize dotr a x k n = D at *
      have HW : Hid (IntKind.i64.wrap (gi x k * D) = gi x k * D) := Lib.hid (wrap_in64 (by omega))
      go_wp2
      go_region_law ((first
        | (refine step_append_lies _ (by rfl) _ _ _ (by rfl) w.heap.size 3 i0 _ 1 8 Try.underlying26 hi0 hz0 hz1 hz2 rfl (by omega) (.slice Av ys.length cv) ys.length (ys.map iv) (by rfl) (HI3.out.bi.own.alloc _) ⟨w3.heap.size, 0, none⟩ 1 1 [iv (IntKind.i64.wrap (gi x k * D))] (by rfl) (by rfl) (World.news_of_block (w := w3.alloc (.cells #[iv (IntKind.i64.wrap (gi x k * D))] 3)) (cs := #[iv (IntKind.i64.wrap (gi x k * D))]) (t := 3) (fr := (0, 0)) (heap_alloc_new w3 _)) (by simp [Value.oneCell', iv]) (by omega) (by unfold maxLen; omega) (by omega) (by simp; omega) (w3.heap.size + 1) (by simp) ?_; intro gg cap w1 hown1 hgrow hat hlt1; rw [HW.out] at hown1; have HI4 := Lib.hid (HI3.out.push2 (below_alloc w3 _) hown1 hgrow hlt1); have k9 := Keep.below HI4.out.up _ _ (HCX.out k hlt); clear hown1 hgrow hat hlt1 HI3)
        | (go_simp; go_at_call 84; refine (alone_spec n k _ (by omega) hlt).mono ?_; rintro e w2 ⟨rfl, ho, hb⟩; have HI2 := Lib.hid ((HI.out.qu ⟨1, rfl⟩).next hb); have HO := Lib.hid ho.ints; have k5 := Keep.below HI2.out.up _ _ (HCX.out k hlt); clear ho hb HI)
        | (go_simp; go_at_call 81; refine (HP.out ▸ payUp_any b o rb ro cc n n c n cx _ _ a (onl n k) x w2 (HT.out.keep (Keep.below HI2.out.up)) HO.out (HX.out.keep (Keep.below HI2.out.up)) (HPB.out k)).mono ?_; rintro e w3 ⟨rfl, hq⟩; have HI3 := Lib.hid (HI2.out.qu hq); have k6 := Keep.below HI3.out.up _ _ (HCX.out k hlt); have k7 : (w3.alloc (.cells #[.int .i64 (IntKind.i64.wrap (gi x k * D))] 3)).cell? ⟨bx, ox + k, none⟩ = some (.int .i64 (gi x k)) := (by rw [World.cell?_alloc_lt _ _ _ (World.block_lt_of_cell? _ _ k6)]; exact k6); have hwz := HI3.out.up.size; clear hq HI2)))
      all_goals
        clear k5 k6 k7 k9 c1
        go_wp2
        go_roundw
        case rel => exact ⟨k + 1, by omega, by go_num, Lib.hid (by rw [HCS.out, HNV.out]; first | exact HI4.out | exact HI4.out.qu ⟨1, rfl⟩ | exact HI4.out.qu ⟨_, rfl⟩)⟩
        case measure => simp [intOf]; omega
    · obtain rfl : k = n := by omega
      have HML := Lib.hid (nxL_len a x k k)
      have HUP := Lib.hid HI.out.up
      have HCL := Lib.hid HF.out.clr
      have HMD := Lib.hid HF.out.mid
      have HIN := Lib.hid (HI.out.ints (by rw [nxL_len]; omega) (fun y hy => by obtain ⟨p, hp, rfl⟩ := mem_gi hy; have := HF.out.mid p hp; unfold Mid at this; omega))
      have hyl : (nxL a x k k).length ≤ 3 := by have := HML.out; omega
      clear HI
      generalize nxL a x k k = ys at *
      have HC := Lib.hid (cleared_any _ _ _ ys wr HIN.out HMD.out hyl)
      go_wp2_with fail
      refine HC.out.mono ?_
      rintro e w2 hnc
      rcases hnc with ⟨_, Av2, n2, c2, gg, rfl, hn2, ho, hb⟩ | ⟨h, _⟩
      · have HB2 := Lib.hid (below_up HUP.out hb)
        have HNW : Hid (NewI w (nsF a x) (.returned (.slice Av2 n2 c2)) w2) := Lib.hid (by
          have ho2 := ho.mono (lo' := w.heap.size) (hi' := w2.heap.size) HUP.out.size (Nat.le_refl _)
          rw [HNS.out]
          rw [HML.out] at ho2
          exact ⟨Av2, n2, c2, gg, rfl, by rw [clrL_len, hn2, HML.out], ho2, HB2.out⟩)
        clear ho hb HC hn2
        go_wp2
        go_ret
        exact HNW.out
      · exact absurd HCL.out.1 h
end Go.Proofs.Ytoekpbcdgmejcaa

/- NextShares, by both programs. -/
namespace Go.Proofs.Ytoekpbcdgmejcaa
open Go.RowKit

theorem NewI.empty {w w' : World} {ys : List Int} (h : Below w.heap.size w w') (hy : ys = []) : NewI w ys (.returned (.slice none 0 0)) w' := by
  subst hy; exact ⟨none, 0, 0, 0, rfl, rfl, OwnI.nil _ _ _ _, h⟩
theorem NewI.from {w w1 w2 : World} {ys : List Int} {e : Ending} (h : Below w.heap.size w w1) (k : NewI w1 ys e w2) : NewI w ys e w2 := by
  obtain ⟨A, n, c, g, he, hn, ho, hb⟩ := k
  exact ⟨A, n, c, g, he, hn, ho.mono h.size (Nat.le_refl _), below_up h hb⟩

set_option maxRecDepth 100000 in
set_option maxHeartbeats 1600000 in
theorem NextShares_spec (A : Option Addr) (n c : Nat) (a : List (List Int)) (X : Option Addr) (nx cx : Nat) (x : List Int) (w : World) (ha : IntRows w A n c a) (hx : Ints w X nx cx x) :
    Calls Try.prog 32 #[.slice A n c, .slice X nx cx] w (NewI w (nsF a x)) := by
  have HX := Lib.hid ha
  have HY := Lib.hid hx
  have hl := ha.len
  have hlx := hx.len
  clear ha hx
  by_cases hv : VF a
  · have HC := Lib.hid (pb_true hv ▸ validField_any A n c a w HX.out)
    have hn3 := hv.q.1.n3
    rw [hl] at hn3
    by_cases hs : VS x (n : Int)
    · have HF := Lib.hid (FS.of hl hv hs)
      have HS := Lib.hid (fun W (k : Keep w W) => pb_true hs ▸ validShares_any X nx cx x (n : Int) W (HY.out.keep k) (by omega))
      have hm := hv.q.len2' hl
      obtain ⟨b, o, rb, ro, cc, rfl, tab⟩ := HX.out.tab hv.q.1
      rw [hm] at tab
      have HT := Lib.hid tab
      obtain rfl : n = nx := by have := hs.1; omega
      clear hm tab hv hs hl hlx
      go_enter Try.func32, Try.ntmps32
      go_wp2_with fail
      refine HC.out.mono ?_
      rintro e w1 ⟨rfl, hq⟩
      have HB1 := Lib.hid (show Below w.heap.size w w1 from hq.below)
      clear hq HC
      have HC := Lib.hid (HS.out w1 (Keep.below HB1.out))
      go_wp2_with fail
      refine HC.out.mono ?_
      rintro e w2 ⟨rfl, hq⟩
      have HB2 := Lib.hid (below_quiet HB1.out hq)
      clear hq HC HB1
      have HC := Lib.hid (next_any b o rb ro cc n c cx X a x w2 (HT.out.keep (Keep.below HB2.out)) (HY.out.keep (Keep.below HB2.out)) HF.out)
      go_wp2_with fail
      refine HC.out.mono ?_
      rintro e w3 hnew
      have HN := Lib.hid (NewI.from HB2.out hnew)
      obtain ⟨A3, n3, c3, g3, rfl, -⟩ := hnew
      clear HC HB2
      go_wp2
      go_ret
      exact HN.out
    · have HN := Lib.hid (nsF_no (a := a) (x := x) (fun h => hs (by have := h.2; rw [hl] at this; exact this)))
      have HS := Lib.hid (fun W (k : Keep w W) => pb_false hs ▸ validShares_any X nx cx x (n : Int) W (HY.out.keep k) (by omega))
      clear hv hs hl hlx
      go_enter Try.func32, Try.ntmps32
      go_wp2_with fail
      refine HC.out.mono ?_
      rintro e w1 ⟨rfl, hq⟩
      have HB1 := Lib.hid (show Below w.heap.size w w1 from hq.below)
      clear hq HC
      have HC := Lib.hid (HS.out w1 (Keep.below HB1.out))
      go_wp2_with fail
      refine HC.out.mono ?_
      rintro e w2 ⟨rfl, hq⟩
      have HB2 := Lib.hid (below_quiet HB1.out hq)
      clear hq HC HB1
      go_wp2
      go_ret
      exact NewI.empty HB2.out HN.out
  · have HC := Lib.hid (pb_false hv ▸ validField_any A n c a w HX.out)
    have HN := Lib.hid (nsF_no (a := a) (x := x) (fun h => hv h.1))
    clear hv hl hlx
    go_enter Try.func32, Try.ntmps32
    go_wp2_with fail
    refine HC.out.mono ?_
    rintro e w1 ⟨rfl, hq⟩
    have HB1 := Lib.hid (show Below w.heap.size w w1 from hq.below)
    clear hq HC
    go_wp2
    go_ret
    exact NewI.empty HB1.out HN.out

theorem blk_row' {w g t cs} (h : Blk w g t cs) (c : Array Value) : Blk (w.setRow g c) g t c := setRow_heap w g cs c t (0, 0) h
set_option maxRecDepth 100000 in
set_option maxHeartbeats 1600000 in
theorem copyOf_any (X : Option Addr) (n cx : Nat) (x : List Int) (w : World) (hx : Ints w X n cx x) (h1 : 1 ≤ n) (h3 : n ≤ 3) :
    Calls Try.prog 71 #[.slice X n cx] w fun e w' => e = .returned (.slice (some ⟨w.heap.size, 0, none⟩) n n) ∧ NX w n w.heap.size x w' := by
  have HX := Lib.hid hx
  have hlx := hx.len
  obtain ⟨bx, ox, rfl, hcx⟩ := hx.at_ (by omega)
  have HCX := Lib.hid hcx
  have hb0 := below_alloc w (.cells #[.int .i64 0, .int .i64 0, .int .i64 0] 80)
  have HK := Lib.hid (Keep.below hb0)
  have HB0 := Lib.hid hb0
  have HBN := Lib.hid (show Blk (w.alloc (.cells #[.int .i64 0, .int .i64 0, .int .i64 0] 80)) w.heap.size 80 [Value.int .i64 0, .int .i64 0, .int .i64 0].toArray from blk_new _ _ _)
  have HSI : Hid ((Try.prog.info? 3).map (·.size) = some 1) := Lib.hid (by kernel_rfl)
  have HLN := Lib.hid (show (x.map iv).length = Nat.min n 3 by rw [List.length_map, hlx]; exact (Nat.min_eq_left h3).symm)
  have HON := Lib.hid (show ∀ v ∈ x.map iv, v.oneCell' = true from fun v hv => by obtain ⟨y, _, rfl⟩ := List.mem_map.1 hv; rfl)
  have HSRC := Lib.hid (show ∀ j v, (x.map iv)[j]? = some v → (w.alloc (.cells #[.int .i64 0, .int .i64 0, .int .i64 0] 80)).cell? ((⟨bx, ox, none⟩ : Addr).add j) = some v from fun j v hv => by
    have hj : j < x.length := by have := (List.getElem?_eq_some_iff.1 hv).1; simpa using this
    rw [getElem_iv hj] at hv
    injection hv with hv
    subst hv
    have hadd : (⟨bx, ox, none⟩ : Addr).add j = ⟨bx, ox + j, none⟩ := by unfold Addr.add; split <;> simp_all
    rw [hadd]
    exact HK.out _ _ (HCX.out j (by omega)))
  have hcp := run_copy_row (P := Try.prog) (w.alloc (.cells #[.int .i64 0, .int .i64 0, .int .i64 0] 80)) 26 26 3 3 w.heap.size 0 3 3 ⟨bx, ox, none⟩ n cx [Value.int .i64 0, .int .i64 0, .int .i64 0].toArray 80 (x.map iv) Try.underlying26 HSI.out HBN.out HLN.out HSRC.out (by simp; omega) HON.out
  have hz : goInt (x.map iv).length = .int .i64 n := by rw [List.length_map, hlx]; rfl
  rw [hz] at hcp
  have HB1 := Lib.hid (blk_row' HBN.out (([Value.int .i64 0, .int .i64 0, .int .i64 0].toArray.toList.take 0 ++ x.map iv ++ [Value.int .i64 0, .int .i64 0, .int .i64 0].toArray.toList.drop (0 + (x.map iv).length)).toArray))
  have HUP := Lib.hid (below_setRow HB0.out (Nat.le_refl w.heap.size) (([Value.int .i64 0, .int .i64 0, .int .i64 0].toArray.toList.take 0 ++ x.map iv ++ [Value.int .i64 0, .int .i64 0, .int .i64 0].toArray.toList.drop (0 + (x.map iv).length)).toArray))
  generalize (w.alloc (.cells #[.int .i64 0, .int .i64 0, .int .i64 0] 80)).setRow w.heap.size (([Value.int .i64 0, .int .i64 0, .int .i64 0].toArray.toList.take 0 ++ x.map iv ++ [Value.int .i64 0, .int .i64 0, .int .i64 0].toArray.toList.drop (0 + (x.map iv).length)).toArray) = W1 at *
  have HNX := Lib.hid (show NX w n w.heap.size x W1 from ⟨⟨⟨hlx, Nat.le_refl _, by omega, HX.out.wf, fun _ => ⟨_, 0, rfl, fun k hk => by
      rw [Nat.zero_add]
      refine blk_cell HB1.out ?_
      rw [← getElem_iv (by omega : k < x.length)]
      simp [List.getElem?_append_left (show k < (x.map iv).length by rw [List.length_map]; omega)]⟩⟩, fun _ => ⟨0, rfl, Nat.le_refl _, blk_lt HB1.out, fun k _ => blk_frozen HB1.out _⟩⟩, HUP.out, Nat.le_refl _⟩)
  clear hx hcx hb0 hz hlx HB1 HUP HBN HON HSRC HLN HB0 HK
  have hn0 : ¬ ((n : Int) < 0) := by omega
  have hn3 : (n : Int) ≤ 3 := by omega
  go_enter Try.func71, Try.ntmps71
  go_wp2
  go_ret
  exact ⟨rfl, HNX.out⟩
end Go.Proofs.Ytoekpbcdgmejcaa

/- The rests of a table, by the model. -/
namespace Go.Proofs.Ytoekpbcdgmejcaa
open Go.RowKit
open V (sumN detN rowC colC cofN minorN skip sgn Asc)

theorem shl_val' {n : Nat} (h : n ≤ 3) : ∃ P : Nat, wrap64 ((2 : Int) ^ n) = (P : Int) ∧ P = 2 ^ n := by
  refine ⟨2 ^ n, ?_, rfl⟩
  have : n = 0 ∨ n = 1 ∨ n = 2 ∨ n = 3 := by omega
  rcases this with rfl | rfl | rfl | rfl <;> (unfold wrap64; decide)
theorem NewT.from {w w1 w2 : World} {xss : List (List Int)} {e : Ending} (h : Below w.heap.size w w1) (k : NewT w1 xss e w2) : NewT w xss e w2 := by
  obtain ⟨A, n, c, g, e1, e2, ho, hb⟩ := k
  exact ⟨A, n, c, g, e1, e2, ho.mono h.size (Nat.le_refl _), below_up h hb⟩
theorem TM.new {wb vs xss w} {A : Option Addr} {n c : Nat} (h : TM wb (.slice A n c) vs xss w) (hm : xss.length ≤ 100) : NewT wb xss (.returned (.slice A n c)) w := by
  obtain ⟨A', n', c', gg, e, hn', hown⟩ := h.bo.owns (by omega)
  injection e with e1 e2 e3
  subst e1
  subst e2
  subst e3
  exact ⟨_, _, _, gg, rfl, hn', hown, h.up⟩
theorem NewT.none {w w' : World} {xss : List (List Int)} (h : Below w.heap.size w w') (hx : xss = []) : NewT w xss (.returned (.slice none 0 0)) w' := by
  subst hx
  exact ⟨_, _, _, 0, rfl, rfl, OwnR.nil _ _ _ _, h⟩
theorem resF_yes {a : List (List Int)} (h : VQ a) : resF a = resR a 8 := by unfold resF; rw [if_pos (pb_true h)]
theorem resF_no {a : List (List Int)} (h : ¬ VQ a) : resF a = [] := by unfold resF; rw [if_neg (by rw [pb_false h]; decide)]

set_option maxRecDepth 100000 in
set_option maxHeartbeats 3200000 in
theorem RestsOn_spec (A : Option Addr) (n c : Nat) (a : List (List Int)) (w : World) (hx : IntRows w A n c a) :
    Calls Try.prog 79 #[.slice A n c] w (NewT w (resF a)) := by
  have HX := Lib.hid hx
  have hl := hx.len
  by_cases hv : VQ a
  · have HC := Lib.hid (pb_true hv ▸ validSquare_any A n c a w hx)
    have HF := Lib.hid (resF_yes hv)
    have HV := Lib.hid hv
    have HL := Lib.hid hl
    have hn3 : n ≤ 3 := by have := hv.1.n3; omega
    obtain ⟨P, hP, hP2⟩ := shl_val' hn3
    have HP2 := Lib.hid hP2
    obtain ⟨b, o, rb, ro, cc, rfl, tab⟩ := hx.tab hv.1
    rw [show (gr a 0).length = n by rw [← hv.2, hl]] at tab
    have HT0 := Lib.hid tab
    clear hx hl hv hP2 tab
    go_enter Try.func79, Try.ntmps79
    go_wp2_with fail
    refine HC.out.mono ?_
    rintro e w1 ⟨rfl, hq⟩
    have HB0 := Lib.hid (show Below w.heap.size w w1 from hq.below)
    have HT1 := Lib.hid (HT0.out.keep (Keep.quiet hq))
    have HS0 := Lib.hid (show TM w1 _ [] (resR a 1) _ from by rw [resR_one]; exact TM.start w1)
    clear hq HC HX HT0
    go_wp2
    go_loopw [3, 4] (fun v i wr => ∃ (s : Nat) (vs : List Value), 1 ≤ s ∧ s ≤ 8 ∧ i = .int .i64 s ∧ Hid (TM w1 v vs (resR a s) wr)) (fun _ i _ => 8 - (intOf i).toNat)
    case atStart => exact ⟨1, [], by omega, by omega, rfl, HS0⟩
    case round =>
      clear HS0
      obtain ⟨s, vs, hs1, hs8, rfl, HTM⟩ := hrel
      obtain ⟨Av, cv, rfl⟩ := HTM.out.bo.form
      by_cases hlt : s < 8
      · have HC := Lib.hid (members_any s n wr (by omega) (by omega))
        go_wp2_with fail
        refine HC.out.mono ?_
        rintro e w2 ⟨Ao, k, co, go_, rfl, hk, ho, hb⟩
        have HO := Lib.hid (memL_pl ho.ints hk)
        have HK := Lib.hid hk
        have HTM2 := Lib.hid (HTM.out.next hb)
        have hk3 : k ≤ 3 := by have := memL_le s n; omega
        clear ho hb HC HTM hk
        by_cases hsp : s < P
        · have hk1 : 1 ≤ k := by rw [HK.out]; exact memL_ge s hlt n (by omega) hs1 (by rw [← HP2.out]; exact hsp)
          have hkz : ((k : Int) == 0) = false := by simp; omega
          have hsd : decide ((P : Int) ≤ (s : Int)) = false := by simp; omega
          have HAS := Lib.hid (show Asc n k (idx s n) from by rw [HK.out]; exact idx_asc s n)
          have HLV : Hid (LvP a s ↔ LevAt a k (idx s n)) := Lib.hid (by
            unfold LvP
            rw [HL.out, ← HK.out]
            exact ⟨fun h => h.2.2, fun h => ⟨hs1, by rw [← HP2.out]; exact hsp, h⟩⟩)
          have HEQ : Hid (lvl a s = shr a.length (idx s n) (kY a (idx s n) (idx s n) k) k) := Lib.hid (by unfold lvl; rw [HL.out, ← HK.out])
          have HC := Lib.hid (restOn_any b o rb ro cc n c k co Ao a (idx s n) w2 (HT1.out.keep (Keep.below HTM2.out.up)) HO.out HV.out HL.out hk1 hk3 HAS.out)
          go_wp2_with fail
          refine HC.out.mono ?_
          rintro e w3 hnew
          clear HC
          by_cases hlv : LevAt a k (idx s n)
          · obtain ⟨A1, c1, g1, rfl, ho, hb⟩ : ∃ A1 c1 g, e = .returned (.tuple #[.slice A1 a.length c1, .bool true]) ∧ OwnI w2.heap.size w3.heap.size w3 g A1 a.length c1 (shr a.length (idx s n) (kY a (idx s n) (idx s n) k) k) ∧ Below w2.heap.size w2 w3 := by
              rcases hnew with ⟨_, h⟩ | ⟨h, _⟩
              · exact h
              · exact absurd hlv h
            have HMS := Lib.hid (resR_yes (HLV.out.2 hlv))
            rw [← HEQ.out] at ho
            have HLL := Lib.hid (lvl_len a s)
            have HTL := Lib.hid (resR_len a s)
            rw [← HLL.out] at ho
            rw [← HLL.out]
            have HO3 := Lib.hid ho
            have HB3 := Lib.hid hb
            have hb2 := below_alloc w3 (.cells #[.slice A1 (lvl a s).length c1] 26)
            have HB4 := Lib.hid ((HTM2.out.next hb).bo.below hb2).own
            have HN := Lib.hid (cell_one_new w3 (.slice A1 (lvl a s).length c1) 26)
            have hlh : w1.heap.size ≤ w3.heap.size := Nat.le_trans HTM2.out.up.size hb.size
            have hll3 : (lvl a s).length ≤ 3 := by rw [HLL.out, HL.out]; exact hn3
            clear hb ho hb2 hnew hlv HLV HEQ HLL
            generalize lvl a s = ys at *
            generalize resR a s = ms at *
            obtain ⟨i0, hi0, hz0, hz1, hz2⟩ := info_parts Try.info_row
            go_wp2_with (at_builtin; refine wpList_append_own_at _ rfl _ _ 23 rfl w1.heap.size 26 i0 (.slice none 0 0) 1 24 Try.underlying23 hi0 hz0 hz1 hz2 rfl (by decide) _ ms.length vs rfl HB4.out ⟨w3.heap.size, 0, none⟩ 1 1 [.slice A1 ys.length c1] rfl rfl ?d1 ?d2 ?d3 ?d4 ?d5 ?_)
            case d1 => exact HN.out
            case d2 => intro u hu; simp at hu; subst hu; rfl
            case d3 => have := HTL.out; unfold maxLen; omega
            case d4 => have := HTL.out; omega
            case d5 => simp; omega
            intro v' w5 hown' hgrow _ hat
            have HT5 := Lib.hid (HTM2.out.push HB3.out HO3.out hown' hgrow (by simpa using hat))
            clear HB4 HN hown' hgrow hat HTM2 HO3
            go_wp2
            go_roundw
            case rel => exact ⟨s + 1, _, by omega, by omega, by go_num, Lib.hid (by rw [HMS.out]; exact HT5.out)⟩
            case measure => simp [intOf]; omega
          · obtain ⟨v, rfl, hb⟩ : ∃ v, e = .returned (.tuple #[v, .bool false]) ∧ Below w2.heap.size w2 w3 := by
              rcases hnew with ⟨h, _⟩ | ⟨_, h⟩
              · exact absurd h hlv
              · exact h
            have HMS := Lib.hid (resR_no (fun h => hlv (HLV.out.1 h)))
            have HTM3 := Lib.hid (HTM2.out.next hb)
            clear hnew hlv hb HLV HEQ HTM2
            go_wp2
            go_roundw
            case rel => exact ⟨s + 1, _, by omega, by omega, by go_num, Lib.hid (by rw [HMS.out]; exact HTM3.out)⟩
            case measure => simp [intOf]; omega
        · have HMS := Lib.hid (resR_no (a := a) (s := s) (fun h => by have := h.2.1; rw [HL.out, ← HP2.out] at this; omega))
          have hsd : decide ((P : Int) ≤ (s : Int)) = true := by simp; omega
          by_cases hk0 : k = 0
          · have hkz : ((k : Int) == 0) = true := by simp; omega
            have HK0 := Lib.hid hk0
            clear hk0
            go_wp2
            go_roundw
            case rel => exact ⟨s + 1, _, by omega, by omega, by go_num, Lib.hid (by rw [HMS.out]; exact HTM2.out)⟩
            case measure => simp [intOf]; omega
          · have hkz : ((k : Int) == 0) = false := by simp; omega
            go_wp2
            go_roundw
            case rel => exact ⟨s + 1, _, by omega, by omega, by go_num, Lib.hid (by rw [HMS.out]; exact HTM2.out)⟩
            case measure => simp [intOf]; omega
      · obtain rfl : s = 8 := by omega
        have HNW := Lib.hid (NewT.from HB0.out (HTM.out.new (by have := resR_len a 8; omega)))
        go_wp2
        go_ret
        rw [HF.out]
        exact HNW.out
  · have HC := Lib.hid (pb_false hv ▸ validSquare_any A n c a w hx)
    have HF := Lib.hid (resF_no hv)
    clear hx hl hv
    go_enter Try.func79, Try.ntmps79
    go_wp2_with fail
    refine HC.out.mono ?_
    rintro e w1 ⟨rfl, hq⟩
    go_wp2
    go_ret
    exact NewT.none hq.below HF.out
end Go.Proofs.Ytoekpbcdgmejcaa

/- Members of sets; numbers put to their places: by the program. -/
namespace Go.Proofs.Ytoekpbcdgmejcaa
open Go.RowKit

theorem and_one : ∀ s, s < 32 → ∀ k, k < 6 → (bits BinOp.and IntKind.i64 (((s : Nat) : Int) / 2 ^ k) 1 == 1) = (s / 2 ^ k % 2 == 1) := by decide +kernel
theorem shr_pos : ∀ s, s < 32 → ∀ k, k < 6 → decide (0 < ((s : Nat) : Int) / 2 ^ k) = decide (0 < s / 2 ^ k) := by decide +kernel
theorem memL_end : ∀ s, s < 32 → ∀ k, k < 6 → ¬ 0 < s / 2 ^ k → memL s k = memL s 5 := by decide +kernel
theorem memL_53 : ∀ s, s < 8 → memL s 5 = memL s 3 := by decide +kernel
set_option maxRecDepth 100000 in
set_option maxHeartbeats 1000000 in
theorem membersOf5_any (s : Nat) (w : World) (hs : s < 32) : Calls Try.prog 52 #[.int .i64 s] w (NewI w (memL s 5)) := by
  have HS0 := Lib.hid (IU.nil w)
  have HA := Lib.hid (and_one s hs)
  have HP := Lib.hid (shr_pos s hs)
  have HE := Lib.hid (memL_end s hs)
  have H5 := Lib.hid (show s / 2 ^ 5 = 0 from Nat.div_eq_of_lt (by omega))
  go_enter Try.func52, Try.ntmps52
  go_wp2
  go_loopw [3, 4] (fun v i wr => ∃ k : Nat, k ≤ 5 ∧ i = .int .i64 k ∧ Hid (IU w v (memL s k) wr)) (fun _ i _ => 5 - (intOf i).toNat)
  case atStart => exact ⟨0, Nat.zero_le _, rfl, HS0⟩
  case round =>
    clear HS0
    obtain ⟨k, hk, rfl, HI⟩ := hrel
    obtain ⟨Av, cv, rfl⟩ := HI.out.bi.form
    have hpos := HP.out k (by omega)
    by_cases hlt : 0 < s / 2 ^ k
    · have hk5 : k < 5 := by
        rcases Nat.lt_or_ge k 5 with h | h
        · exact h
        · obtain rfl : k = 5 := by omega
          rw [H5.out] at hlt; omega
      have hand := HA.out k (by omega)
      rw [show decide (0 < s / 2 ^ k) = true from decide_eq_true hlt] at hpos
      clear hlt
      by_cases hp : s / 2 ^ k % 2 = 1
      · have HCS := Lib.hid (memL_yes hp)
        have HML := Lib.hid (memL_le s k)
        rw [show (s / 2 ^ k % 2 == 1) = true by simpa using hp] at hand
        clear hp
        have hb := below_alloc wr (.cells #[iv (k : Int)] 3)
        have HB4 := Lib.hid (HI.out.bi.below hb).own
        have HN := Lib.hid (cell_one_new wr (iv (k : Int)) 3)
        have hwz := HI.out.up.size
        clear hb
        generalize memL s k = ys at *
        obtain ⟨i0, hi0, hz0, hz1, hz2⟩ := info_parts Try.info_int
        go_wp2_with (at_builtin; refine wpList_append_own_at _ rfl _ _ 26 rfl w.heap.size 3 i0 (.int .i64 0) 1 8 Try.underlying26 hi0 hz0 hz1 hz2 rfl (by decide) _ ys.length (ys.map iv) rfl HB4.out ⟨wr.heap.size, 0, none⟩ 1 1 [iv (k : Int)] rfl rfl ?c1 ?c2 ?c3 ?c4 ?c5 ?_)
        case c1 => exact HN.out
        case c2 => intro u hu; simp at hu; subst hu; rfl
        case c3 => have := HML.out; unfold maxLen; omega
        case c4 => have := HML.out; omega
        case c5 => simp; omega
        intro v' w5 hown' hgrow _ hat
        have HI5 := Lib.hid (HI.out.push hown' hgrow (by simpa using hat))
        clear HB4 HN hown' hgrow hat HI hand hpos
        go_wp2
        go_roundw
        case rel => exact ⟨k + 1, by omega, by go_num, Lib.hid (by rw [HCS.out]; exact HI5.out)⟩
        case measure => simp [intOf]; omega
      · have HCS := Lib.hid (memL_no hp)
        rw [show (s / 2 ^ k % 2 == 1) = false by simpa using hp] at hand
        clear hp
        go_wp2
        go_roundw
        case rel => exact ⟨k + 1, by omega, by go_num, Lib.hid (by rw [HCS.out]; exact HI.out)⟩
        case measure => simp [intOf]; omega
    · have HEQ := Lib.hid (HE.out k (by omega) hlt)
      rw [show decide (0 < s / 2 ^ k) = false from decide_eq_false hlt] at hpos
      have HNW := Lib.hid (Eq.mp (congrArg (fun ys => NewI w ys (.returned (.slice Av (memL s k).length cv)) wr) HEQ.out) (HI.out.new (by have := memL_le s k; omega) (memb_bd s k (by omega))))
      clear hlt HEQ HI
      go_wp2
      go_ret
      exact HNW.out
theorem membersOf_any (s : Nat) (w : World) (hs : s < 8) : Calls Try.prog 52 #[.int .i64 s] w (NewI w (memL s 3)) := memL_53 s hs ▸ membersOf5_any s w (by omega)

set_option maxRecDepth 100000 in
set_option maxHeartbeats 2000000 in
theorem spreadI_any (n k cx cy : Nat) (X Y : Option Addr) (xs : List Int) (r : Nat → Nat) (w : World) (hx : Ints w X k cx xs) (hy : Pl w Y k cy r n) (hn : n ≤ 3) (hk3 : k ≤ 3) (hm : ∀ p, p < xs.length → Mid (gi xs p)) (hc : ClrP xs) :
    Calls Try.prog 93 #[.slice X k cx, .slice Y k cy, .int .i64 n] w (NewI w (shr n r xs k)) := by
  have HX := Lib.hid hx
  have HY := Lib.hid hy
  have HM := Lib.hid hm
  have HLX := Lib.hid hx.len
  have hg0 : 0 < gcdL xs k := by have := clr_pos hc; rwa [hx.len] at this
  have HS0 := Lib.hid (SU.start w n (by omega))
  have hmk := run_make_row' (P := Try.prog) 26 3 (.int .i64 0) 8 Try.underlying26 Try.info3 rfl .i64 .i64 n (by omega) (by omega)
  have HC := Lib.hid (fun W (k : Keep w W) => commonFactor_any _ _ _ _ W (hx.keep k) hm)
  clear hx hy hm hc
  have HSH : Hid (shr n r xs k = putL n r (clrL xs (gcdL xs k) k) k) := Lib.hid (by unfold shr; rw [HLX.out])
  rw [HSH.out]
  have HGM := gcdL_mid HM.out (k := k) (Nat.le_of_eq HLX.out.symm)
  obtain ⟨mg1, mg2⟩ := HGM
  clear HSH
  generalize gcdL xs k = G at *
  have hgz : (G == 0) = false := by simp; omega
  have hgn : ¬ (G = 0) := by omega
  have HZ : Hid (List.replicate n 0 = putL n r (clrL xs G k) 0) := Lib.hid rfl
  rw [HZ.out] at HS0
  clear HZ
  go_enter Try.func93, Try.ntmps93
  go_wp2_with fail
  refine (HC.out _ (Keep.below HS0.out.up)).mono ?_
  rintro e w2 ⟨rfl, hq⟩
  have HS1 := Lib.hid (HS0.out.qu hq)
  clear hq HC HS0 hmk
  go_wp2
  go_loopw [17] (fun i wr => ∃ p : Nat, p ≤ k ∧ i = .int .i64 p ∧ Hid (SU w n (putL n r (clrL xs G k) p) wr)) (fun i _ => k - (intOf i).toNat)
  case atStart => exact ⟨0, Nat.zero_le _, rfl, HS1⟩
  case round =>
    clear HS1
    obtain ⟨p, hp, rfl, HS⟩ := hrel
    by_cases hlt : p < k
    · obtain ⟨bx, ox, rfl, hcx⟩ := HX.out.at_ (by omega)
      obtain ⟨by_, oy, rfl, hcy⟩ := HY.out.ints.at_ (by omega)
      have c1 := hcx p hlt
      have c2 := hcy p hlt
      rw [gi_lstN hlt] at c2
      have hrp := HY.out.lt p hlt
      have d1 := Keep.below HS.out.up _ _ c1
      have d2 := Keep.below HS.out.up _ _ c2
      have d3 := HS.out.cell hrp
      have d4 := HS.out.frozen hrp
      have hmx := HM.out p (by rw [HLX.out]; exact hlt)
      have HE : Hid ((putL n r (clrL xs G k) p).set (r p) (max (gi xs p) (-(gi xs p)) / G) = putL n r (clrL xs G k) (p + 1)) := Lib.hid (by rw [putL, gi_clrL hlt])
      have HV := Lib.hid (show -1000000000000000 ≤ max (gi xs p) (-(gi xs p)) / G ∧ max (gi xs p) (-(gi xs p)) / G ≤ 1000000000000000 from by
        unfold Mid at hmx
        have h1 : 0 ≤ max (gi xs p) (-(gi xs p)) / G := Int.ediv_nonneg (by omega) (by omega)
        have h2 : max (gi xs p) (-(gi xs p)) / G ≤ max (gi xs p) (-(gi xs p)) := Int.ediv_le_self _ (by omega)
        omega)
      obtain ⟨m1, m2⟩ := hmx
      clear hcx hcy c1 c2
      generalize r p = R at *
      generalize gi xs p = x at *
      have HW : Hid ((if x < -x then -x else x) / G = max x (-x) / G) := Lib.hid (by congr 1; split <;> omega)
      have HN := Lib.hid (show SU w n (putL n r (clrL xs G k) (p + 1)) (wr.setCell ⟨w.heap.size, R, none⟩ (.int .i64 ((if x < -x then -x else x) / G))).drew from by
        rw [HW.out, ← HE.out]
        exact (HS.out.set hrp (v := max x (-x) / G) (by have := HV.out; omega)).qu ⟨1, rfl⟩)
      generalize gi (putL n r (clrL xs G k) p) R = y at *
      clear HS HE HV
      go_wp2
      go_region
      all_goals
        clear d1 d2 d3 d4
        go_wp2
        go_roundw
        case rel => exact ⟨p + 1, by omega, by go_num, HN⟩
        case measure => simp [intOf]; omega
    · obtain rfl : p = k := by omega
      have HNW := Lib.hid (HS.out.new (putL_len _ _ _ _).symm)
      go_wp2
      go_ret
      exact HNW.out
end Go.Proofs.Ytoekpbcdgmejcaa

/- IsRest and MeanPay, by both programs. -/
namespace Go.Proofs.Ytoekpbcdgmejcaa
open Go.RowKit

theorem VQ.len {a : List (List Int)} {n : Nat} (v : VQ a) (hl : a.length = n) : (gr a 0).length = n := by have := v.2; omega

set_option maxRecDepth 100000 in
set_option maxHeartbeats 1600000 in
theorem IsRest_impl (A : Option Addr) (n c : Nat) (a : List (List Int)) (X : Option Addr) (nx cx : Nat) (x : List Int) (w : World) (ha : IntRows w A n c a) (hx : Ints w X nx cx x) :
    Calls Try.prog 23 #[.slice A n c, .slice X nx cx] w (Ret (.bool (pb (RQ a x))) w) := by
  have HX := Lib.hid ha
  have HY := Lib.hid hx
  have hl := ha.len
  have hlx := hx.len
  have B0 := Lib.hid (Below.refl w.heap.size w)
  clear ha hx
  by_cases hv : VQ a
  · have HC := Lib.hid (pb_true hv ▸ ValidSquare_impl A n c a w HX.out)
    have hn1 := hv.1.n1
    have hn3 := hv.1.n3
    rw [hl] at hn1 hn3
    have HVS := Lib.hid (show pb (VS x (n : Int)) = pb (VSn x (n : Int)) by rw [← hl]; exact (hv.1.vsn x).symm)
    by_cases hs : VS x (n : Int)
    · have HRQ := Lib.hid (show pb (RQ a x) = pb (RestP a x n) from pb_congr ⟨fun h => by rw [← hl]; exact h.r, fun h => ⟨hv, by rw [hl]; exact hs, by rw [hl]; exact h⟩⟩)
      have hm := hv.len hl
      obtain ⟨b, o, rb, ro, cc, rfl, tab⟩ := HX.out.tab hv.1
      rw [hm] at tab
      have HT := Lib.hid tab
      have HBS := Lib.hid (VS.bds (n := n) hs)
      have HS := Lib.hid (fun W (k : Keep w W) => HVS.out.symm.trans (pb_true hs) ▸ ValidShares_impl X nx cx x (n : Int) W (HY.out.keep k))
      obtain rfl : n = nx := by have := hs.1; omega
      clear hm tab hv hs hl hlx
      go_enter Try.func23, Try.ntmps23
      go_wp2_with fail
      refine HC.out.mono ?_
      rintro e w1 ⟨rfl, hb⟩
      have B1 := Lib.hid (below_quiet B0.out hb)
      clear hb HC B0
      have HC := Lib.hid (HS.out w1 (Keep.below B1.out))
      go_wp2_with fail
      refine HC.out.mono ?_
      rintro e w2 ⟨rfl, hb⟩
      have B2 := Lib.hid (below_quiet B1.out hb)
      clear hb HC B1
      have HC := Lib.hid (payAgainst_any a x n b o c cx rb ro cc X w2 (HT.out.keep (Keep.below B2.out)) (HY.out.keep (Keep.below B2.out)) HBS.out)
      go_wp2_with fail
      refine HC.out.mono ?_
      rintro e w3 ⟨pa, pw, rfl, hp, hb⟩
      have B3 := Lib.hid (below_up B2.out hb)
      have P := Lib.hid hp
      clear hb hp HC B2
      have HC := Lib.hid (noneHasMore_any a x n pa pw b o c cx rb ro cc X w3 P.out)
      go_wp2_with fail
      refine HC.out.mono ?_
      rintro e w4 ⟨rfl, hb⟩
      have B4 := Lib.hid (below_up B3.out hb)
      clear hb HC B3
      go_wp2
      go_ret
      exact ⟨ret_bool HRQ.out.symm, B4.out⟩
    · have HNO := Lib.hid (pb_false (p := RQ a x) (fun h => hs (by have := h.s; rw [hl] at this; exact this)))
      have HS := Lib.hid (fun W (k : Keep w W) => HVS.out.symm.trans (pb_false hs) ▸ ValidShares_impl X nx cx x (n : Int) W (HY.out.keep k))
      clear hv hs hl hlx
      go_enter Try.func23, Try.ntmps23
      go_wp2_with fail
      refine HC.out.mono ?_
      rintro e w1 ⟨rfl, hb⟩
      have B1 := Lib.hid (below_quiet B0.out hb)
      clear hb HC B0
      have HC := Lib.hid (HS.out w1 (Keep.below B1.out))
      go_wp2_with fail
      refine HC.out.mono ?_
      rintro e w2 ⟨rfl, hb⟩
      have B2 := Lib.hid (below_quiet B1.out hb)
      clear hb HC B1
      go_wp2
      go_ret
      exact ⟨ret_bool HNO.out.symm, B2.out⟩
  · have HNO := Lib.hid (pb_false (p := RQ a x) (fun h => hv h.q))
    have HC := Lib.hid (pb_false hv ▸ ValidSquare_impl A n c a w HX.out)
    clear hv hl hlx
    go_enter Try.func23, Try.ntmps23
    go_wp2_with fail
    refine HC.out.mono ?_
    rintro e w1 ⟨rfl, hb⟩
    have B1 := Lib.hid (below_quiet B0.out hb)
    clear hb HC B0
    go_wp2
    go_ret
    exact ⟨ret_bool HNO.out.symm, B1.out⟩

theorem POk_sq (a : List (List Int)) (x : List Int) : POk a x x ↔ VQ a ∧ VS x a.length := by
  constructor
  · rintro ⟨v, h1, h2⟩
    refine ⟨⟨v, ?_⟩, h1⟩
    have e1 := h1.1
    have e2 := h2.1
    omega
  · rintro ⟨v, h⟩
    exact ⟨v.1, h, by rw [← v.2]; exact h⟩

set_option maxRecDepth 100000 in
set_option maxHeartbeats 1600000 in
theorem MeanPay_impl (A : Option Addr) (n c : Nat) (a : List (List Int)) (X : Option Addr) (nx cx : Nat) (x : List Int) (w : World) (ha : IntRows w A n c a) (hx : Ints w X nx cx x) :
    Calls Try.prog 38 #[.slice A n c, .slice X nx cx] w (Ret (.tuple #[payF a x x, .bool (pb (POk a x x))]) w) := by
  have HPF := Lib.hid (PF.start w)
  have HC := Lib.hid (PayOf_impl A X X n c nx cx nx cx a x x _ (ha.keep HPF.out.keep) (hx.keep HPF.out.keep) (hx.keep HPF.out.keep))
  obtain ⟨U, D, hf⟩ := payF_form a x x
  rw [hf] at HC ⊢
  generalize pb (POk a x x) = K at *
  clear hf ha hx
  go_enter Try.func38, Try.ntmps38
  go_wp2_with fail
  refine HC.out.mono ?_
  rintro e w1 ⟨rfl, hb⟩
  have HPF1 := Lib.hid (HPF.out.up hb)
  clear hb HC HPF
  have HPF := HPF1
  clear HPF1
  have c0 := blk_cell HPF.out.box (i := 0) rfl
  have c1 := blk_cell HPF.out.box (i := 1) rfl
  have f0 := blk_frozen HPF.out.box 0
  have f1 := blk_frozen HPF.out.box 1
  go_wp2
  clear c0 c1 f0 f1
  have B1 := blk_set (blk_set HPF.out.box 0 (.int .i64 U)) 1 (.int .i64 D)
  have r0 := blk_cell B1 (i := 0) (v := .int .i64 U) rfl
  have r1 := blk_cell B1 (i := 1) (v := .int .i64 D) rfl
  have HBX := Lib.hid ((HPF.out.below.setCell (p := ⟨w.heap.size, 0, none⟩) (Nat.le_refl _) (.int .i64 U)).setCell (p := ⟨w.heap.size, 1, none⟩) (Nat.le_refl _) (.int .i64 D))
  clear B1 HPF
  generalize (w1.setCell ⟨w.heap.size, 0, none⟩ (.int .i64 U)).setCell ⟨w.heap.size, 1, none⟩ (.int .i64 D) = WE at *
  refine bodyPost_ret (v := .tuple #[.agg #[.int .i64 U, .int .i64 D], .bool K]) (by simp [results, Try.results38, go_sem, r0, r1]) rfl ?_
  exact ⟨rfl, HBX.out⟩

set_option maxRecDepth 100000 in
set_option maxHeartbeats 1600000 in
theorem MeanPay_spec (A : Option Addr) (n c : Nat) (a : List (List Int)) (X : Option Addr) (nx cx : Nat) (x : List Int) (w : World) (ha : IntRows w A n c a) (hx : Ints w X nx cx x) :
    Calls Try.prog 39 #[.slice A n c, .slice X nx cx] w (Ret (.tuple #[payF a x x, .bool (pb (POk a x x))]) w) := by
  have HX := Lib.hid ha
  have HY := Lib.hid hx
  have hl := ha.len
  have hlx := hx.len
  have HPF := Lib.hid (PF.start w)
  clear ha hx
  by_cases hv : VQ a
  · have HC := Lib.hid (pb_true hv ▸ validSquare_any A n c a _ (HX.out.keep HPF.out.keep))
    have hn1 := hv.1.n1
    have hn3 := hv.1.n3
    rw [hl] at hn1 hn3
    by_cases hs : VS x (n : Int)
    · have HOK := Lib.hid ((POk_sq a x).2 ⟨hv, by rw [hl]; exact hs⟩)
      have hm := hv.len hl
      have HPB := Lib.hid (hv.1.pb_ HOK.out.x HOK.out.y)
      rw [hl, hm] at HPB
      rw [payF_yes HOK.out, pb_true HOK.out, hl, hm]
      obtain ⟨b, o, rb, ro, cc, rfl, tab⟩ := HX.out.tab hv.1
      rw [hm] at tab
      have HT := Lib.hid tab
      have hts := hs.bd (by omega)
      have HS := Lib.hid (fun W (k : Keep w W) => pb_true hs ▸ validShares_any X nx cx x (n : Int) W (HY.out.keep k) (by omega))
      have HSU := Lib.hid (hs.sumOk (by omega))
      obtain rfl : n = nx := by have := hs.1; omega
      have hpu := payU_bd HPB.out hn3 (Nat.le_refl n)
      have hxy : 1 ≤ tot x * tot x ∧ tot x * tot x ≤ 9000000 := by
        have h1 : 1 * 1 ≤ tot x * tot x := Int.mul_le_mul (by omega) (by omega) (by omega) (by omega)
        have h2 : tot x * tot x ≤ 3000 * 3000 := Int.mul_le_mul hts.2 hts.2 (by omega) (by omega)
        omega
      obtain ⟨xy1, xy2⟩ := hxy
      obtain ⟨t1, t2⟩ := hts
      clear hm tab hv hs hl hlx
      go_enter Try.func39, Try.ntmps39
      go_wp2_with fail
      refine HC.out.mono ?_
      rintro e w1 ⟨rfl, hb⟩
      have HPF1 := Lib.hid (HPF.out.up hb.below)
      clear hb HC HPF
      have HC := Lib.hid (HS.out w1 HPF1.out.keep)
      go_wp2_with fail
      refine HC.out.mono ?_
      rintro e w2 ⟨rfl, hb⟩
      have HPF2 := Lib.hid (HPF1.out.up hb.below)
      clear hb HC HPF1
      have HC := Lib.hid (payUp_any b o rb ro cc n n c cx cx _ _ a x x w2 (HT.out.keep HPF2.out.keep) (HY.out.keep HPF2.out.keep) (HY.out.keep HPF2.out.keep) HPB.out)
      go_wp2_with fail
      refine HC.out.mono ?_
      rintro e w3 ⟨rfl, hb⟩
      have HPF3 := Lib.hid (HPF2.out.up hb.below)
      clear hb HC HPF2
      have HC := Lib.hid (sum_any _ _ _ _ w3 (HY.out.keep HPF3.out.keep) HSU.out)
      go_wp2_with fail
      refine HC.out.mono ?_
      rintro e w4 ⟨rfl, hb⟩
      have HPF4 := Lib.hid (HPF3.out.up hb.below)
      clear hb HC HPF3
      have HC := Lib.hid (sum_any _ _ _ _ w4 (HY.out.keep HPF4.out.keep) HSU.out)
      go_wp2_with fail
      refine HC.out.mono ?_
      rintro e w5 ⟨rfl, hb⟩
      have HPF5 := Lib.hid (HPF4.out.up hb.below)
      clear hb HC HPF4
      have HC := Lib.hid (frac_any (payU a x x n n) (tot x * tot x) w5 (by unfold Mid; omega) (by unfold Mid; omega) xy1)
      go_wp2_with fail
      refine HC.out.mono ?_
      rintro e w6 ⟨rfl, hb⟩
      have HPF6 := Lib.hid (HPF5.out.up hb)
      clear hb HC HPF5
      have HFV : Hid (frV (payU a x x n n) (tot x * tot x) = .agg #[.int .i64 (frU (payU a x x n n) (tot x * tot x)), .int .i64 (frD (payU a x x n n) (tot x * tot x))]) := Lib.hid rfl
      rw [HFV.out]
      generalize frU (payU a x x n n) (tot x * tot x) = U at *
      generalize frD (payU a x x n n) (tot x * tot x) = D at *
      have HPF := HPF6
      clear HPF6
      have c0 := blk_cell HPF.out.box (i := 0) rfl
      have c1 := blk_cell HPF.out.box (i := 1) rfl
      have f0 := blk_frozen HPF.out.box 0
      have f1 := blk_frozen HPF.out.box 1
      go_wp2
      clear c0 c1 f0 f1
      have B1 := blk_set (blk_set HPF.out.box 0 (.int .i64 U)) 1 (.int .i64 D)
      have r0 := blk_cell B1 (i := 0) (v := .int .i64 U) rfl
      have r1 := blk_cell B1 (i := 1) (v := .int .i64 D) rfl
      have HBX := Lib.hid ((HPF.out.below.setCell (p := ⟨w.heap.size, 0, none⟩) (Nat.le_refl _) (.int .i64 U)).setCell (p := ⟨w.heap.size, 1, none⟩) (Nat.le_refl _) (.int .i64 D))
      clear B1 HPF
      generalize (w6.setCell ⟨w.heap.size, 0, none⟩ (.int .i64 U)).setCell ⟨w.heap.size, 1, none⟩ (.int .i64 D) = WE at *
      refine bodyPost_ret (v := .tuple #[.agg #[.int .i64 U, .int .i64 D], .bool true]) (by simp [results, Try.results39, go_sem, r0, r1]) rfl ?_
      exact ⟨by rw [HFV.out], HBX.out⟩
    · have HNO := Lib.hid (show payF a x x = .agg #[.int .i64 0, .int .i64 0] ∧ pb (POk a x x) = false from ⟨payF_no (fun h => hs (by have := h.x; rw [hl] at this; exact this)), pb_false (fun h => hs (by have := h.x; rw [hl] at this; exact this))⟩)
      have HS := Lib.hid (fun W (k : Keep w W) => pb_false hs ▸ validShares_any X nx cx x (n : Int) W (HY.out.keep k) (by omega))
      clear hv hs hl hlx
      go_enter Try.func39, Try.ntmps39
      go_wp2_with fail
      refine HC.out.mono ?_
      rintro e w1 ⟨rfl, hb⟩
      have HPF1 := Lib.hid (HPF.out.up hb.below)
      clear hb HC HPF
      have HC := Lib.hid (HS.out w1 HPF1.out.keep)
      go_wp2_with fail
      refine HC.out.mono ?_
      rintro e w2 ⟨rfl, hb⟩
      have HPF2 := Lib.hid (HPF1.out.up hb.below)
      clear hb HC HPF1
      have HPF := HPF2
      clear HPF2
      have c0 := blk_cell HPF.out.box (i := 0) rfl
      have c1 := blk_cell HPF.out.box (i := 1) rfl
      have f0 := blk_frozen HPF.out.box 0
      have f1 := blk_frozen HPF.out.box 1
      go_wp2
      clear c0 c1 f0 f1
      have B1 := blk_set (blk_set HPF.out.box 0 (.int .i64 0)) 1 (.int .i64 0)
      have r0 := blk_cell B1 (i := 0) (v := .int .i64 0) rfl
      have r1 := blk_cell B1 (i := 1) (v := .int .i64 0) rfl
      have HBX := Lib.hid ((HPF.out.below.setCell (p := ⟨w.heap.size, 0, none⟩) (Nat.le_refl _) (.int .i64 0)).setCell (p := ⟨w.heap.size, 1, none⟩) (Nat.le_refl _) (.int .i64 0))
      clear B1 HPF
      generalize (w2.setCell ⟨w.heap.size, 0, none⟩ (.int .i64 0)).setCell ⟨w.heap.size, 1, none⟩ (.int .i64 0) = WE at *
      refine bodyPost_ret (v := .tuple #[.agg #[.int .i64 0, .int .i64 0], .bool false]) (by simp [results, Try.results39, go_sem, r0, r1]) rfl ?_
      exact ⟨by rw [HNO.out.1, HNO.out.2], HBX.out⟩
  · have HNO := Lib.hid (show payF a x x = .agg #[.int .i64 0, .int .i64 0] ∧ pb (POk a x x) = false from ⟨payF_no (fun h => hv ((POk_sq a x).1 h).1), pb_false (fun h => hv ((POk_sq a x).1 h).1)⟩)
    have HC := Lib.hid (pb_false hv ▸ validSquare_any A n c a _ (HX.out.keep HPF.out.keep))
    clear hv hl hlx
    go_enter Try.func39, Try.ntmps39
    go_wp2_with fail
    refine HC.out.mono ?_
    rintro e w1 ⟨rfl, hb⟩
    have HPF1 := Lib.hid (HPF.out.up hb.below)
    clear hb HC HPF
    have HPF := HPF1
    clear HPF1
    have c0 := blk_cell HPF.out.box (i := 0) rfl
    have c1 := blk_cell HPF.out.box (i := 1) rfl
    have f0 := blk_frozen HPF.out.box 0
    have f1 := blk_frozen HPF.out.box 1
    go_wp2
    clear c0 c1 f0 f1
    have B1 := blk_set (blk_set HPF.out.box 0 (.int .i64 0)) 1 (.int .i64 0)
    have r0 := blk_cell B1 (i := 0) (v := .int .i64 0) rfl
    have r1 := blk_cell B1 (i := 1) (v := .int .i64 0) rfl
    have HBX := Lib.hid ((HPF.out.below.setCell (p := ⟨w.heap.size, 0, none⟩) (Nat.le_refl _) (.int .i64 0)).setCell (p := ⟨w.heap.size, 1, none⟩) (Nat.le_refl _) (.int .i64 0))
    clear B1 HPF
    generalize (w1.setCell ⟨w.heap.size, 0, none⟩ (.int .i64 0)).setCell ⟨w.heap.size, 1, none⟩ (.int .i64 0) = WE at *
    refine bodyPost_ret (v := .tuple #[.agg #[.int .i64 0, .int .i64 0], .bool false]) (by simp [results, Try.results39, go_sem, r0, r1]) rfl ?_
    exact ⟨by rw [HNO.out.1, HNO.out.2], HBX.out⟩

end Go.Proofs.Ytoekpbcdgmejcaa

/- The harness of the exact laws: a copy of a game marked; how many numbers it has. -/
namespace Go.Proofs.Ytoekpbcdgmejcaa
open Go.RowKit

theorem szR_offs (left : Int) (xs : List (List Int)) (h : 0 ≤ szR left xs) : szR left xs = left - offs xs xs.length := by
  have key : ∀ (xs : List (List Int)) (left : Int), 0 ≤ szR left xs → szR left xs = left - ((xs.map List.length).sum : Nat) := by
    intro xs
    induction xs with
    | nil => intro left _; simp [szR]
    | cons x xs ih =>
      intro left h
      by_cases hn : szI left x.length < 0
      · rw [szR_neg hn] at h; omega
      · rw [szR_pos hn] at h ⊢
        rw [ih _ h]
        have : szI left x.length = left - x.length := by unfold szI at hn ⊢; split <;> simp_all
        rw [this]
        simp
        omega
  have key2 : ∀ k, k ≤ xs.length → offs xs k = (((xs.take k).map List.length).sum : Nat) := by
    intro k
    induction k with
    | zero => intro _; simp [offs]
    | succ k ih =>
      intro hk
      rw [offs, ih (by omega), List.take_succ_eq_append_getElem (by omega), List.map_append, List.sum_append, gr_get (by omega)]
      simp
  rw [key xs left h, key2 _ (Nat.le_refl _), List.take_length]
theorem szRR_offs {left : Int} {xs : List (List Int)} (h : ¬ szRR left xs < 0) : offs xs xs.length ≤ left := by
  unfold szRR at h
  split at h
  · omega
  · rename_i hn
    have := szR_offs _ _ (by omega : 0 ≤ szR (szI left xs.length) xs)
    have h2 : szI left xs.length ≤ left := by unfold szI at hn ⊢; split <;> simp_all; omega
    omega
theorem szG_offs {left : Int} {xs ys : List (List Int)} (h : ¬ szG left xs ys < 0) (h0 : 0 ≤ left) (h1 : left ≤ 1048576) : offs xs xs.length ≤ 1048576 ∧ offs ys ys.length ≤ 1048576 := by
  unfold szG at h
  split at h
  · omega
  · rename_i hn
    split at h
    · omega
    · rename_i hn2
      have := szRR_offs hn
      have := szRR_offs hn2
      have := szRR_le left xs h0 h1
      omega

/-- A game marked: only its own rows have turned, and new blocks are there. -/
def MarkedG (lo hi : Nat) (w : World) (xs ys : List (List Int)) (k : Int) (e : Ending) (w' : World) : Prop :=
  e = .returned (.int .i64 (k + offs xs xs.length + offs ys ys.length)) ∧ ∃ w1, Below w.heap.size w w1 ∧ Touch lo hi w1 w'

def MarkedP (lo hi : Nat) (w : World) (xs ys : List (List Int)) (k : Int) (n m : Nat) (e : Ending) (w' : World) : Prop :=
  e = .returned (.int .i64 (k + offs xs n + offs ys m)) ∧ ∃ w1, Below w.heap.size w w1 ∧ Touch lo hi w1 w'

theorem offs_le {xss : List (List Int)} (h : ∀ r ∈ xss, r.length ≤ 3) : ∀ k, k ≤ xss.length → offs xss k ≤ 3 * k
  | 0, _ => by simp [offs]
  | k + 1, hk => by
    have h1 := offs_le h k (by omega)
    have h2 := h _ (gr_mem (xs := xss) (k := k) (by omega))
    simp only [offs]
    omega

end Go.Proofs.Ytoekpbcdgmejcaa

/- The rests of a table, by the program. -/
namespace Go.Proofs.Ytoekpbcdgmejcaa
open Go.RowKit
open V (sumN detN rowC colC cofN minorN skip sgn Asc)

theorem mid_of' {x : Int} (h : -648 ≤ x ∧ x ≤ 648) : Mid x := by unfold Mid; omega
theorem lf_ab {a : List (List Int)} (v : VT a) (h : a.length = (gr a 0).length) {r : Nat → Nat} {k : Nat} (hr : Asc a.length k r) : Ab k (lf a r) := fun p q hp hq => by
  have := v.bd (hr.1 p hp) (j := r q) (by have := hr.1 q hq; omega)
  unfold lf; omega

/-- Shares of some strategies at which these have as much; or none. -/
def NewLS (w : World) (a : List (List Int)) (n k : Nat) (r : Nat → Nat) (e : Ending) (w' : World) : Prop :=
  (LevP (kY a r r k) ∧ NewI w (shr n r (kY a r r k) k) e w') ∨ (¬ LevP (kY a r r k) ∧ e = .returned (.slice none 0 0) ∧ Below w.heap.size w w')

set_option maxRecDepth 100000 in
set_option maxHeartbeats 4000000 in
theorem levelShares_any (A X : Option Addr) (n c k cx : Nat) (a : List (List Int)) (r : Nat → Nat) (w : World) (ha : IntRows w A n c a) (hq : VQ a) (hx : Pl w X k cx r n) (h1 : 1 ≤ k) (hk3 : k ≤ 3) (hr : Asc n k r) :
    Calls Try.prog 51 #[.slice A n c, .slice X k cx] w (NewLS w a n k r) := by
  have HX := Lib.hid hx
  have HV := Lib.hid hq
  have hl := ha.len
  have HR := Lib.hid (show Asc a.length k r by rw [hl]; exact hr)
  have hn3 : n ≤ 3 := by have := hq.1.n3; omega
  obtain ⟨b, o, rb, ro, cc, rfl, tab⟩ := ha.tab hq.1
  rw [show (gr a 0).length = n by rw [← hq.2, hl]] at tab
  have HT := Lib.hid tab
  have HAB := Lib.hid (lf_ab hq.1 hq.2 HR.out)
  have HLY := Lib.hid (lf_kY a r hk3)
  have HYL := Lib.hid (kY_len a r r k)
  have HYB := Lib.hid (fun p (hp : p < (kY a r r k).length) => mid_of' (kY_bd hq.1 hk3 HR.out (by rw [← hq.2]; exact HR.out) (p := p) hp))
  clear ha hq hx hr hl tab
  have HC := Lib.hid (partOf_any b o rb ro cc n n c k k cx cx X X a r r 0 w HT.out HX.out HX.out hk3 hk3 (by omega) (by omega))
  go_enter Try.func51, Try.ntmps51
  go_wp2_with fail
  refine HC.out.mono ?_
  rintro e w1 ⟨A1, n1, c1, g1, rfl, hn1', ho, hb⟩
  have HSQ := Lib.hid (show Sq k (prtL a r r 0 k k) (lf a r) from prtL_sq a r r 0 k)
  have HO1 := Lib.hid ho.rows
  have HB1 := Lib.hid hb
  obtain rfl : n1 = k := hn1'.trans HSQ.out.len
  clear hn1' ho hb HC
  have HC := Lib.hid (cofactorsM_any n1 hk3 (by omega) A1 c1 _ _ w1 HO1.out HSQ.out HAB.out)
  go_wp2_with fail
  refine HC.out.mono ?_
  rintro e w3 ⟨A3, n3, c3, g3, rfl, hn3', ho, hb⟩
  have HF := Lib.hid ho.rows
  have HB3 := Lib.hid (below_up HB1.out hb)
  obtain rfl : n3 = n1 := hn3'.trans (cofM_len _ _ _)
  clear hn3' ho hb HC HB1 HO1
  have HSF := Lib.hid (cofM_sq n3 (lf a r))
  have HCB := Lib.hid (fun i j (hi : i < n3) (hj : j < n3) => cof_bd hk3 HAB.out hi hj)
  obtain ⟨b3, o3, rb3, ro3, cc3, rfl, tx⟩ := HF.out.tabX HSF.out (by omega) (fun i j hi hj => by have := HCB.out i j hi hj; omega)
  have HTX := Lib.hid tx
  clear tx
  have HC := Lib.hid (turnedX_any b3 o3 rb3 ro3 cc3 n3 c3 _ w3 HTX.out (by omega) hk3)
  go_wp2_with fail
  refine HC.out.mono ?_
  rintro e w5 ⟨rfl, ho, hb, -⟩
  have HG := Lib.hid ho.rows
  have HB5 := Lib.hid (below_up HB3.out hb)
  clear ho hb HC HB3 HF HTX
  have HSO := Lib.hid (show ∀ p, p < n3 → SumOk (gr (flip (cofM n3 (lf a r) n3) n3 n3) p) from fun p hp => by
    rw [gr_flip hp]; exact sumOk_of (by simp; omega) (fun x hx => by
      obtain ⟨i, hi, rfl⟩ := List.mem_map.1 hx
      have hi := List.mem_range.1 hi
      rw [HSF.out.eq i p hi hp]; have := HCB.out i p hi hp; omega))
  generalize w3.heap.size = h3 at *
  have HC := Lib.hid (rowSums_any _ n3 n3 _ w5 HG.out hk3 HSO.out)
  rw [rsL_flip hk3, HLY.out] at HC
  go_wp2_with fail
  refine HC.out.mono ?_
  rintro e w6 ⟨A6, n6, c6, g6, rfl, hn6, ho, hb⟩
  have HY6 := Lib.hid (show Ints w6 A6 n6 c6 (kY a r r n3) from ho.ints)
  have HB6 := Lib.hid (below_up HB5.out hb)
  obtain rfl : n6 = n3 := hn6.trans HYL.out
  clear hn6 ho hb HC HB5 HG HSO HSF HCB HSQ
  have HLB := Lib.hid (levB_iff (xs := kY a r r n6) (by rw [HYL.out]; omega))
  have HC := Lib.hid (Min_any A6 n6 c6 _ w6 HY6.out (by omega))
  have HCL : Hid (LevP (kY a r r n6) → ClrP (kY a r r n6)) := Lib.hid (fun h => h.clr (by rw [HYL.out]; omega))
  have HSP := Lib.hid (fun (h : LevP (kY a r r n6)) (W : World) (k : Keep w6 W) => spreadI_any n n6 c6 cx A6 X _ r W (HY6.out.keep k) ⟨HX.out.ints.keep (Keep.trans (Keep.below HB6.out) k), HX.out.lt⟩ hn3 hk3 HYB.out (HCL.out h))
  clear HYB HCL
  by_cases hm : lst (kY a r r n6) ≤ 0
  · have HCM := Lib.hid (fun q => Max_any A6 n6 c6 _ (w6.drewN q) (HY6.out.keep (Keep.drewN w6 q)) (by omega))
    by_cases hx : 0 ≤ mxl (kY a r r n6)
    · have HNO := Lib.hid (show ¬ LevP (kY a r r n6) from fun h => by
        have := HLB.out.2 h
        unfold levB at this
        rw [decide_eq_true hm, decide_eq_true hx] at this; cases this)
      clear HLB HSP
      generalize mxl (kY a r r n6) = M at *
      generalize lst (kY a r r n6) = L at *
      go_wp2_with fail
      refine HC.out.mono ?_
      rintro e w7 ⟨rfl, q, rfl⟩
      have HC := Lib.hid (HCM.out q)
      clear HCM
      go_wp2_with fail
      refine HC.out.mono ?_
      rintro e w8 ⟨rfl, q2, rfl⟩
      go_wp2
      go_ret
      exact .inr ⟨HNO.out, rfl, below_quiet HB6.out ⟨q + q2, rfl⟩⟩
    · have HYES := Lib.hid (show LevP (kY a r r n6) from HLB.out.1 (by unfold levB; rw [decide_eq_false hx, Bool.and_false]))
      clear HLB
      have HSW := Lib.hid (HSP.out HYES.out)
      clear HSP
      generalize mxl (kY a r r n6) = M at *
      generalize lst (kY a r r n6) = L at *
      go_wp2_with fail
      refine HC.out.mono ?_
      rintro e w7 ⟨rfl, q, rfl⟩
      have HC := Lib.hid (HCM.out q)
      clear HCM
      go_wp2_with fail
      refine HC.out.mono ?_
      rintro e w8 ⟨rfl, q2, rfl⟩
      have HB8 := Lib.hid (below_quiet HB6.out ⟨q + q2, rfl⟩)
      have HC := Lib.hid (HSW.out _ (Keep.drewN w6 (q + q2)))
      go_wp2_with fail
      refine HC.out.mono ?_
      rintro e w9 hnew
      obtain ⟨A9, n9, c9, g9, rfl, hn9, ho, hb⟩ := hnew
      have HN := Lib.hid (NewI.from HB8.out ⟨A9, n9, c9, g9, rfl, hn9, ho, hb⟩)
      clear hn9 ho hb HC
      go_wp2
      go_ret
      exact .inl ⟨HYES.out, HN.out⟩
  · have HYES := Lib.hid (show LevP (kY a r r n6) from HLB.out.1 (by unfold levB; rw [decide_eq_false hm, Bool.false_and]))
    clear HLB
    have HSW := Lib.hid (HSP.out HYES.out)
    clear HSP
    generalize lst (kY a r r n6) = L at *
    go_wp2_with fail
    refine HC.out.mono ?_
    rintro e w7 ⟨rfl, q, rfl⟩
    have HB8 := Lib.hid (below_quiet HB6.out ⟨q, rfl⟩)
    have HC := Lib.hid (HSW.out _ (Keep.drewN w6 q))
    go_wp2_with fail
    refine HC.out.mono ?_
    rintro e w9 hnew
    obtain ⟨A9, n9, c9, g9, rfl, hn9, ho, hb⟩ := hnew
    have HN := Lib.hid (NewI.from HB8.out ⟨A9, n9, c9, g9, rfl, hn9, ho, hb⟩)
    clear hn9 ho hb HC
    go_wp2
    go_ret
    exact .inl ⟨HYES.out, HN.out⟩

set_option maxRecDepth 100000 in
set_option maxHeartbeats 3200000 in
theorem RestsOn_impl (A : Option Addr) (n c : Nat) (a : List (List Int)) (w : World) (hx : IntRows w A n c a) :
    Calls Try.prog 15 #[.slice A n c] w (NewT w (resF a)) := by
  have HX := Lib.hid hx
  have hl := hx.len
  by_cases hv : VQ a
  · have HC := Lib.hid (pb_true hv ▸ ValidSquare_impl A n c a w hx)
    have HV := Lib.hid hv
    have HL := Lib.hid hl
    have hn3 : n ≤ 3 := by have := hv.1.n3; omega
    have hn1 : 1 ≤ n := by have := hv.1.n1; omega
    obtain ⟨P, hP, hP2⟩ := shl_val' hn3
    have hP8 : P ≤ 8 := by rw [hP2]; exact pow_le8 hn3
    have hP1 : 1 ≤ P := by rw [hP2]; exact Nat.one_le_two_pow
    have HP2 := Lib.hid hP2
    have HF := Lib.hid (show resF a = resR a P by rw [resF_yes hv, resR_all (by omega), hl, hP2])
    clear hx hl hv hP2
    go_enter Try.func15, Try.ntmps15
    go_wp2_with fail
    refine HC.out.mono ?_
    rintro e w1 ⟨rfl, hq⟩
    have HB0 := Lib.hid (show Below w.heap.size w w1 from hq.below)
    have HX1 := Lib.hid (HX.out.keep (Keep.quiet hq))
    have HS0 := Lib.hid (show TM w1 (.slice none 0 0) [] (resR a 1) w1 from by rw [resR_one]; exact TM.nil w1)
    clear hq HC HX
    go_wp2
    go_loopw [3, 4] (fun v i wr => ∃ (s : Nat) (vs : List Value), 1 ≤ s ∧ s ≤ P ∧ i = .int .i64 s ∧ Hid (TM w1 v vs (resR a s) wr)) (fun _ i _ => 8 - (intOf i).toNat)
    case atStart => exact ⟨1, [], by omega, by omega, rfl, HS0⟩
    case round =>
      clear HS0
      obtain ⟨s, vs, hs1, hs8, rfl, HTM⟩ := hrel
      obtain ⟨Av, cv, rfl⟩ := HTM.out.bo.form
      by_cases hlt : s < P
      · have hlt' : (s : Int) < (P : Int) := by omega
        have HC := Lib.hid (membersOf_any s wr (by omega))
        rw [memL_all3 s (by omega) n (by omega) (by rw [← HP2.out]; exact hlt)] at HC
        go_wp2_with fail
        refine HC.out.mono ?_
        rintro e w2 ⟨Ao, k, co, go_, rfl, hk, ho, hb⟩
        have HO := Lib.hid (memL_pl ho.ints hk)
        have HK := Lib.hid hk
        have HTM2 := Lib.hid (HTM.out.next hb)
        have hk3 : k ≤ 3 := by have := memL_le s n; omega
        have hk1 : 1 ≤ k := by rw [hk]; exact memL_ge s (by omega) n (by omega) hs1 (by rw [← HP2.out]; exact hlt)
        clear ho hb HC HTM hk
        have HAS := Lib.hid (show Asc n k (idx s n) from by rw [HK.out]; exact idx_asc s n)
        have HLV : Hid (LvP a s ↔ LevAt a k (idx s n)) := Lib.hid (by
          unfold LvP
          rw [HL.out, ← HK.out]
          exact ⟨fun h => h.2.2, fun h => ⟨hs1, by rw [← HP2.out]; exact hlt, h⟩⟩)
        have HEQ : Hid (lvl a s = shr n (idx s n) (kY a (idx s n) (idx s n) k) k) := Lib.hid (by unfold lvl; rw [HL.out, ← HK.out])
        have HC := Lib.hid (levelShares_any A Ao n c k co a (idx s n) w2 (HX1.out.keep (Keep.below HTM2.out.up)) HV.out HO.out hk1 hk3 HAS.out)
        go_wp2_with fail
        refine HC.out.mono ?_
        rintro e w3 hnew
        clear HC
        by_cases hlv : LevP (kY a (idx s n) (idx s n) k)
        · obtain ⟨A1, n1, c1, g1, rfl, hn1', ho, hb⟩ : NewI w2 (shr n (idx s n) (kY a (idx s n) (idx s n) k) k) e w3 := by
            rcases hnew with ⟨_, h⟩ | ⟨h, _⟩
            · exact h
            · exact absurd hlv h
          rw [← HEQ.out] at ho hn1'
          have HLL := Lib.hid (lvl_len a s)
          have HTL := Lib.hid (resR_len a s)
          subst hn1'
          have HO3 := Lib.hid ho
          have HB3 := Lib.hid hb
          have HTM3 := Lib.hid (HTM2.out.next hb)
          have HVS := Lib.hid (show VS (lvl a s) a.length from by
            rw [HEQ.out, HL.out]
            exact shr_VS (kY_len _ _ _ _) HAS.out (hlv.clr (by rw [kY_len]; omega)) (fun p hp => kY_bd HV.out.1 hk3 (by rw [HL.out]; exact HAS.out) (by rw [← HV.out.2, HL.out]; exact HAS.out) hp))
          have HRQ : Hid (RQ a (lvl a s) ↔ LvP a s) := Lib.hid (by
            rw [HLV.out]
            unfold LevAt
            refine ⟨fun h => ⟨hlv, ?_⟩, fun h => ⟨HV.out, HVS.out, ?_⟩⟩
            · have := h.r; rw [HEQ.out] at this; rw [HL.out] at this ⊢; exact this
            · have := h.2; rw [HEQ.out]; rw [HL.out] at this ⊢; exact this)
          have HC := Lib.hid (IsRest_impl A n c a A1 _ c1 (lvl a s) w3 (HX1.out.keep (Keep.below HTM3.out.up)) ho.ints)
          have hll3 : (lvl a s).length ≤ 3 := by rw [HLL.out, HL.out]; exact hn3
          clear hb ho hnew hlv HLV HEQ HLL HVS HTM3
          by_cases hr : LvP a s
          · have HMS := Lib.hid (resR_yes hr)
            rw [pb_true (HRQ.out.2 hr)] at HC
            clear hr HRQ
            generalize lvl a s = ys at *
            generalize resR a s = ms at *
            go_wp2_with fail
            refine HC.out.mono ?_
            rintro e w4 ⟨rfl, hb⟩
            have HB4' := Lib.hid (below_up HB3.out hb)
            have HO4 := Lib.hid ((HO3.out.below hb).mono (Nat.le_refl _) hb.size)
            have hb2 := below_alloc w4 (.cells #[.slice A1 ys.length c1] 26)
            have HB4 := Lib.hid ((HTM2.out.next HB4'.out).bo.below hb2).own
            have HN := Lib.hid (cell_one_new w4 (.slice A1 ys.length c1) 26)
            have hlh : w1.heap.size ≤ w4.heap.size := Nat.le_trans HTM2.out.up.size HB4'.out.size
            clear hb hb2 HC HB3 HO3
            obtain ⟨i0, hi0, hz0, hz1, hz2⟩ := info_parts Try.info_row
            go_wp2_with (at_builtin; refine wpList_append_own_at _ rfl _ _ 23 rfl w1.heap.size 26 i0 (.slice none 0 0) 1 24 Try.underlying23 hi0 hz0 hz1 hz2 rfl (by decide) _ ms.length vs rfl HB4.out ⟨w4.heap.size, 0, none⟩ 1 1 [.slice A1 ys.length c1] rfl rfl ?d1 ?d2 ?d3 ?d4 ?d5 ?_)
            case d1 => exact HN.out
            case d2 => intro u hu; simp at hu; subst hu; rfl
            case d3 => have := HTL.out; unfold maxLen; omega
            case d4 => have := HTL.out; omega
            case d5 => simp; omega
            intro v' w5 hown' hgrow _ hat
            have HT5 := Lib.hid (HTM2.out.push HB4'.out HO4.out hown' hgrow (by simpa using hat))
            clear HB4 HN hown' hgrow hat HTM2 HO4
            go_wp2
            go_roundw
            case rel => exact ⟨s + 1, _, by omega, by omega, by go_num, Lib.hid (by rw [HMS.out]; exact HT5.out)⟩
            case measure => simp [intOf]; omega
          · have HMS := Lib.hid (resR_no hr)
            rw [pb_false (fun h => hr (HRQ.out.1 h))] at HC
            clear hr HRQ
            generalize lvl a s = ys at *
            go_wp2_with fail
            refine HC.out.mono ?_
            rintro e w4 ⟨rfl, hb⟩
            have HTM4 := Lib.hid ((HTM2.out.next HB3.out).next hb)
            clear hb HC HB3 HO3 HTM2
            go_wp2
            go_roundw
            case rel => exact ⟨s + 1, _, by omega, by omega, by go_num, Lib.hid (by rw [HMS.out]; exact HTM4.out)⟩
            case measure => simp [intOf]; omega
        · obtain ⟨rfl, hb⟩ : e = .returned (.slice none 0 0) ∧ Below w2.heap.size w2 w3 := by
            rcases hnew with ⟨h, _⟩ | ⟨_, h⟩
            · exact absurd h hlv
            · exact h
          have HMS := Lib.hid (resR_no (fun h => hlv (HLV.out.1 h).1))
          have HTM3 := Lib.hid (HTM2.out.next hb)
          have HC := Lib.hid (IsRest_impl A n c a none 0 0 [] w3 (HX1.out.keep (Keep.below HTM3.out.up)) (OwnI.nil 0 0 w3 0).ints)
          rw [pb_false (p := RQ a []) (fun h => by have := h.s.1; rw [HL.out] at this; simp at this; omega)] at HC
          clear hnew hlv hb HLV HEQ HTM2
          go_wp2_with fail
          refine HC.out.mono ?_
          rintro e w4 ⟨rfl, hb⟩
          have HTM4 := Lib.hid (HTM3.out.next hb)
          clear hb HC HTM3
          go_wp2
          go_roundw
          case rel => exact ⟨s + 1, _, by omega, by omega, by go_num, Lib.hid (by rw [HMS.out]; exact HTM4.out)⟩
          case measure => simp [intOf]; omega
      · obtain rfl : s = P := by omega
        have HNW := Lib.hid (NewT.from HB0.out (HTM.out.new (by have := resR_len a s; omega)))
        have hlt' : ¬ (s : Int) < (s : Int) := by omega
        go_wp2
        go_ret
        rw [HF.out]
        exact HNW.out
  · have HC := Lib.hid (pb_false hv ▸ ValidSquare_impl A n c a w hx)
    have HF := Lib.hid (resF_no hv)
    clear hx hl hv
    go_enter Try.func15, Try.ntmps15
    go_wp2_with fail
    refine HC.out.mono ?_
    rintro e w1 ⟨rfl, hq⟩
    go_wp2
    go_ret
    exact NewT.none hq.below HF.out
theorem resF_offs (a : List (List Int)) : offs (resF a) (resF a).length ≤ 1000000 := by
  by_cases h : VQ a
  · rw [resF_yes h]
    have h1 := resR_len a 8
    have h3 : ∀ r ∈ resR a 8, r.length ≤ 3 := fun r hr => by
      obtain ⟨s, _, _, rfl⟩ := mem_resR.1 hr
      rw [lvl_len]; exact h.1.n3
    have h2 := offs_le h3 _ (Nat.le_refl (resR a 8).length)
    omega
  · rw [resF_no h]; simp [offs]
end Go.Proofs.Ytoekpbcdgmejcaa

/- A table spoiled now and then, beside the box of a game. -/
namespace Go.Proofs.Ytoekpbcdgmejcaa
open Go.RowKit

theorem box_ne_box {w : World} {h g : Nat} {t u : TypeId} {cs ds : Array Value} (a : Blk w h t cs) (b : Blk w g u ds) (ne : t ≠ u) : h ≠ g := by
  rintro rfl
  unfold Blk at a b
  rw [a] at b
  injection b with b
  injection b with _ b _
  exact ne b
theorem box_ne_int {w : World} {h b o : Nat} {t : TypeId} {cs : Array Value} {k : IntKind} (a : Blk w h t cs) (hcs : ∀ (k : Nat) (v : Value), cs[k]? = some v → ∀ (kk : IntKind) (x : Int), v ≠ Value.int kk x) (hc : ∃ y, w.cell? ⟨b, o, none⟩ = some (.int k y)) : h ≠ b := by
  rintro rfl
  obtain ⟨y, hc⟩ := hc
  unfold Blk at a
  simp only [World.cell?, a] at hc
  exact hcs o _ hc k y rfl
theorem box_ne_own {w : World} {h base n : Nat} {t e : TypeId} {cs : Array Value} {v : Value} {xs : List Value} (a : Blk w h t cs) (own : w.ownsRow base e 1 v n xs) (ne : t ≠ e) : v.ownBlock ≠ some h := by
  rcases own.2 with ⟨rfl, _⟩ | ⟨g, cap, cur, rfl, _, hg, _⟩
  · simp [Value.ownBlock]
  · intro e1
    have : g = h := by simpa [Value.ownBlock] using e1
    subst this
    unfold Blk at a
    rw [a] at hg
    injection hg with hg
    injection hg with _ hg _
    exact ne hg
def SpoilH (w0 wb : World) (g : Nat) (A : Option Addr) (l c p h : Nat) (cs : Array Value) (e : Ending) (w' : World) : Prop :=
  ∃ v' vs' xss' p', e = .returned v' ∧ Small xss' ∧ TO w0 wb g A l c p' v' vs' xss' w' ∧ p' ≤ p + 2 ∧ Blk w' h 31 cs

set_option maxHeartbeats 1000000 in
theorem spoilH_any (w0 wb w : World) (h : Nat) (cs : Array Value) (g : Nat) (A : Option Addr) (l c p : Nat) (Av : Option Addr) (cv : Nat) (vs : List Value) (xss : List (List Int)) (ht : TO w0 wb g A l c p (.slice Av xss.length cv) vs xss w) (hp : p < 900000000) (hs : Small xss) (h7 : xss.length ≤ 7) (hbx : Blk w h 31 cs) (hcs : ∀ (k : Nat) (v : Value), cs[k]? = some v → ∀ (kk : IntKind) (x : Int), v ≠ Value.int kk x) :
    Calls Try.prog 88 #[.pointer (some ⟨g, 0, none⟩), .slice Av xss.length cv] w (SpoilH w0 wb g A l c p h cs) := by
  have HT := Lib.hid ht
  have HBX := Lib.hid hbx
  have HCS := Lib.hid hcs
  have HNE := Lib.hid (box_ne_box (h := h) (g := g) hbx ht.rd.box (by decide))
  have HC := Lib.hid (pick_any w0 w g A l c p 40 ht.rd (by omega))
  have HS := Lib.hid hs
  clear ht hs hbx hcs
  go_enter Try.func88, Try.ntmps88
  go_wp2_with fail
  refine HC.out.mono ?_
  rintro e w2 ⟨k, rfl, hk1, _, hr, z, hw⟩
  have hone := Rdr.one (g := g) w (.int .i64 (p + 1 : Nat)) z
  rw [← hw] at hone
  obtain ⟨k0, k1⟩ := hk1 (by omega)
  have HT2 := Lib.hid (HT.out.one hr hone)
  have HB2 := Lib.hid (show Blk w2 h 31 cs from (hone.block h HNE.out).trans HBX.out)
  clear hr hone hw hk1 HC HT HBX
  by_cases e0 : k = 0
  · subst e0
    by_cases hx0 : 0 < xss.length
    · obtain ⟨b0, c0, R0, cc0, ev, hb0, hv0, hcell0⟩ := HT2.out.bo.head hx0
      injection ev with ev1 _ ev3
      subst ev1
      subst ev3
      by_cases hx1 : 0 < (gr xss 0).length
      · obtain ⟨b, o, cc, ev, _⟩ := HT2.out.set0 hx0 hx1 (x := 10) (by omega)
        rw [hv0] at ev
        injection ev with ev
        injection ev with ev1 _ ev3
        subst ev1
        subst ev3
        have HTA := Lib.hid ((HT2.out.below (below_alloc w2 (.cells #[iv 10, iv (-10)] 3))).below ((Below.refl _ _).drew))
        have HBA := Lib.hid (show Blk (w2.alloc (.cells #[iv 10, iv (-10)] 3)).drew h 31 cs from blk_below HB2.out (below_alloc w2 (.cells #[iv 10, iv (-10)] 3)).drew)
        have HCA := Lib.hid ((HTA.out.bo.head_at hx0).trans hv0)
        have HIA := Lib.hid (Ints.two w2 10 (-10)).drew
        have hgl := HT2.out.gl
        have hgw := HT2.out.up.size
        go_wp2_with fail
        go_region_held3 (fun W => W.cell? ⟨b0, 0, none⟩ = some (.slice (some ⟨b, o, none⟩) (gr xss 0).length cc0)) (first | exact hcell0 | exact HCA.out | exact HCB.out | exact HCC.out)
          (first
          | (go_at_call 64; refine (one_any w0 _ g A l c (p + 1) _ 2 2 [10, -10] ?_ (by omega) ?_ (by omega) ?_).mono ?_; exact HTA.out.rd; exact HIA.out; (intro b' o' e'; injection e' with e'; injection e' with e1 _ _; omega); rintro e w4 ⟨x, rfl, hx, hr, ho⟩; have HT4 := Lib.hid (HTA.out.one hr ho); have HCB := Lib.hid ((HT4.out.bo.head_at hx0).trans hv0); have hx3 : -1000 ≤ x ∧ x ≤ 1000 := (by simp at hx; omega); obtain ⟨⟨y, hc5⟩, hf5, hT5⟩ := HT4.out.set0_at hx0 hx1 hv0 hx3; have HT5 := Lib.hid hT5; have HBD := Lib.hid (show Blk w4 h 31 cs from (ho.block h HNE.out).trans HBA.out); have HBE := Lib.hid (blk_other HBD.out (p := ⟨b, o, none⟩) (box_ne_int (k := .i64) HBD.out HCS.out ⟨_, hc5⟩) (.int .i64 x)); have HCC := Lib.hid ((HT5.out.bo.head_at (by rw [List.length_set]; exact hx0)).trans hv0); clear hr ho hT5 hx HTA HIA))
        go_wp2
        go_ret
        exact ⟨_, _, _, _, rfl, HS.out.set0 hx0 hx3, HT5.out, by omega, HBE.out⟩
      · go_wp2
        go_ret
        exact ⟨_, _, _, _, rfl, HS.out, HT2.out, by omega, HB2.out⟩
    · go_wp2
      go_ret
      exact ⟨_, _, _, _, rfl, HS.out, HT2.out, by omega, HB2.out⟩
  · by_cases e1 : k = 1
    · subst e1
      have HI := Lib.hid (HT2.out.lit 1)
      have HNO := Lib.hid (box_ne_own HB2.out HT2.out.bo.own (by decide))
      have HBF := Lib.hid (blk_below (blk_below HB2.out (below_alloc w2 (.cells #[iv 1] 3))) (below_alloc _ (.cells #[.slice (some ⟨w2.heap.size, 0, none⟩) 1 1] 26)))
      clear HT2
      have hWs : (w2.alloc (.cells #[iv 1] 3)).heap.size = w2.heap.size + 1 := by simp
      obtain ⟨Ar, nr, cr, gg, e, hn, ho, _⟩ := HI.out.bi.owns (by simp) (fun x hx => by simp at hx; omega)
      injection e with e1 e2 e3
      subst e1
      subst e2
      subst e3
      have HO := Lib.hid ho
      have hb := below_alloc (w2.alloc (.cells #[iv 1] 3)) (.cells #[.slice (some ⟨w2.heap.size, 0, none⟩) 1 1] 26)
      have HB4 := Lib.hid (HI.out.bo.below hb).own
      have HN := Lib.hid (cell_one_new (w2.alloc (.cells #[iv 1] 3)) (.slice (some ⟨w2.heap.size, 0, none⟩) 1 1) 26)
      have hHs := HI.out.hs
      have hlh := HI.out.lh
      clear hb ho hn
      obtain ⟨i0, hi0, hz0, hz1, hz2⟩ := info_parts Try.info_row
      go_wp2_with (at_builtin; refine wpList_append_own_at _ rfl _ _ 23 rfl wb.heap.size 26 i0 (.slice none 0 0) 1 24 Try.underlying23 hi0 hz0 hz1 hz2 rfl (by decide) _ xss.length vs rfl HB4.out ⟨w2.heap.size + 1, 0, none⟩ 1 1 [.slice (some ⟨w2.heap.size, 0, none⟩) 1 1] rfl rfl ?d1 ?d2 ?d3 ?d4 ?d5 ?_)
      case d1 => have := HN.out; rw [hWs] at this; exact this
      case d2 => intro u hu; simp at hu; subst hu; rfl
      case d3 => unfold maxLen; omega
      case d4 => omega
      case d5 => simp; omega
      intro v' w5 hown' hgrow _ hat
      have HT5 := Lib.hid (TI.done (w := w2.alloc (.cells #[iv 1] 3)) (ys := [1]) (xss := xss) (v := .slice Av xss.length cv) (v' := v') (vs := vs) (Ar := some ⟨w2.heap.size, 0, none⟩) (cr := 1) HI.out HO.out hown' hgrow (by simpa using hat))
      have HBG := Lib.hid (show Blk w5 h 31 cs from (hgrow.block h (blk_lt HBF.out) (fun e => HNO.out e.symm)).trans HBF.out)
      clear HB4 HN hown' hgrow hat HI HO
      go_wp2
      go_ret
      exact ⟨_, _, _, _, rfl, HS.out.snoc h7 (by omega), HT5.out, by omega, HBG.out⟩
    · by_cases e2 : k = 2
      · subst e2
        have HF := Lib.hid HT2.out.fresh
        have HBF := Lib.hid (blk_below HB2.out (below_alloc w2 (.cells #[] 26)))
        go_wp2
        go_ret
        exact ⟨_, _, _, _, rfl, Small.nil, HF.out, by omega, HBF.out⟩
      · go_wp2
        go_ret
        exact ⟨_, _, _, _, rfl, HS.out, HT2.out, by omega, HB2.out⟩
end Go.Proofs.Ytoekpbcdgmejcaa

/- A game under way: both tables and the box. -/
namespace Go.Proofs.Ytoekpbcdgmejcaa
open Go.RowKit

theorem add_at (b o i : Nat) : (⟨b, o, none⟩ : Addr).add i = ⟨b, o + i, none⟩ := by unfold Addr.add; split <;> simp_all
theorem OwnI.mono_lo {lo hi lo' w b A n c xs} (h : OwnI lo hi w b A n c xs) (k : lo' ≤ lo) : OwnI lo' hi w b A n c xs := h.mono k (Nat.le_refl _)
theorem ownsRow_lo {w : World} {base base' : Nat} {e : TypeId} {size n : Nat} {v : Value} {xs : List Value} (h : w.ownsRow base e size v n xs) (k : base' ≤ base) : w.ownsRow base' e size v n xs := by
  obtain ⟨h1, h2⟩ := h
  refine ⟨h1, ?_⟩
  rcases h2 with h2 | ⟨g, cap, cur, rfl, hb, r⟩
  · exact .inl h2
  · exact .inr ⟨g, cap, cur, rfl, Nat.le_trans k hb, r⟩
theorem Bld.mono_lo {lo hi lo' w v vs xss} (h : Bld lo hi w v vs xss) (k : lo' ≤ lo) : Bld lo' hi w v vs xss := by
  obtain ⟨h1, h4, G, R, C, h2, h3⟩ := h
  exact ⟨ownsRow_lo h1 k, h4, G, R, C, fun j hj => ⟨(h2 j hj).1, (h2 j hj).2.1.mono_lo k, (h2 j hj).2.2⟩, h3⟩

/-- A number of a table that append has made is set. -/
theorem Bld.set_at {lo hi w v vs xss} (h : Bld lo hi w v vs xss) {i j : Nat} (h0 : i < xss.length) (h1 : j < (gr xss i).length) {x : Int} (hx : -9223372036854775808 ≤ x ∧ x ≤ 9223372036854775807) :
    ∃ bo c b o cc, v = .slice (some ⟨bo, 0, none⟩) xss.length c ∧ w.cell? ⟨bo, i, none⟩ = some (.slice (some ⟨b, o, none⟩) (gr xss i).length cc) ∧ lo ≤ b ∧ b < hi ∧ (∃ y, w.cell? ⟨b, o + j, none⟩ = some (.int .i64 y)) ∧ w.frozen? ⟨b, o + j, none⟩ = false ∧
      Bld lo hi (w.setCell ⟨b, o + j, none⟩ (.int .i64 x)) v vs (xss.set i ((gr xss i).set j x)) := by
  obtain ⟨ho, h4, G, R, C, h2, h3⟩ := h
  obtain ⟨q0, q1, q2⟩ := h2 i h0
  obtain ⟨o, e, l1, l2, hf⟩ := q1.own (by omega)
  have q1' := q1
  rw [e] at q1' q0
  have hset := q1'.set h1 hx
  obtain ⟨b', o', e', hc⟩ := q1.ints.at_ (by omega)
  rw [e] at e'
  injection e' with e'
  injection e' with e1 e2 _
  have hc0 := hc j h1
  rw [← e1, ← e2] at hc0
  have hlen : ∀ k, (gr (xss.set i ((gr xss i).set j x)) k).length = (gr xss k).length := fun k => by
    by_cases e : k = i
    · subst e; rw [gr_set_eq h0, List.length_set]
    · rw [gr_set_ne e]
  have hv : ∃ bo c, v = .slice (some ⟨bo, 0, none⟩) xss.length c ∧ w.cell? ⟨bo, i, none⟩ = vs[i]? := by
    rcases ho.2 with ⟨_, h5⟩ | ⟨g, cap, cur, rfl, hb, _⟩
    · omega
    · have hcx := ho.cells (g := g) rfl i _ q0
      rw [add_at, Nat.zero_add] at hcx
      exact ⟨g, cap, rfl, by rw [q0]; exact hcx⟩
  obtain ⟨bo, c, ev, hcv⟩ := hv
  refine ⟨bo, c, G i, o, C i, ev, by rw [hcv, q0], l1, l2, ⟨_, hc0⟩, hf j h1, ⟨?_, h4, G, R, C, fun k hk => ?_, fun k l hkl hl hk0 hl0 => ?_⟩⟩
  · rw [List.length_set]
    exact blk_kept ho fun g hg => Below.heap_setCell _ _ _ _ (fun e => q2 (by omega) (by rw [hg, e]))
  · rw [List.length_set] at hk
    rw [hlen]
    obtain ⟨a, b, c⟩ := h2 k hk
    refine ⟨a, ?_, c⟩
    by_cases ek : k = i
    · subst ek
      rw [gr_set_eq h0, e]
      exact hset
    · rw [gr_set_ne ek]
      exact b.of_block fun hp => Below.heap_setCell _ _ _ _ (by
        show G k ≠ G i
        rcases Nat.lt_or_gt_of_ne ek with hl | hl
        · exact h3 k i hl h0 hp (by omega)
        · exact Ne.symm (h3 i k hl hk (by omega) hp))
  · rw [List.length_set] at hl
    rw [hlen] at hk0 hl0
    exact h3 k l hkl hl hk0 hl0
/-- .. and of a table of one's own. -/
theorem OwnR.set_at {lo hi w b A n c xss} (h : OwnR lo hi w b A n c xss) {i j : Nat} (h0 : i < n) (h1 : j < (gr xss i).length) {x : Int} (hx : -9223372036854775808 ≤ x ∧ x ≤ 9223372036854775807) :
    ∃ o g r cc, A = some ⟨b, o, none⟩ ∧ w.cell? ⟨b, o + i, none⟩ = some (.slice (some ⟨g, r, none⟩) (gr xss i).length cc) ∧ lo ≤ g ∧ g < hi ∧ (∃ y, w.cell? ⟨g, r + j, none⟩ = some (.int .i64 y)) ∧ w.frozen? ⟨g, r + j, none⟩ = false ∧
      OwnR lo hi (w.setCell ⟨g, r + j, none⟩ (.int .i64 x)) b A n c (xss.set i ((gr xss i).set j x)) := by
  obtain ⟨o, g, R, cc, e, c1, hI, hset⟩ := h.at_row h0
  obtain ⟨r, e2, l1, l2, hf⟩ := hI.own (by omega)
  subst e2
  obtain ⟨b', o', e', hc⟩ := hI.ints.at_ (by omega)
  injection e' with e'
  injection e' with e3 e4 _
  subst e3
  subst e4
  exact ⟨o, g, r, cc, e, c1, l1, l2, ⟨_, hc j h1⟩, hf j h1, (hset _ _ (by rw [List.length_set]) (hI.set h1 hx) (fun hz => absurd hz (by omega)) ((One.refl g w).set _ _)).1⟩

/-- Rows of as many numbers. -/
structure Shp (n m : Nat) (xss : List (List Int)) : Prop where
  len : xss.length = n
  row : ∀ k, k < n → (gr xss k).length = m
  sm : Small xss
theorem Shp.set {n m xss} (h : Shp n m xss) {i j : Nat} (hi : i < n) {x : Int} (hx : -1000 ≤ x ∧ x ≤ 1000) : Shp n m (xss.set i ((gr xss i).set j x)) := by
  have hl := h.len
  have hm := h.sm.rows _ (gr_mem (xs := xss) (k := i) (by omega))
  refine ⟨by rw [List.length_set]; exact hl, fun k hk => ?_, ⟨by rw [List.length_set]; exact h.sm.n, fun r hr => ?_⟩⟩
  · by_cases e : k = i
    · subst e; rw [gr_set_eq (by omega), List.length_set]; exact h.row k hk
    · rw [gr_set_ne e]; exact h.row k hk
  · rcases List.mem_or_eq_of_mem_set hr with hr | rfl
    · exact h.sm.rows r hr
    · refine ⟨by rw [List.length_set]; exact hm.1, fun y hy => ?_⟩
      rcases List.mem_or_eq_of_mem_set hy with hy | rfl
      · exact hm.2 y hy
      · exact hx

structure GO (w0 w3 : World) (mid g : Nat) (A : Option Addr) (l c p : Nat) (Aa : Option Addr) (na ca ga : Nat) (xa : List (List Int)) (v : Value) (vs : List Value) (xb : List (List Int)) (h : Nat) (w : World) : Prop where
  rd : Rdr w0 w g A l c p
  a : OwnR w3.heap.size mid w ga Aa na ca xa
  b : Bld mid w.heap.size w v vs xb
  gl : g < w3.heap.size
  lm : w3.heap.size ≤ mid
  mw : mid ≤ w.heap.size
  up : w3.grownBy w (some g)
  box : Blk w h 31 #[.slice Aa na ca, v]
theorem box_slices (Aa Bb : Option Addr) (na ca nb cb : Nat) : ∀ (k : Nat) (v : Value), (#[.slice Aa na ca, .slice Bb nb cb] : Array Value)[k]? = some v → ∀ (kk : IntKind) (x : Int), v ≠ Value.int kk x := by
  intro k v h kk x e
  subst e
  match k, h with
  | 0, h => simp at h
  | 1, h => simp at h
  | k + 2, h => simp at h
theorem GO.below {w0 w3 mid g A l c p Aa na ca ga xa v vs xb h w w'} (o : GO w0 w3 mid g A l c p Aa na ca ga xa v vs xb h w) (k : Below w.heap.size w w') : GO w0 w3 mid g A l c p Aa na ca ga xa v vs xb h w' :=
  ⟨o.rd.below_ k, o.a.below k, (o.b.below k).mono k.size, o.gl, o.lm, Nat.le_trans o.mw k.size, grown_below o.up k, blk_below o.box k⟩
theorem GO.one {w0 w3 mid g A l c p p' Aa na ca ga xa v vs xb h w w'} (o : GO w0 w3 mid g A l c p Aa na ca ga xa v vs xb h w) (hr : Rdr w0 w' g A l c p') (ho : One g w w') : GO w0 w3 mid g A l c p' Aa na ca ga xa v vs xb h w' := by
  have hgl := o.gl
  have hlm := o.lm
  have hne : h ≠ g := box_ne_box o.box o.rd.box (by decide)
  exact ⟨hr, o.a.of_blocks fun k h1 _ _ => ho.block k (by omega), by rw [ho.size]; exact o.b.of_blocks fun k h1 _ _ => ho.block k (by omega), o.gl, o.lm, by rw [ho.size]; exact o.mw,
    ⟨ho.os.trans o.up.os, ho.tape.trans o.up.tape, ho.output.trans o.up.output, by rw [ho.size]; exact o.up.size, fun k hk hne' => (ho.block k (fun e => hne' (by rw [e]))).trans (o.up.block k hk hne')⟩, (ho.block h hne).trans o.box⟩
/-- A cell from the third world on is set: what has its memory elsewhere stays. -/
theorem GO.setA {w0 w3 mid g A l c p Aa na ca ga xa Bb nb cb vs xb h w} (o : GO w0 w3 mid g A l c p Aa na ca ga xa (.slice Bb nb cb) vs xb h w) {i j : Nat} (h0 : i < na) (h1 : j < (gr xa i).length) {x : Int} (hx : -1000 ≤ x ∧ x ≤ 1000) :
    ∃ oo gg r cc, Aa = some ⟨ga, oo, none⟩ ∧ w.cell? ⟨ga, oo + i, none⟩ = some (.slice (some ⟨gg, r, none⟩) (gr xa i).length cc) ∧ (∃ y, w.cell? ⟨gg, r + j, none⟩ = some (.int .i64 y)) ∧ w.frozen? ⟨gg, r + j, none⟩ = false ∧
      GO w0 w3 mid g A l c p Aa na ca ga (xa.set i ((gr xa i).set j x)) (.slice Bb nb cb) vs xb h (w.setCell ⟨gg, r + j, none⟩ (.int .i64 x)) := by
  obtain ⟨oo, gg, r, cc, e, c1, l1, l2, hy, hf, hown⟩ := o.a.set_at h0 h1 (x := x) (by omega)
  have hgl := o.gl
  have hlm := o.lm
  have hs : (w.setCell ⟨gg, r + j, none⟩ (.int .i64 x)).heap.size = w.heap.size := by simp [World.setCell]
  have hne : h ≠ gg := box_ne_int (k := .i64) o.box (box_slices _ _ _ _ _ _) hy
  refine ⟨oo, gg, r, cc, e, c1, hy, hf, ⟨⟨blk_other o.rd.box (by show g ≠ gg; omega) _, o.rd.bytes, o.rd.below.setCell (by show w0.heap.size ≤ gg; have := o.rd.lt; omega) _, o.rd.lt, o.rd.small⟩, hown, by rw [hs]; exact o.b.of_blocks fun k h1 _ _ => Below.heap_setCell _ _ _ _ (by show k ≠ gg; omega), o.gl, o.lm, by rw [hs]; exact o.mw, ?_, blk_other o.box hne _⟩⟩
  exact ⟨o.up.os, o.up.tape, o.up.output, by rw [hs]; exact o.up.size, fun k hk hne => (Below.heap_setCell _ _ _ _ (by show k ≠ gg; omega)).trans (o.up.block k hk hne)⟩
theorem GO.setB {w0 w3 mid g A l c p Aa na ca ga xa Bb nb cb vs xb h w} (o : GO w0 w3 mid g A l c p Aa na ca ga xa (.slice Bb nb cb) vs xb h w) {i j : Nat} (h0 : i < xb.length) (h1 : j < (gr xb i).length) {x : Int} (hx : -1000 ≤ x ∧ x ≤ 1000) :
    ∃ bo gg r cc, Bb = some ⟨bo, 0, none⟩ ∧ w.cell? ⟨bo, i, none⟩ = some (.slice (some ⟨gg, r, none⟩) (gr xb i).length cc) ∧ (∃ y, w.cell? ⟨gg, r + j, none⟩ = some (.int .i64 y)) ∧ w.frozen? ⟨gg, r + j, none⟩ = false ∧
      GO w0 w3 mid g A l c p Aa na ca ga xa (.slice Bb nb cb) vs (xb.set i ((gr xb i).set j x)) h (w.setCell ⟨gg, r + j, none⟩ (.int .i64 x)) := by
  obtain ⟨bo, c', gg, r, cc, e, c1, l1, l2, hy, hf, hown⟩ := o.b.set_at h0 h1 (x := x) (by omega)
  have hgl := o.gl
  have hlm := o.lm
  have hs : (w.setCell ⟨gg, r + j, none⟩ (.int .i64 x)).heap.size = w.heap.size := by simp [World.setCell]
  have hne : h ≠ gg := box_ne_int (k := .i64) o.box (box_slices _ _ _ _ _ _) hy
  injection e with e1 _ _
  refine ⟨bo, gg, r, cc, e1, c1, hy, hf, ⟨⟨blk_other o.rd.box (by show g ≠ gg; omega) _, o.rd.bytes, o.rd.below.setCell (by show w0.heap.size ≤ gg; have := o.rd.lt; omega) _, o.rd.lt, o.rd.small⟩, o.a.of_blocks fun k _ h2 _ => Below.heap_setCell _ _ _ _ (by show k ≠ gg; omega), by rw [hs]; exact hown, o.gl, o.lm, by rw [hs]; exact o.mw, ?_, blk_other o.box hne _⟩⟩
  exact ⟨o.up.os, o.up.tape, o.up.output, by rw [hs]; exact o.up.size, fun k hk hne => (Below.heap_setCell _ _ _ _ (by show k ≠ gg; omega)).trans (o.up.block k hk hne)⟩
end Go.Proofs.Ytoekpbcdgmejcaa

/- Squares and fields drawn from bytes. -/
namespace Go.Proofs.Ytoekpbcdgmejcaa
open Go.RowKit

/-- A number of a drawn table is set. -/
theorem TO.set_at {w0 wb g A l c p v vs xss w} (h : TO w0 wb g A l c p v vs xss w) {i j : Nat} (h0 : i < xss.length) (h1 : j < (gr xss i).length) {x : Int} (hx : -1000 ≤ x ∧ x ≤ 1000) :
    ∃ bo c' b o cc, v = .slice (some ⟨bo, 0, none⟩) xss.length c' ∧ w.cell? ⟨bo, i, none⟩ = some (.slice (some ⟨b, o, none⟩) (gr xss i).length cc) ∧ (∃ y, w.cell? ⟨b, o + j, none⟩ = some (.int .i64 y)) ∧ w.frozen? ⟨b, o + j, none⟩ = false ∧
      TO w0 wb g A l c p v vs (xss.set i ((gr xss i).set j x)) (w.setCell ⟨b, o + j, none⟩ (.int .i64 x)) := by
  obtain ⟨bo, c', b, o, cc, ev, hc, l1, l2, hy, hf, hb⟩ := h.bo.set_at h0 h1 (x := x) (by omega)
  have hgl := h.gl
  have hs : (w.setCell ⟨b, o + j, none⟩ (.int .i64 x)).heap.size = w.heap.size := by simp [World.setCell]
  refine ⟨bo, c', b, o, cc, ev, hc, hy, hf, ⟨⟨blk_other h.rd.box (by show g ≠ b; omega) _, h.rd.bytes, h.rd.below.setCell (by show w0.heap.size ≤ b; have := h.rd.lt; omega) _, h.rd.lt, h.rd.small⟩, by rw [hs]; exact hb, h.gl, ?_⟩⟩
  exact ⟨h.up.os, h.up.tape, h.up.output, by rw [hs]; exact h.up.size, fun k hk hne => (Below.heap_setCell _ _ _ _ (by show k ≠ b; omega)).trans (h.up.block k hk hne)⟩
/-- .. and read. -/
theorem TO.get_at {w0 wb g A l c p bo c' vs xss w} (h : TO w0 wb g A l c p (.slice (some ⟨bo, 0, none⟩) xss.length c') vs xss w) {i j : Nat} (h0 : i < xss.length) (h1 : j < (gr xss i).length) :
    ∃ b o cc, w.cell? ⟨bo, i, none⟩ = some (.slice (some ⟨b, o, none⟩) (gr xss i).length cc) ∧ w.cell? ⟨b, o + j, none⟩ = some (.int .i64 (g2 xss i j)) := by
  obtain ⟨ho, h4, G, R, C, h2, h3⟩ := h.bo
  obtain ⟨q0, q1, q2⟩ := h2 i h0
  have hcx := ho.cells (g := bo) rfl i _ q0
  rw [add_at, Nat.zero_add] at hcx
  obtain ⟨b, o, e, hc⟩ := q1.ints.at_ (by omega)
  rw [e] at hcx
  exact ⟨b, o, C i, hcx, hc j h1⟩
theorem g2_small {xss : List (List Int)} (h : Small xss) {i j : Nat} (h0 : i < xss.length) (h1 : j < (gr xss i).length) : -1000 ≤ g2 xss i j ∧ g2 xss i j ≤ 1000 :=
  (h.rows _ (gr_mem h0)).2 _ (gi_mem h1)
theorem TO.qu {w0 wb g A l c p v vs xss w w'} (h : TO w0 wb g A l c p v vs xss w) (k : Quiet w w') : TO w0 wb g A l c p v vs xss w' := h.below k.below
theorem Shp.of {n m : Nat} {lo hi : Int} {xss : List (List Int)} (hl : xss.length = n) (h : ∀ r ∈ xss, RowIn m lo hi r) (hn : n ≤ 4) (hm : m ≤ 4) (h1 : -1000 ≤ lo) (h2 : hi ≤ 1000) : Shp n m xss :=
  ⟨hl, fun k hk => (h _ (gr_mem (by omega))).1, ⟨by omega, fun r hr => ⟨by have := (h r hr).1; omega, fun y hy => by have := (h r hr).2 y hy; omega⟩⟩⟩

set_option maxRecDepth 100000 in
set_option maxHeartbeats 3200000 in
theorem someSquare_any (w0 w : World) (g : Nat) (A : Option Addr) (l c p : Nat) (h : Rdr w0 w g A l c p) (hp : p < 800000000) :
    Calls Try.prog 46 #[.pointer (some ⟨g, 0, none⟩)] w (SomeT w0 g A l c p w) := by
  have HR := Lib.hid h
  have H1 := Lib.hid (one_lit w0 w _ g A l c (p) w.heap.size 5 [2, 3, 3, 2, 1] h (by omega) (below_alloc w (.cells #[iv 2, iv 3, iv 3, iv 2, iv 1] 3)) (Nat.le_refl _) (Ints.lit w [2, 3, 3, 2, 1] (by decide) (by decide)) (by omega))
  clear h
  go_enter Try.func46, Try.ntmps46
  go_wp2_with fail
  refine H1.out.mono ?_
  rintro e w1 ⟨n, rfl, hx, hr, hgr⟩
  have hn1 : 1 ≤ n ∧ n ≤ 3 := by simp at hx; omega
  have HG1 := Lib.hid hgr
  have H2 := Lib.hid (one_lit w0 w1 _ g A l c (p + 1) w1.heap.size 3 [3, 9, 1] hr (by omega) (below_alloc w1 (.cells #[iv 3, iv 9, iv 1] 3)) (Nat.le_refl _) (Ints.lit w1 [3, 9, 1] (by decide) (by decide)) (by omega))
  clear hx hr hgr H1 HR
  go_wp2_with fail
  refine H2.out.mono ?_
  rintro e w2 ⟨x, rfl, hx, hr, hgr⟩
  have hx1 : 1 ≤ x ∧ x ≤ 9 := by simp at hx; omega
  have HG2 := Lib.hid (grown_trans HG1.out hgr)
  obtain ⟨n, rfl⟩ := Int.eq_ofNat_of_zero_le (show 0 ≤ n by omega)
  have hn3 : n ≤ 3 := by omega
  have hn0 : 1 ≤ n := by omega
  have H4 := Lib.hid (tableOf_any w0 w2 g A l c (p + 2) n n (-x) x hr (by omega) (by omega) (by omega) (by omega) (by omega) (by omega))
  clear hx hr hgr H2 HG1 hn1
  go_wp2_with fail
  refine H4.out.mono ?_
  rintro e w4 ⟨Av, cv, vs, xss, p4, rfl, hl, hxs, hto, hp4⟩
  have HTO := Lib.hid hto
  have HSP := Lib.hid (Shp.of hl hxs (by omega) (by omega) (by omega) (by omega))
  have H5 := Lib.hid (pick_any w0 w4 g A l c p4 4 hto.rd (by omega))
  clear hxs hto H4 hl
  go_wp2_with fail
  refine H5.out.mono ?_
  rintro e w5 ⟨k, rfl, hk1, _, hr, z, hw⟩
  have hone := Rdr.one (g := g) w4 (.int .i64 (p4 + 1 : Nat)) z
  rw [← hw] at hone
  have HT5 := Lib.hid (HTO.out.one hr hone)
  clear hr hone hw hk1 H5 HTO
  by_cases e0 : k = 0
  · subst e0
    have HL0 := Lib.hid (show ∃ zs, Shp n n zs ∧ TO w0 w2 g A l c (p4 + 1) (.slice Av n cv) vs zs w5 from ⟨xss, HSP.out, HT5.out⟩)
    clear HSP HT5
    go_wp2
    go_loopw [6] (fun i_ wr => ∃ i : Nat, i ≤ n ∧ i_ = .int .i64 i ∧ Hid (∃ zs, Shp n n zs ∧ TO w0 w2 g A l c (p4 + 1) (.slice Av n cv) vs zs wr)) (fun i_ _ => n - (intOf i_).toNat)
    case atStart => exact ⟨0, Nat.zero_le _, rfl, HL0⟩
    case round =>
      clear HL0
      obtain ⟨i, hi, rfl, HL⟩ := hrel
      by_cases hlt : i < n
      · go_wp2
        go_loopw [7] (fun j_ wi => ∃ j : Nat, j ≤ i ∧ j_ = .int .i64 j ∧ Hid (∃ zs, Shp n n zs ∧ TO w0 w2 g A l c (p4 + 1) (.slice Av n cv) vs zs wi)) (fun j_ _ => i - (intOf j_).toNat)
        case atStart => exact ⟨0, Nat.zero_le _, rfl, HL⟩
        case round =>
          clear HL
          obtain ⟨j, hj, rfl, HL⟩ := hrel
          by_cases hjl : j < i
          · obtain ⟨xs, hsp, hto⟩ := HL.out
            have HSX := Lib.hid hsp
            have hlen := hsp.len
            have hri := hsp.row i hlt
            have hrj := hsp.row j (by omega)
            have hv := g2_small hsp.sm (i := j) (j := i) (by omega) (by omega)
            obtain ⟨bo, c', b, o, cc, ev, q1, ⟨y, q2⟩, q3, hts⟩ := hto.set_at (i := i) (j := j) (by omega) (by omega) hv
            injection ev with ev1 ev2 ev3
            subst ev1
            subst ev3
            clear ev2
            have hto' := hto
            rw [← hlen] at hto'
            obtain ⟨b2, o2, cc2, q4, q5⟩ := hto'.get_at (i := j) (j := i) (by omega) (by omega)
            rw [hri] at q1
            rw [hrj] at q4
            have HN := Lib.hid (show ∃ zs, Shp n n zs ∧ TO w0 w2 g A l c (p4 + 1) (.slice (some ⟨bo, 0, none⟩) n cv) vs zs (wr.setCell ⟨b, o + j, none⟩ (.int .i64 (g2 xs j i))) from ⟨_, hsp.set hlt hv, hts⟩)
            have hjn : j < n := by omega
            clear hsp hto hto' hlen hri hrj hv hts HL
            generalize g2 xs j i = x0 at *
            go_wp2
            go_region
            all_goals
              clear q1 q2 q3 q4 q5
              go_wp2
              go_roundw
              case rel => exact ⟨j + 1, by omega, by go_num, Lib.hid (by obtain ⟨xs', h1, h2⟩ := HN.out; exact ⟨xs', h1, by first | exact h2 | exact h2.qu ⟨1, rfl⟩ | exact h2.qu ⟨_, rfl⟩⟩)⟩
              case measure => simp [intOf]; omega
          · obtain rfl : j = i := by omega
            go_wp2
            go_roundw
            case rel => exact ⟨j + 1, by omega, by go_num, HL⟩
            case measure => simp [intOf]; omega
      · obtain rfl : i = n := by omega
        obtain ⟨xs, hsp, hto⟩ := HL.out
        have HSX := Lib.hid hsp
        have HTX := Lib.hid hto
        clear hsp hto HL
        generalize wr = w6 at *
        have H6 := Lib.hid (spoil_any w0 w2 w6 g A l c (p4 + 1) _ _ _ _ (by rw [HSX.out.len]; exact HTX.out) (by omega) HSX.out.sm (by have := HSX.out.len; omega))
        rw [HSX.out.len] at H6
        go_wp2_with fail
        refine H6.out.mono ?_
        rintro e w9 ⟨v', vs', xss', p', rfl, hs, hto, hp5⟩
        have HTO := Lib.hid hto
        have HSM2 := Lib.hid hs
        clear hs hto H6
        go_wp2
        go_ret
        exact ⟨_, _, _, _, _, rfl, HSM2.out, HTO.out, by omega, HG2.out⟩
  · have e0' : (k == 0) = false := by simpa using e0
    have H6 := Lib.hid (spoil_any w0 w2 w5 g A l c (p4 + 1) _ _ _ _ (by rw [HSP.out.len]; exact HT5.out) (by omega) HSP.out.sm (by have := HSP.out.len; omega))
    rw [HSP.out.len] at H6
    go_wp2_with fail
    refine H6.out.mono ?_
    rintro e w9 ⟨v', vs', xss', p', rfl, hs, hto, hp5⟩
    have HTO := Lib.hid hto
    have HSM2 := Lib.hid hs
    clear hs hto H6
    go_wp2
    go_ret
    exact ⟨_, _, _, _, _, rfl, HSM2.out, HTO.out, by omega, HG2.out⟩

end Go.Proofs.Ytoekpbcdgmejcaa

/- Fields drawn from bytes. -/
namespace Go.Proofs.Ytoekpbcdgmejcaa
open Go.RowKit

set_option maxRecDepth 100000 in
set_option maxHeartbeats 3200000 in
theorem someField_any (w0 w : World) (g : Nat) (A : Option Addr) (l c p : Nat) (h : Rdr w0 w g A l c p) (hp : p < 800000000) :
    Calls Try.prog 69 #[.pointer (some ⟨g, 0, none⟩)] w (SomeT w0 g A l c p w) := by
  have HR := Lib.hid h
  have H1 := Lib.hid (one_lit w0 w _ g A l c (p) w.heap.size 5 [2, 3, 3, 2, 1] h (by omega) (below_alloc w (.cells #[iv 2, iv 3, iv 3, iv 2, iv 1] 3)) (Nat.le_refl _) (Ints.lit w [2, 3, 3, 2, 1] (by decide) (by decide)) (by omega))
  clear h
  go_enter Try.func69, Try.ntmps69
  go_wp2_with fail
  refine H1.out.mono ?_
  rintro e w1 ⟨n, rfl, hx, hr, hgr⟩
  have hn1 : 1 ≤ n ∧ n ≤ 3 := by simp at hx; omega
  have HG1 := Lib.hid hgr
  have H2 := Lib.hid (one_lit w0 w1 _ g A l c (p + 1) w1.heap.size 3 [4, 9, 2] hr (by omega) (below_alloc w1 (.cells #[iv 4, iv 9, iv 2] 3)) (Nat.le_refl _) (Ints.lit w1 [4, 9, 2] (by decide) (by decide)) (by omega))
  clear hx hr hgr H1 HR
  go_wp2_with fail
  refine H2.out.mono ?_
  rintro e w2 ⟨x, rfl, hx, hr, hgr⟩
  have hx1 : 1 ≤ x ∧ x ≤ 9 := by simp at hx; omega
  have HG2 := Lib.hid (grown_trans HG1.out hgr)
  obtain ⟨n, rfl⟩ := Int.eq_ofNat_of_zero_le (show 0 ≤ n by omega)
  have hn3 : n ≤ 3 := by omega
  have hn0 : 1 ≤ n := by omega
  have H4 := Lib.hid (tableOf_any w0 w2 g A l c (p + 2) n n 1 x hr (by omega) (by omega) (by omega) (by omega) (by omega) (by omega))
  clear hx hr hgr H2 HG1 hn1
  go_wp2_with fail
  refine H4.out.mono ?_
  rintro e w4 ⟨Av, cv, vs, xss, p4, rfl, hl, hxs, hto, hp4⟩
  have HTO := Lib.hid hto
  have HSP := Lib.hid (Shp.of hl hxs (by omega) (by omega) (by omega) (by omega))
  have H5 := Lib.hid (pick_any w0 w4 g A l c p4 3 hto.rd (by omega))
  clear hxs hto H4 hl
  go_wp2_with fail
  refine H5.out.mono ?_
  rintro e w5 ⟨k, rfl, hk1, _, hr, z, hw⟩
  have hone := Rdr.one (g := g) w4 (.int .i64 (p4 + 1 : Nat)) z
  rw [← hw] at hone
  have HT5 := Lib.hid (HTO.out.one hr hone)
  clear hr hone hw hk1 H5 HTO
  by_cases e0 : k = 0
  · subst e0
    have HL0 := Lib.hid (show ∃ zs, Shp n n zs ∧ TO w0 w2 g A l c (p4 + 1) (.slice Av n cv) vs zs w5 from ⟨xss, HSP.out, HT5.out⟩)
    clear HSP HT5
    go_wp2
    go_loopw [5] (fun i_ wr => ∃ i : Nat, i ≤ n ∧ i_ = .int .i64 i ∧ Hid (∃ zs, Shp n n zs ∧ TO w0 w2 g A l c (p4 + 1) (.slice Av n cv) vs zs wr)) (fun i_ _ => n - (intOf i_).toNat)
    case atStart => exact ⟨0, Nat.zero_le _, rfl, HL0⟩
    case round =>
      clear HL0
      obtain ⟨i, hi, rfl, HL⟩ := hrel
      by_cases hlt : i < n
      · go_wp2
        go_loopw [6] (fun j_ wi => ∃ j : Nat, j ≤ i ∧ j_ = .int .i64 j ∧ Hid (∃ zs, Shp n n zs ∧ TO w0 w2 g A l c (p4 + 1) (.slice Av n cv) vs zs wi)) (fun j_ _ => i - (intOf j_).toNat)
        case atStart => exact ⟨0, Nat.zero_le _, rfl, HL⟩
        case round =>
          clear HL
          obtain ⟨j, hj, rfl, HL⟩ := hrel
          by_cases hjl : j < i
          · obtain ⟨xs, hsp, hto⟩ := HL.out
            have HSX := Lib.hid hsp
            have hlen := hsp.len
            have hri := hsp.row i hlt
            have hrj := hsp.row j (by omega)
            have hv := g2_small hsp.sm (i := j) (j := i) (by omega) (by omega)
            obtain ⟨bo, c', b, o, cc, ev, q1, ⟨y, q2⟩, q3, hts⟩ := hto.set_at (i := i) (j := j) (by omega) (by omega) hv
            injection ev with ev1 ev2 ev3
            subst ev1
            subst ev3
            clear ev2
            have hto' := hto
            rw [← hlen] at hto'
            obtain ⟨b2, o2, cc2, q4, q5⟩ := hto'.get_at (i := j) (j := i) (by omega) (by omega)
            rw [hri] at q1
            rw [hrj] at q4
            have HN := Lib.hid (show ∃ zs, Shp n n zs ∧ TO w0 w2 g A l c (p4 + 1) (.slice (some ⟨bo, 0, none⟩) n cv) vs zs (wr.setCell ⟨b, o + j, none⟩ (.int .i64 (g2 xs j i))) from ⟨_, hsp.set hlt hv, hts⟩)
            have hjn : j < n := by omega
            clear hsp hto hto' hlen hri hrj hv hts HL
            generalize g2 xs j i = x0 at *
            go_wp2
            go_region
            all_goals
              clear q1 q2 q3 q4 q5
              go_wp2
              go_roundw
              case rel => exact ⟨j + 1, by omega, by go_num, Lib.hid (by obtain ⟨xs', h1, h2⟩ := HN.out; exact ⟨xs', h1, by first | exact h2 | exact h2.qu ⟨1, rfl⟩ | exact h2.qu ⟨_, rfl⟩⟩)⟩
              case measure => simp [intOf]; omega
          · obtain rfl : j = i := by omega
            go_wp2
            go_roundw
            case rel => exact ⟨j + 1, by omega, by go_num, HL⟩
            case measure => simp [intOf]; omega
      · obtain rfl : i = n := by omega
        obtain ⟨xs, hsp, hto⟩ := HL.out
        have HSX := Lib.hid hsp
        have HTX := Lib.hid hto
        clear hsp hto HL
        generalize wr = w6 at *
        have H7 := Lib.hid (pick_any w0 w6 g A l c (p4 + 1) 40 HTX.out.rd (by omega))
        go_wp2_with fail
        refine H7.out.mono ?_
        rintro e w7 ⟨k7, rfl, hk1, _, hr, z, hw⟩
        have hone := Rdr.one (g := g) w6 (.int .i64 ((p4 + 1) + 1 : Nat)) z
        rw [← hw] at hone
        have HT7 := Lib.hid (HTX.out.one hr hone)
        clear hr hone hw hk1 H7 HTX
        by_cases e7 : k7 = 0
        · subst e7
          have hl7 := HSX.out.len
          have hr7 := HSX.out.row 0 (by omega)
          obtain ⟨bo, c', b, o, cc, ev, q1, ⟨y, q2⟩, q3, hto⟩ := HT7.out.set_at (i := 0) (j := 0) (by omega) (by omega) (x := 0) (by omega)
          injection ev with ev1 ev2 ev3
          subst ev1
          subst ev3
          clear ev2
          rw [hr7] at q1
          rw [Nat.add_zero] at q2 q3 hto
          have HT8 := Lib.hid hto
          have HS8 := Lib.hid (HSX.out.set (i := 0) (j := 0) (by omega) (x := 0) (by omega))
          clear hto HT7 hl7 hr7
          go_wp2_with fail
          clear q1 q2 q3
          have H6 := Lib.hid (spoil_any w0 w2 (w7.setCell ⟨b, o, none⟩ (.int .i64 0)) g A l c ((p4 + 1) + 1) _ _ _ _ (by rw [HS8.out.len]; exact HT8.out) (by omega) HS8.out.sm (by have := HS8.out.len; omega))
          rw [HS8.out.len] at H6
          go_wp2_with fail
          refine H6.out.mono ?_
          rintro e w9 ⟨v', vs', xss', p', rfl, hs, hto, hp5⟩
          have HTO := Lib.hid hto
          have HSM2 := Lib.hid hs
          clear hs hto H6
          go_wp2
          go_ret
          exact ⟨_, _, _, _, _, rfl, HSM2.out, HTO.out, by omega, HG2.out⟩
        · have e7' : (k7 == 0) = false := by simpa using e7
          have H6 := Lib.hid (spoil_any w0 w2 w7 g A l c ((p4 + 1) + 1) _ _ _ _ (by rw [HSX.out.len]; exact HT7.out) (by omega) HSX.out.sm (by have := HSX.out.len; omega))
          rw [HSX.out.len] at H6
          go_wp2_with fail
          refine H6.out.mono ?_
          rintro e w9 ⟨v', vs', xss', p', rfl, hs, hto, hp5⟩
          have HTO := Lib.hid hto
          have HSM2 := Lib.hid hs
          clear hs hto H6
          go_wp2
          go_ret
          exact ⟨_, _, _, _, _, rfl, HSM2.out, HTO.out, by omega, HG2.out⟩
  · have e0' : (k == 0) = false := by simpa using e0
    have H7 := Lib.hid (pick_any w0 w5 g A l c (p4 + 1) 40 HT5.out.rd (by omega))
    go_wp2_with fail
    refine H7.out.mono ?_
    rintro e w7 ⟨k7, rfl, hk1, _, hr, z, hw⟩
    have hone := Rdr.one (g := g) w5 (.int .i64 ((p4 + 1) + 1 : Nat)) z
    rw [← hw] at hone
    have HT7 := Lib.hid (HT5.out.one hr hone)
    clear hr hone hw hk1 H7 HT5
    by_cases e7 : k7 = 0
    · subst e7
      have hl7 := HSP.out.len
      have hr7 := HSP.out.row 0 (by omega)
      obtain ⟨bo, c', b, o, cc, ev, q1, ⟨y, q2⟩, q3, hto⟩ := HT7.out.set_at (i := 0) (j := 0) (by omega) (by omega) (x := 0) (by omega)
      injection ev with ev1 ev2 ev3
      subst ev1
      subst ev3
      clear ev2
      rw [hr7] at q1
      rw [Nat.add_zero] at q2 q3 hto
      have HT8 := Lib.hid hto
      have HS8 := Lib.hid (HSP.out.set (i := 0) (j := 0) (by omega) (x := 0) (by omega))
      clear hto HT7 hl7 hr7
      go_wp2_with fail
      clear q1 q2 q3
      have H6 := Lib.hid (spoil_any w0 w2 (w7.setCell ⟨b, o, none⟩ (.int .i64 0)) g A l c ((p4 + 1) + 1) _ _ _ _ (by rw [HS8.out.len]; exact HT8.out) (by omega) HS8.out.sm (by have := HS8.out.len; omega))
      rw [HS8.out.len] at H6
      go_wp2_with fail
      refine H6.out.mono ?_
      rintro e w9 ⟨v', vs', xss', p', rfl, hs, hto, hp5⟩
      have HTO := Lib.hid hto
      have HSM2 := Lib.hid hs
      clear hs hto H6
      go_wp2
      go_ret
      exact ⟨_, _, _, _, _, rfl, HSM2.out, HTO.out, by omega, HG2.out⟩
    · have e7' : (k7 == 0) = false := by simpa using e7
      have H6 := Lib.hid (spoil_any w0 w2 w7 g A l c ((p4 + 1) + 1) _ _ _ _ (by rw [HSP.out.len]; exact HT7.out) (by omega) HSP.out.sm (by have := HSP.out.len; omega))
      rw [HSP.out.len] at H6
      go_wp2_with fail
      refine H6.out.mono ?_
      rintro e w9 ⟨v', vs', xss', p', rfl, hs, hto, hp5⟩
      have HTO := Lib.hid hto
      have HSM2 := Lib.hid hs
      clear hs hto H6
      go_wp2
      go_ret
      exact ⟨_, _, _, _, _, rfl, HSM2.out, HTO.out, by omega, HG2.out⟩

end Go.Proofs.Ytoekpbcdgmejcaa

/- A row under way: its numbers may be set; shares drawn. -/
namespace Go.Proofs.Ytoekpbcdgmejcaa
open Go.RowKit

theorem BldI.set {lo hi w v xs} (h : BldI lo hi w v xs) {j : Nat} (hj : j < xs.length) (x : Int) :
    ∃ b c, v = .slice (some ⟨b, 0, none⟩) xs.length c ∧ lo ≤ b ∧ b < hi ∧ w.cell? ⟨b, j, none⟩ = some (.int .i64 (gi xs j)) ∧ w.frozen? ⟨b, j, none⟩ = false ∧
      BldI lo hi (w.setCell ⟨b, j, none⟩ (.int .i64 x)) v (xs.set j x) := by
  have hh := h.hi_
  rcases h.own.2 with ⟨_, h0⟩ | ⟨g, cap, cur, rfl, hb, hg, hnc, hcm, hcs, htake⟩
  · omega
  · rw [Nat.mul_one] at htake hcs
    have hB : Blk w g 3 cur := hg
    have hc : cur[j]? = some (.int .i64 (gi xs j)) := by
      rw [← getElem_iv hj, ← htake, List.getElem?_take, if_pos hj]; simp
    refine ⟨g, cap, rfl, hb, hh g rfl, blk_cell hB hc, blk_frozen hB j, ⟨⟨by simp, .inr ⟨g, cap, cur.setIfInBounds j (.int .i64 x), by rw [List.length_set], hb, blk_set hB j _, by rw [List.length_set]; exact hnc, hcm, by simp [hcs], ?_⟩⟩, hh⟩⟩
    rw [List.length_set, Nat.mul_one, Array.toList_setIfInBounds, List.take_set, htake, List.map_set]
    rfl

/-- A row by itself, begun behind the world wb. -/
def SH (w0 wb : World) (g : Nat) (A : Option Addr) (l c p : Nat) (u : Value) (ys : List Int) (w : World) : Prop := TI w0 wb g A l c p wb.heap.size (.slice none 0 0) [] [] u ys w
theorem SH.start {w0 wb g A l c p} (h : Rdr w0 wb g A l c p) : SH w0 wb g A l c p (.slice (some ⟨wb.heap.size, 0, none⟩) 0 0) [] (wb.alloc (.cells #[] 3)) :=
  ⟨h.below_ (below_alloc _ _), Bld.nil _ _ _, by rw [World.size_alloc]; exact BldI.make (Nat.le_refl _), blk_lt h.box, Nat.le_refl _, by simp, grown_of_below (below_alloc _ _)⟩
theorem SH.below {w0 wb g A l c p u ys w w'} (h : SH w0 wb g A l c p u ys w) (k : Below w.heap.size w w') : SH w0 wb g A l c p u ys w' :=
  ⟨h.rd.below_ k, Bld.nil _ _ _, (h.bi.below k).mono k.size, h.gl, h.lh, Nat.le_trans h.hs k.size, grown_below h.up k⟩
theorem SH.one {w0 wb g A l c p p' u ys w w'} (h : SH w0 wb g A l c p u ys w) (hr : Rdr w0 w' g A l c p') (ho : One g w w') : SH w0 wb g A l c p' u ys w' := TI.one h hr ho
theorem SH.set {w0 wb g A l c p u ys w} (h : SH w0 wb g A l c p u ys w) {j : Nat} (hj : j < ys.length) (x : Int) :
    ∃ b cc, u = .slice (some ⟨b, 0, none⟩) ys.length cc ∧ w.cell? ⟨b, j, none⟩ = some (.int .i64 (gi ys j)) ∧ w.frozen? ⟨b, j, none⟩ = false ∧ SH w0 wb g A l c p u (ys.set j x) (w.setCell ⟨b, j, none⟩ (.int .i64 x)) := by
  obtain ⟨b, cc, e, h1, h2, h3, h4, h5⟩ := h.bi.set hj x
  have hgl := h.gl
  have hs : (w.setCell ⟨b, j, none⟩ (.int .i64 x)).heap.size = w.heap.size := by simp [World.setCell]
  refine ⟨b, cc, e, h3, h4, ⟨⟨blk_other h.rd.box (by show g ≠ b; omega) _, h.rd.bytes, h.rd.below.setCell (by show w0.heap.size ≤ b; have := h.rd.lt; omega) _, h.rd.lt, h.rd.small⟩, Bld.nil _ _ _, by rw [hs]; exact h5, h.gl, h.lh, by rw [hs]; exact h.hs, ?_⟩⟩
  exact ⟨h.up.os, h.up.tape, h.up.output, by rw [hs]; exact h.up.size, fun k hk hne => (Below.heap_setCell _ _ _ _ (by show k ≠ b; omega)).trans (h.up.block k hk hne)⟩
def SharesOut (w0 wb : World) (g : Nat) (A : Option Addr) (l c p n : Nat) (e : Ending) (w' : World) : Prop :=
  ∃ Av cv ys p', e = .returned (.slice Av ys.length cv) ∧ ys.length ≤ n + 1 ∧ (∀ x ∈ ys, -1 ≤ x ∧ x ≤ 1001) ∧ SH w0 wb g A l c p' (.slice Av ys.length cv) ys w' ∧ p' ≤ p + 3 * n + 3

set_option maxRecDepth 100000 in
set_option maxHeartbeats 1000000 in
theorem sharesOf_any (w0 w : World) (g : Nat) (A : Option Addr) (l c p n : Nat) (h : Rdr w0 w g A l c p) (hp : p < 900000000) (hn : n ≤ 8) :
    Calls Try.prog 70 #[.pointer (some ⟨g, 0, none⟩), .int .i64 n] w (SharesOut w0 w g A l c p n) := by
  have HS := Lib.hid (SH.start h)
  clear h
  obtain ⟨i0, hi0, hz0, hz1, hz2⟩ := info_parts Try.info_int
  go_enter Try.func70, Try.ntmps70
  go_wp2
  go_loopw [5] (fun u wr => ∃ (ys : List Int) (q : Nat), ys.length ≤ n ∧ q ≤ p + 3 * ys.length ∧ Hid (∀ x ∈ ys, 0 ≤ x ∧ x ≤ 5) ∧ Hid (SH w0 w g A l c q u ys wr)) (fun u _ => n - (match u with | .slice _ k _ => k | _ => 0))
  case atStart => exact ⟨[], p, Nat.zero_le _, by simp, Lib.hid (fun r hr => by simp at hr), HS⟩
  case round =>
    clear HS
    obtain ⟨ys, q, hyn, hq, HR, HI⟩ := hrel
    obtain ⟨Au, cu, rfl⟩ := HI.out.bi.form
    by_cases hlt : ys.length < n
    · have HC := Lib.hid (pick_any w0 _ g A l c q 6 HI.out.rd (by omega))
      go_wp2_with fail
      refine HC.out.mono ?_
      rintro e w2 ⟨k, rfl, hk1, _, hr, z, hw⟩
      have hone := Rdr.one (g := g) wr (.int .i64 (q + 1 : Nat)) z
      rw [← hw] at hone
      obtain ⟨k0, k1⟩ := hk1 (by omega)
      have HI2 := Lib.hid (HI.out.one hr hone)
      clear hr hone hw hk1 HC HI
      have HC := Lib.hid (pick_any w0 _ g A l c (q + 1) 3 HI2.out.rd (by omega))
      go_wp2_with fail
      refine HC.out.mono ?_
      rintro e w3 ⟨m, rfl, hk1, _, hr, z, hw⟩
      have hone := Rdr.one (g := g) w2 (.int .i64 (q + 1 + 1 : Nat)) z
      rw [← hw] at hone
      obtain ⟨m0, m1⟩ := hk1 (by omega)
      have HI3 := Lib.hid (HI2.out.one hr hone)
      clear hr hone hw hk1 HC HI2
      have HI4 := Lib.hid (HI3.out.below (below_alloc w3 (.cells #[iv k, iv m, iv 0, iv 1] 3)))
      have HIN := Lib.hid (Ints.lit w3 [k, m, 0, 1] (by simp) (by intro x hx; simp at hx; omega))
      have hgw : g < w3.heap.size := blk_lt HI3.out.rd.box
      have HC := Lib.hid (one_any w0 (w3.alloc (.cells #[iv k, iv m, iv 0, iv 1] 3)) g A l c (q + 1 + 1) _ 4 4 [k, m, 0, 1] HI4.out.rd (by omega) HIN.out (by omega) (fun b' o' e' => by injection e' with e'; injection e' with e' _ _; omega))
      clear HI3 HIN
      go_wp2_with fail
      refine HC.out.mono ?_
      rintro e w4 ⟨x, rfl, hx, hr, ho⟩
      have hx5 : 0 ≤ x ∧ x ≤ 5 := by simp at hx; omega
      have HI5 := Lib.hid (HI4.out.one hr ho)
      clear hx hr ho HC HI4
      have hb := below_alloc w4 (.cells #[iv x] 3)
      have HB4 := Lib.hid (HI5.out.bi.below hb).own
      have HN := Lib.hid (cell_one_new w4 (iv x) 3)
      have hHs := HI5.out.hs
      clear hb
      go_wp2_with (at_builtin; refine wpList_append_own_at _ rfl _ _ 26 rfl w.heap.size 3 i0 (.int .i64 0) 1 8 Try.underlying26 hi0 hz0 hz1 hz2 rfl (by decide) _ ys.length (ys.map iv) rfl HB4.out ⟨w4.heap.size, 0, none⟩ 1 1 [iv x] rfl rfl ?c1 ?c2 ?c3 ?c4 ?c5 ?_)
      case c1 => exact HN.out
      case c2 => intro u hu; simp at hu; subst hu; rfl
      case c3 => unfold maxLen; omega
      case c4 => omega
      case c5 => simp; omega
      intro v' w5 hown' hgrow _ hat
      have HI6 := Lib.hid (show SH w0 w g A l c (q + 1 + 1 + 1) v' (ys ++ [x]) w5 from TI.push HI5.out hown' hgrow (by simpa using hat))
      clear HB4 HN hown' hgrow hat HI5
      obtain ⟨Au2, cu2, rfl⟩ := HI6.out.bi.form
      go_wp2
      go_roundw
      case rel => exact ⟨ys ++ [x], q + 1 + 1 + 1, by simp; omega, by simp; omega, Lib.hid (fun x hx => by
        rcases List.mem_append.1 hx with hx | hx
        · exact HR.out x hx
        · simp at hx; omega), HI6⟩
      case measure => simp; omega
    · have hnx : ys.length = n := by omega
      have HNX := Lib.hid hnx
      have HZB1 : Hid (∀ x ∈ ys, -1 ≤ x ∧ x ≤ 1001) := Lib.hid (fun x hx => by have := HR.out x hx; omega)
      rw [hnx] at hq
      have hyn8 : ys.length ≤ 8 := by omega
      generalize hN : ys.length = N at *
      have HYL := Lib.hid hN
      clear hN
      clear hnx
      by_cases hn0 : n = 0
      · have HZL := HYL
        have HZB := HZB1
        have HT := HI
        clear HI HZB1
        have HC := Lib.hid (pick_any w0 _ g A l c q 40 HT.out.rd (by omega))
        go_wp2_with fail
        refine HC.out.mono ?_
        rintro e w6 ⟨kk, rfl, hk1, _, hr, z, hw⟩
        have hone := Rdr.one (g := g) wr (.int .i64 (q + 1 : Nat)) z
        rw [← hw] at hone
        obtain ⟨k0, k1⟩ := hk1 (by omega)
        have HT2 := Lib.hid (SH.one HT.out hr hone)
        clear hr hone hw hk1 HC HT
        by_cases e0 : kk = 0
        · subst e0
          have hb := below_alloc w6 (.cells #[iv 1] 3)
          have HB4 := Lib.hid (HT2.out.bi.below hb).own
          have HN := Lib.hid (cell_one_new w6 (iv 1) 3)
          have hHs := HT2.out.hs
          have HZ := Lib.hid HZL.out
          rw [HZL.out] at HB4
          clear hb
          go_wp2_with (at_builtin; refine wpList_append_own_at _ rfl _ _ 26 rfl w.heap.size 3 i0 (.int .i64 0) 1 8 Try.underlying26 hi0 hz0 hz1 hz2 rfl (by decide) _ N (ys.map iv) rfl HB4.out ⟨w6.heap.size, 0, none⟩ 1 1 [iv 1] rfl rfl ?c1 ?c2 ?c3 ?c4 ?c5 ?_)
          case c1 => exact HN.out
          case c2 => intro u hu; simp at hu; subst hu; rfl
          case c3 => unfold maxLen; omega
          case c4 => omega
          case c5 => simp; omega
          intro v' w7 hown' hgrow _ hat
          rw [← HZ.out] at hown'
          have HI6 := Lib.hid (show SH w0 w g A l c (q + 1) v' (ys ++ [1]) w7 from TI.push HT2.out hown' hgrow (by simpa [Value.ownBlock] using hat))
          clear HB4 HN hown' hgrow hat HT2
          obtain ⟨Au2, cu2, rfl⟩ := HI6.out.bi.form
          go_wp2
          go_ret
          exact ⟨Au2, cu2, ys ++ [1], q + 1, rfl, by rw [List.length_append, HZ.out]; simp; omega, fun x hx => by
            rcases List.mem_append.1 hx with hx | hx
            · exact HZB.out x hx
            · simp at hx; omega, HI6.out, by omega⟩
        · by_cases e1 : kk = 1
          · subst e1
            go_wp2
            go_ret
            exact ⟨_, cu, ys, q + 1, by rw [HZL.out]; rfl, by rw [HZL.out]; omega, HZB.out, by rw [HZL.out]; exact HT2.out, by omega⟩
          · go_wp2
            go_ret
            exact ⟨_, cu, ys, q + 1, by rw [HZL.out]; rfl, by rw [HZL.out]; omega, HZB.out, by rw [HZL.out]; exact HT2.out, by omega⟩
      · have HSO := Lib.hid (show SumOk ys from ⟨by rw [HYL.out]; omega, fun j hj => by have := HR.out _ (gi_mem hj); omega⟩)
        obtain ⟨A', n', c', g', e, -, ho, -⟩ := HI.out.bi.owns (by rw [HYL.out]; omega) (fun x hx => by have := HR.out x hx; omega)
        injection e with e1 e2 e3
        subst e1
        subst e2
        subst e3
        have HC := Lib.hid (sum_any _ _ _ ys _ ho.ints HSO.out)
        clear ho
        go_wp2_with fail
        refine HC.out.mono ?_
        rintro e w3 ⟨rfl, qq, rfl⟩
        have HI2 := Lib.hid (HI.out.below (below_drewN (Below.refl _ _) qq))
        clear HC HI
        by_cases hs0 : tot ys = 0
        · have hs0' : (tot ys == 0) = true := by simpa using hs0
          have HC := Lib.hid (pick_any w0 _ g A l c q n HI2.out.rd (by omega))
          clear hs0
          go_wp2_with fail
          refine HC.out.mono ?_
          rintro e w5 ⟨k, rfl, hk1, _, hr, z, hw⟩
          have hone := Rdr.one (g := g) (wr.drewN qq) (.int .i64 (q + 1 : Nat)) z
          rw [← hw] at hone
          obtain ⟨k0, k1⟩ := hk1 (by omega)
          have HI3 := Lib.hid (HI2.out.one hr hone)
          clear hr hone hw hk1 HC HI2
          obtain ⟨k, rfl⟩ := Int.eq_ofNat_of_zero_le k0
          have hkl : k < ys.length := by rw [HYL.out, HNX.out]; omega
          obtain ⟨b0, cc0, e, hc0, hf0, hset⟩ := HI3.out.set (j := k) hkl 1
          injection e with e1 e2 e3
          subst e1
          have HT := Lib.hid hset
          have HZL := Lib.hid (show (ys.set k 1).length = N by rw [List.length_set, HYL.out])
          have HZB : Hid (∀ x ∈ ys.set k 1, -1 ≤ x ∧ x ≤ 1001) := Lib.hid (fun y hy => by
            rcases List.mem_or_eq_of_mem_set hy with hy | rfl
            · exact HZB1.out y hy
            · omega)
          clear hset HI3 e2 e3 HZB1
          generalize ys.set k 1 = zs at *
          go_wp2_with fail
          clear hc0 hf0
          generalize (some (⟨b0, 0, none⟩ : Addr)) = Au at *
          have HC := Lib.hid (pick_any w0 _ g A l c (q + 1) 40 HT.out.rd (by omega))
          go_wp2_with fail
          refine HC.out.mono ?_
          rintro e w6 ⟨kk, rfl, hk1, _, hr, z, hw⟩
          have hone := Rdr.one (g := g) (w5.setCell ⟨b0, k, none⟩ (.int .i64 1)) (.int .i64 ((q + 1) + 1 : Nat)) z
          rw [← hw] at hone
          obtain ⟨k0, k1⟩ := hk1 (by omega)
          have HT2 := Lib.hid (SH.one HT.out hr hone)
          clear hr hone hw hk1 HC HT
          by_cases e0 : kk = 0
          · subst e0
            have hb := below_alloc w6 (.cells #[iv 1] 3)
            have HB4 := Lib.hid (HT2.out.bi.below hb).own
            have HN := Lib.hid (cell_one_new w6 (iv 1) 3)
            have hHs := HT2.out.hs
            have HZ := Lib.hid HZL.out
            rw [HZL.out] at HB4
            clear hb
            go_wp2_with (at_builtin; refine wpList_append_own_at _ rfl _ _ 26 rfl w.heap.size 3 i0 (.int .i64 0) 1 8 Try.underlying26 hi0 hz0 hz1 hz2 rfl (by decide) _ N (zs.map iv) rfl HB4.out ⟨w6.heap.size, 0, none⟩ 1 1 [iv 1] rfl rfl ?c1 ?c2 ?c3 ?c4 ?c5 ?_)
            case c1 => exact HN.out
            case c2 => intro u hu; simp at hu; subst hu; rfl
            case c3 => unfold maxLen; omega
            case c4 => omega
            case c5 => simp; omega
            intro v' w7 hown' hgrow _ hat
            rw [← HZ.out] at hown'
            have HI6 := Lib.hid (show SH w0 w g A l c ((q + 1) + 1) v' (zs ++ [1]) w7 from TI.push HT2.out hown' hgrow (by simpa [Value.ownBlock] using hat))
            clear HB4 HN hown' hgrow hat HT2
            obtain ⟨Au2, cu2, rfl⟩ := HI6.out.bi.form
            go_wp2
            go_ret
            exact ⟨Au2, cu2, zs ++ [1], (q + 1) + 1, rfl, by rw [List.length_append, HZ.out]; simp; omega, fun x hx => by
              rcases List.mem_append.1 hx with hx | hx
              · exact HZB.out x hx
              · simp at hx; omega, HI6.out, by omega⟩
          · by_cases e1 : kk = 1
            · subst e1
              have HI4 := Lib.hid (HT2.out.below (below_alloc w6 (.cells #[iv 1001, iv (-1), iv 1000] 3)))
              have HIN := Lib.hid (Ints.lit w6 [1001, -1, 1000] (by simp) (by intro x hx; simp at hx; omega))
              have hgw : g < w6.heap.size := blk_lt HT2.out.rd.box
              have HC := Lib.hid (one_any w0 (w6.alloc (.cells #[iv 1001, iv (-1), iv 1000] 3)) g A l c ((q + 1) + 1) _ 3 3 [1001, -1, 1000] HI4.out.rd (by omega) HIN.out (by omega) (fun b' o' e' => by injection e' with e'; injection e' with e' _ _; omega))
              clear HIN HT2
              go_wp2_with fail
              refine HC.out.mono ?_
              rintro e w7 ⟨x, rfl, hx, hr, ho⟩
              have hx5 : -1 ≤ x ∧ x ≤ 1001 := by simp at hx; omega
              have HI5 := Lib.hid (HI4.out.one hr ho)
              clear hx hr ho HC HI4
              obtain ⟨b0, cc0, e, hc0, hf0, hset⟩ := HI5.out.set (j := 0) (by rw [HZL.out]; omega) x
              injection e with e1 e2 e3
              subst e1
              have HI6 := Lib.hid hset
              clear hset HI5 e2 e3
              go_wp2
              go_ret
              exact ⟨_, cu, zs.set 0 x, (q + 1) + 1 + 1, by rw [List.length_set, HZL.out]; rfl, by rw [List.length_set, HZL.out]; omega, fun y hy => by
                rcases List.mem_or_eq_of_mem_set hy with hy | rfl
                · exact HZB.out y hy
                · exact hx5, by rw [List.length_set, HZL.out]; exact HI6.out, by omega⟩
            · go_wp2
              go_ret
              exact ⟨_, cu, zs, (q + 1) + 1, by rw [HZL.out]; rfl, by rw [HZL.out]; omega, HZB.out, by rw [HZL.out]; exact HT2.out, by omega⟩
        · have hs0' : (tot ys == 0) = false := by simpa using hs0
          have HZL := HYL
          have HZB := HZB1
          have HT := HI2
          clear HI2 HZB1 hs0
          have HC := Lib.hid (pick_any w0 _ g A l c q 40 HT.out.rd (by omega))
          go_wp2_with fail
          refine HC.out.mono ?_
          rintro e w6 ⟨kk, rfl, hk1, _, hr, z, hw⟩
          have hone := Rdr.one (g := g) (wr.drewN qq) (.int .i64 (q + 1 : Nat)) z
          rw [← hw] at hone
          obtain ⟨k0, k1⟩ := hk1 (by omega)
          have HT2 := Lib.hid (SH.one HT.out hr hone)
          clear hr hone hw hk1 HC HT
          by_cases e0 : kk = 0
          · subst e0
            have hb := below_alloc w6 (.cells #[iv 1] 3)
            have HB4 := Lib.hid (HT2.out.bi.below hb).own
            have HN := Lib.hid (cell_one_new w6 (iv 1) 3)
            have hHs := HT2.out.hs
            have HZ := Lib.hid HZL.out
            rw [HZL.out] at HB4
            clear hb
            go_wp2_with (at_builtin; refine wpList_append_own_at _ rfl _ _ 26 rfl w.heap.size 3 i0 (.int .i64 0) 1 8 Try.underlying26 hi0 hz0 hz1 hz2 rfl (by decide) _ N (ys.map iv) rfl HB4.out ⟨w6.heap.size, 0, none⟩ 1 1 [iv 1] rfl rfl ?c1 ?c2 ?c3 ?c4 ?c5 ?_)
            case c1 => exact HN.out
            case c2 => intro u hu; simp at hu; subst hu; rfl
            case c3 => unfold maxLen; omega
            case c4 => omega
            case c5 => simp; omega
            intro v' w7 hown' hgrow _ hat
            rw [← HZ.out] at hown'
            have HI6 := Lib.hid (show SH w0 w g A l c (q + 1) v' (ys ++ [1]) w7 from TI.push HT2.out hown' hgrow (by simpa [Value.ownBlock] using hat))
            clear HB4 HN hown' hgrow hat HT2
            obtain ⟨Au2, cu2, rfl⟩ := HI6.out.bi.form
            go_wp2
            go_ret
            exact ⟨Au2, cu2, ys ++ [1], q + 1, rfl, by rw [List.length_append, HZ.out]; simp; omega, fun x hx => by
              rcases List.mem_append.1 hx with hx | hx
              · exact HZB.out x hx
              · simp at hx; omega, HI6.out, by omega⟩
          · by_cases e1 : kk = 1
            · subst e1
              have HI4 := Lib.hid (HT2.out.below (below_alloc w6 (.cells #[iv 1001, iv (-1), iv 1000] 3)))
              have HIN := Lib.hid (Ints.lit w6 [1001, -1, 1000] (by simp) (by intro x hx; simp at hx; omega))
              have hgw : g < w6.heap.size := blk_lt HT2.out.rd.box
              have HC := Lib.hid (one_any w0 (w6.alloc (.cells #[iv 1001, iv (-1), iv 1000] 3)) g A l c (q + 1) _ 3 3 [1001, -1, 1000] HI4.out.rd (by omega) HIN.out (by omega) (fun b' o' e' => by injection e' with e'; injection e' with e' _ _; omega))
              clear HIN HT2
              go_wp2_with fail
              refine HC.out.mono ?_
              rintro e w7 ⟨x, rfl, hx, hr, ho⟩
              have hx5 : -1 ≤ x ∧ x ≤ 1001 := by simp at hx; omega
              have HI5 := Lib.hid (HI4.out.one hr ho)
              clear hx hr ho HC HI4
              obtain ⟨b0, cc0, e, hc0, hf0, hset⟩ := HI5.out.set (j := 0) (by rw [HZL.out]; omega) x
              injection e with e1 e2 e3
              subst e1
              have HI6 := Lib.hid hset
              clear hset HI5 e2 e3
              go_wp2
              go_ret
              exact ⟨_, cu, ys.set 0 x, q + 1 + 1, by rw [List.length_set, HZL.out]; rfl, by rw [List.length_set, HZL.out]; omega, fun y hy => by
                rcases List.mem_or_eq_of_mem_set hy with hy | rfl
                · exact HZB.out y hy
                · exact hx5, by rw [List.length_set, HZL.out]; exact HI6.out, by omega⟩
            · go_wp2
              go_ret
              exact ⟨_, cu, ys, q + 1, by rw [HZL.out]; rfl, by rw [HZL.out]; omega, HZB.out, by rw [HZL.out]; exact HT2.out, by omega⟩
end Go.Proofs.Ytoekpbcdgmejcaa

/- A table and shares, drawn from bytes. -/
namespace Go.Proofs.Ytoekpbcdgmejcaa
open Go.RowKit

theorem OwnR.grown {lo hi w w' b A n c xss} {g : Nat} (h : OwnR lo hi w b A n c xss) (k : w.grownBy w' (some g)) (hg : g < lo) : OwnR lo hi w' b A n c xss :=
  h.of_blocks fun i h1 _ h3 => k.block i h3 (fun e => by injection e with e; omega)
theorem OwnI.grown {lo hi w w' b A n c xs} {g : Nat} (h : OwnI lo hi w b A n c xs) (k : w.grownBy w' (some g)) (hg : g < lo) : OwnI lo hi w' b A n c xs :=
  h.of_block fun hn => k.block _ (h.lt hn) (fun e => by obtain ⟨_, _, q, _⟩ := h.own hn; injection e with e; omega)
theorem Picked.one {w0 g A l c p n w e w'} (h : Picked w0 g A l c p n w e w') : ∃ m : Int, e = .returned (.int .i64 m) ∧ (1 ≤ n → 0 ≤ m ∧ m < n) ∧ Rdr w0 w' g A l c (p + 1) ∧ w.grownBy w' (some g) := by
  obtain ⟨m, h1, h2, _, h4, q, rfl⟩ := h
  exact ⟨m, h1, h2, h4, ⟨rfl, rfl, rfl, by simp [World.setCell], fun k _ hne => Below.heap_setCell _ _ _ _ (fun e => hne (by rw [e]))⟩⟩

/-- A table and shares. -/
def DrawnTS (w : World) (e : Ending) (w' : World) : Prop :=
  ∃ Av n c gg xss Bv m cb ys, e = .returned (.tuple #[.slice Av n c, .slice Bv m cb]) ∧ Small xss ∧ OwnR w.heap.size w'.heap.size w' gg Av n c xss ∧ Ints w' Bv m cb ys ∧ Below w.heap.size w w'
/-- A table and shares of both players. -/
def DrawnTSS (w : World) (e : Ending) (w' : World) : Prop :=
  ∃ Av n c gg xss Bv m cb xs Cv l cc ys, e = .returned (.tuple #[.slice Av n c, .slice Bv m cb, .slice Cv l cc]) ∧ Small xss ∧ OwnR w.heap.size w'.heap.size w' gg Av n c xss ∧ Ints w' Bv m cb xs ∧ Ints w' Cv l cc ys ∧ Below w.heap.size w w'

end Go.Proofs.Ytoekpbcdgmejcaa

/- Squares and fields drawn, with shares or alone. -/
namespace Go.Proofs.Ytoekpbcdgmejcaa
open Go.RowKit

set_option maxHeartbeats 400000 in
theorem DrawStableOf_any (A : Option Addr) (n c : Nat) (w : World) (h : Bytes w A n c) :
    Calls Try.prog 11 #[.slice A n c] w (DrawnT w) := by
  have H0 := Lib.hid (newReader_any A n c w h)
  clear h
  go_enter Try.func11, Try.ntmps11
  go_wp2_with fail
  refine H0.out.mono ?_
  rintro e w1 ⟨A1, l, c1, rfl, hl, hr, hs⟩
  have H1 := Lib.hid (someSquare_any w w1 w.heap.size A1 l c1 0 hr (by omega))
  clear hr hl H0
  go_wp2_with fail
  refine H1.out.mono ?_
  rintro e w2 ⟨wb, v', vs', xss', p', rfl, hsm, hto, hp, hg⟩
  have hsz := hg.size
  obtain ⟨Av, nv, cv, gg, rfl, hnv, hown⟩ := hto.bo.owns (by have := hsm.n; omega)
  have HO := Lib.hid (hown.mono (show w.heap.size ≤ wb.heap.size by omega) (Nat.le_refl _))
  have HB := Lib.hid hto.rd.below
  have HS := Lib.hid hsm
  clear hsm hto hown hg H1 hnv
  go_wp2
  go_ret
  exact ⟨_, _, _, _, _, rfl, HS.out, HO.out, HB.out⟩
set_option maxRecDepth 100000 in
set_option maxHeartbeats 1000000 in
theorem DrawNextShares_any (A : Option Addr) (n c : Nat) (w : World) (h : Bytes w A n c) :
    Calls Try.prog 30 #[.slice A n c] w (DrawnTS w) := by
  have H0 := Lib.hid (newReader_any A n c w h)
  clear h
  go_enter Try.func30, Try.ntmps30
  go_wp2_with fail
  refine H0.out.mono ?_
  rintro e w1 ⟨A1, l, c1, rfl, hl, hr, hs⟩
  have H1 := Lib.hid (someField_any w w1 w.heap.size A1 l c1 0 hr (by omega))
  clear hr hl H0
  go_wp2_with fail
  refine H1.out.mono ?_
  rintro e w2 ⟨wb, v', vs', xss', p', rfl, hsm, hto, hp, hg⟩
  have hsz := hg.size
  obtain ⟨Av, nv, cv, gg, rfl, hnv, hown⟩ := hto.bo.owns (by have := hsm.n; omega)
  have HO := Lib.hid (hown.mono (show w.heap.size + 1 ≤ wb.heap.size by have := hto.gl; omega) (Nat.le_refl _))
  have HB := Lib.hid hto.rd.below
  have HS := Lib.hid hsm
  have hn8 : nv ≤ 8 := by rw [hnv]; exact hsm.n
  have HC := Lib.hid (sharesOf_any w w2 w.heap.size A1 l c1 p' nv hto.rd (by omega) hn8)
  clear hsm hto hown hg H1 hnv
  go_wp2_with fail
  refine HC.out.mono ?_
  rintro e w4 ⟨Bv, cb, ys, p2, rfl, hyl, hyb, hsh, hp'⟩
  obtain ⟨A', n', c', g', e, -, ho, -⟩ := hsh.bi.owns (by omega) (fun x hx => by have := hyb x hx; omega)
  injection e with e1 e2 e3
  subst e1
  subst e2
  subst e3
  have HI := Lib.hid ho.ints
  have HB4 := Lib.hid hsh.rd.below
  have HO4 := Lib.hid ((HO.out.grown hsh.up (by omega)).mono (Nat.le_succ _) hsh.up.size)
  clear hsh ho HC hyb HO HB
  go_wp2
  go_ret2
  exact ⟨Av, nv, cv, gg, xss', Bv, _, cb, ys, rfl, HS.out, HO4.out, HI.out, HB4.out⟩
set_option maxRecDepth 100000 in
set_option maxHeartbeats 1000000 in
theorem DrawGrowthOf_any (A : Option Addr) (n c : Nat) (w : World) (h : Bytes w A n c) :
    Calls Try.prog 41 #[.slice A n c] w (DrawnTS w) := by
  have H0 := Lib.hid (newReader_any A n c w h)
  clear h
  go_enter Try.func41, Try.ntmps41
  go_wp2_with fail
  refine H0.out.mono ?_
  rintro e w1 ⟨A1, l, c1, rfl, hl, hr, hs⟩
  have H1 := Lib.hid (someField_any w w1 w.heap.size A1 l c1 0 hr (by omega))
  clear hr hl H0
  go_wp2_with fail
  refine H1.out.mono ?_
  rintro e w2 ⟨wb, v', vs', xss', p', rfl, hsm, hto, hp, hg⟩
  have hsz := hg.size
  obtain ⟨Av, nv, cv, gg, rfl, hnv, hown⟩ := hto.bo.owns (by have := hsm.n; omega)
  have HO := Lib.hid (hown.mono (show w.heap.size + 1 ≤ wb.heap.size by have := hto.gl; omega) (Nat.le_refl _))
  have HB := Lib.hid hto.rd.below
  have HS := Lib.hid hsm
  have hn8 : nv ≤ 8 := by rw [hnv]; exact hsm.n
  have HC := Lib.hid (sharesOf_any w w2 w.heap.size A1 l c1 p' nv hto.rd (by omega) hn8)
  clear hsm hto hown hg H1 hnv
  go_wp2_with fail
  refine HC.out.mono ?_
  rintro e w4 ⟨Bv, cb, ys, p2, rfl, hyl, hyb, hsh, hp'⟩
  obtain ⟨A', n', c', g', e, -, ho, -⟩ := hsh.bi.owns (by omega) (fun x hx => by have := hyb x hx; omega)
  injection e with e1 e2 e3
  subst e1
  subst e2
  subst e3
  have HI := Lib.hid ho.ints
  have HB4 := Lib.hid hsh.rd.below
  have HO4 := Lib.hid ((HO.out.grown hsh.up (by omega)).mono (Nat.le_succ _) hsh.up.size)
  clear hsh ho HC hyb HO HB
  go_wp2
  go_ret2
  exact ⟨Av, nv, cv, gg, xss', Bv, _, cb, ys, rfl, HS.out, HO4.out, HI.out, HB4.out⟩

end Go.Proofs.Ytoekpbcdgmejcaa

/- Pure rests, by the program. -/
namespace Go.Proofs.Ytoekpbcdgmejcaa
open Go.RowKit

theorem Try.info32b : (Try.prog.info? 26).map (fun i => (i.zero, i.size, i.bytes)) = some (some (.slice none 0 0), 1, 24) := by kernel_rfl

/-- What the loops know: the game, the turned table, the rests so far. -/
structure PS (p : GP) (w : World) (N L : Nat) (wr : World) (v : Value) (vs : List Value) (xs ys rs : List (List Int)) : Prop where
  gt : GT p w wr w.heap.size xs ys
  tn : OwnR N L wr N (some ⟨N, 0, none⟩) p.m p.m (flip xs p.n p.m)
  bd : Bld L wr.heap.size wr v vs rs
  h1 : w.heap.size < N
  h2 : N < L
  h3 : L ≤ wr.heap.size
theorem PS.qu {p w N L wr wr' v vs xs ys rs} (h : PS p w N L wr v vs xs ys rs) (k : Quiet wr wr') : PS p w N L wr' v vs xs ys rs := by
  have kb : Below wr.heap.size wr wr' := k.below
  exact ⟨h.gt.up kb, h.tn.below kb, (h.bd.below kb).mono kb.size, h.h1, h.h2, Nat.le_trans h.h3 kb.size⟩

set_option maxHeartbeats 1000000 in
theorem PureRests_impl (A B : Option Addr) (n c m d : Nat) (xs ys : List (List Int)) (w : World) (hx : IntRows w A n c xs) (hy : IntRows w B m d ys) :
    Calls Try.prog 16 #[.agg #[.slice A n c, .slice B m d]] w (RetR (pureR xs ys) w) := by
  have hb0 := below_alloc w (.cells #[.slice A n c, .slice B m d] 31)
  have b0 := blk_new w 31 #[.slice A n c, .slice B m d]
  have HB := Lib.hid hb0
  have HK := Lib.hid b0
  have HX := Lib.hid (hx.keep (Keep.below hb0))
  have HY := Lib.hid (hy.keep (Keep.below hb0))
  have HX0 := Lib.hid hx
  have HY0 := Lib.hid hy
  clear hx hy hb0 b0
  go_enter Try.func16, Try.ntmps16
  go_wp2_with fail
  generalize w.alloc (.cells #[.slice A n c, .slice B m d] 31) = W1 at *
  have HC := Lib.hid (ValidGame_impl _ _ _ _ _ _ _ _ _ HX.out HY.out)
  by_cases hv : VG xs ys
  · refine ((pb_true hv) ▸ HC.out).mono ?_
    rintro e w1 ⟨rfl, hb⟩
    have hb2 := below_up HB.out hb
    have hk2 := blk_below HK.out hb
    obtain ⟨p, rfl, rfl, rfl, rfl, rfl, rfl, hg⟩ := GV.of HX0.out HY0.out hv
    have HT := Lib.hid (show GT p w w1 w.heap.size xs ys from ⟨hb2, hk2, hg⟩)
    have hn3 := hg.tx.n3
    have hm3 := hg.tx.m3
    have hn1 := hg.tx.n1
    have hm1 := hg.tx.m1
    have HP := Lib.hid (show pureR xs ys = allRests xs ys p.n p.m p.n by rw [pureR, if_pos (pb_true hv), hg.lx, hg.mx])
    have HLY := Lib.hid (show ∀ i, i < p.n → (gr ys i).length = p.m from fun i hi => (hg.ty.ints i hi).len)
    clear hb hv hb2 hk2 hg HX HY HX0 HY0 HB HK HC
    have k0 := HT.out.c0
    go_wp2_with fail
    refine (turned_any _ _ _ _ _ _ _ _ _ _ HT.out.gv.tx).mono ?_
    rintro e w2 ⟨rfl, ho, hb, hlt⟩
    have HS := Lib.hid (show PS p w w1.heap.size w2.heap.size w2 (.slice none 0 0) [] xs ys [] from ⟨HT.out.up hb, ho, Bld.nil _ _ _, blk_lt HT.out.box, hlt, Nat.le_refl _⟩)
    clear ho hb hlt HT k0
    generalize w1.heap.size = N at *
    generalize w2.heap.size = L at *
    have k1 := HS.out.gt.c1
    go_wp2
    clear k1
    go_loopw [4, 18] (fun v s wr => ∃ (i : Nat) (vs : List Value), i ≤ p.n ∧ s = .int .i64 i ∧ Hid (PS p w N L wr v vs xs ys (allRests xs ys p.n p.m i))) (fun _ s _ => p.n - (intOf s).toNat)
    case atStart => exact ⟨0, [], Nat.zero_le _, rfl, HS⟩
    case round =>
      clear HS
      obtain ⟨i, vs, hi, rfl, HS⟩ := hrel
      by_cases hin : i < p.n
      · have s1 := HS.out.gt.gv.ty.row i hin
        go_wp2
        clear s1
        go_loopw [4, 25] (fun v s wj => ∃ (j : Nat) (vs : List Value), j ≤ p.m ∧ s = .int .i64 j ∧ Hid (PS p w N L wj v vs xs ys (allRests xs ys p.n p.m i ++ rowRests xs ys p.n p.m i j))) (fun _ s _ => p.m - (intOf s).toNat)
        case atStart => exact ⟨0, vs, Nat.zero_le _, rfl, Lib.hid (by rw [rowRests, List.append_nil]; exact HS.out)⟩
        case round =>
          clear HS vs
          obtain ⟨j, vs, hj, rfl, HS⟩ := hrel
          by_cases hjm : j < p.m
          · have k0 := HS.out.gt.c0
            have r1 := HS.out.gt.gv.tx.row i hin
            have e1 := HS.out.gt.gv.tx.cell i j hin hjm
            have f1 := HS.out.gt.gv.ty.cell i j hin hjm
            obtain ⟨R, cc, t1, tI⟩ := HS.out.tn.row0 hjm
            have hfl : (gr (flip xs p.n p.m) j).length = p.n := by rw [gr_flip hjm]; simp
            have HQX := Lib.hid tI
            have HQY := Lib.hid (HS.out.gt.gv.ty.ints i hin)
            clear tI
            generalize hcol : gr (flip xs p.n p.m) j = col at *
            have HCOL := Lib.hid hcol
            clear hcol
            have QX := Lib.hid (fun W (hW : Quiet wr W) => Max_any _ _ _ _ W (HQX.out.keep (Keep.quiet hW)) (by omega))
            have QY := Lib.hid (fun W (hW : Quiet wr W) => Max_any _ _ _ _ W (HQY.out.keep (Keep.quiet hW)) (by omega))
            clear HQX HQY hfl
            by_cases h1 : g2 xs i j = mxl col
            · have h1' : (g2 xs i j == mxl col) = true := by simp [h1]
              by_cases h2 : g2 ys i j = mxl (gr ys i)
              · have h2' : (g2 ys i j == mxl (gr ys i)) = true := by simp [h2]
                have HR := Lib.hid (rowRests_yes ((RestAt_iff hin hjm (HLY.out i hin)).2 ⟨by rw [HCOL.out]; exact h1, h2⟩))
                clear h1 h2
                go_wp2
                go_quiet ((go_at_call 55; (first | (with_reducible refine quiet_fit (QX.out _ ?_) (fun m => ?_)) | (with_reducible refine quiet_fit (QY.out _ ?_) (fun m => ?_))); (first | exact ⟨_, rfl⟩ | exact Quiet.two _ _ _); (first | exact drewN_to1 _ _ _ | exact drewN_to2 _ _ _ _)))
                have HS2 := Lib.hid (HS.out.qu ⟨nq, rfl⟩)
                have hlen : (allRests xs ys p.n p.m i ++ rowRests xs ys p.n p.m i j).length ≤ 12 := by
                  have h1 := allRests_len xs ys p.n p.m hm3 i
                  have h2 := rowRests_len xs ys p.n p.m i j
                  rw [List.length_append]; omega
                clear QX QY h1' h2' HS k0 r1 e1 f1 t1
                generalize wr.drewN nq = w2 at *
                have hb3 := below_alloc w2 (.cells #[.int .i64 i, .int .i64 j] 3)
                have hb4 := below_alloc (w2.alloc (.cells #[.int .i64 i, .int .i64 j] 3)) (.cells #[.slice (some ⟨w2.heap.size, 0, none⟩) 2 2] 26)
                have HB4 := Lib.hid ((HS2.out.bd.below hb3).below hb4).own
                have HN := Lib.hid (cell_one_new (w2.alloc (.cells #[.int .i64 i, .int .i64 j] 3)) (.slice (some ⟨w2.heap.size, 0, none⟩) 2 2) 26)
                have hL := HS2.out.h3
                clear hb3 hb4
                generalize hrs : allRests xs ys p.n p.m i ++ rowRests xs ys p.n p.m i j = rs at *
                have HRS := Lib.hid hrs
                clear hrs
                obtain ⟨i0, hi0, hz0, hz1, hz2⟩ := info_parts Try.info32b
                go_wp2_with (at_builtin; refine wpList_append_own_at _ rfl _ _ 23 rfl L 26 i0 (.slice none 0 0) 1 24 Try.underlying23 hi0 hz0 hz1 hz2 rfl (by decide) _ rs.length vs rfl HB4.out ⟨w2.heap.size + 1, 0, none⟩ 1 1 [.slice (some ⟨w2.heap.size, 0, none⟩) 2 2] rfl rfl ?c1 ?c2 ?c3 ?c4 ?c5 ?_)
                case c1 => have h := HN.out; rw [World.size_alloc] at h; exact h
                case c2 => intro u hu; simp at hu; subst hu; rfl
                case c3 => unfold maxLen; omega
                case c4 => omega
                case c5 => simp; omega
                intro v' w5 hown' hgrow _ hat
                obtain ⟨hP, hK⟩ := push_pair HS2.out.bd (by omega) (by omega) hown' hgrow hat hL
                have HS5 := Lib.hid (show PS p w N L w5 v' _ xs ys _ from ⟨HS2.out.gt.up2 hK (by have := HS2.out.h1; have := HS2.out.h2; omega) (by have := HS2.out.h1; have := HS2.out.h2; omega), HS2.out.tn.of_blocks (fun g _ hg _ => hK.block g hg), hP, HS2.out.h1, HS2.out.h2, Nat.le_trans hL hK.size⟩)
                clear HB4 HN hown' hgrow hat hP hK HS2
                go_wp2
                go_roundw
                case rel => exact ⟨j + 1, _, by omega, by go_num, Lib.hid (by rw [HR.out, ← List.append_assoc, HRS.out]; exact HS5.out)⟩
                case measure => simp [intOf]; omega
              · have h2' : (g2 ys i j == mxl (gr ys i)) = false := by simp [h2]
                have HR := Lib.hid (rowRests_no (a := xs) (fun v => h2 ((RestAt_iff hin hjm (HLY.out i hin)).1 v).2))
                clear h1 h2
                go_wp2
                go_quiet ((go_at_call 55; (first | (with_reducible refine quiet_fit (QX.out _ ?_) (fun m => ?_)) | (with_reducible refine quiet_fit (QY.out _ ?_) (fun m => ?_))); (first | exact ⟨_, rfl⟩ | exact Quiet.two _ _ _); (first | exact drewN_to1 _ _ _ | exact drewN_to2 _ _ _ _)))
                have HS2 := Lib.hid (HS.out.qu ⟨nq, rfl⟩)
                go_wp2
                go_roundw
                case rel => exact ⟨j + 1, vs, by omega, by go_num, Lib.hid (by rw [HR.out]; exact HS2.out)⟩
                case measure => simp [intOf]; omega
            · have h1' : (g2 xs i j == mxl col) = false := by simp [h1]
              have HR := Lib.hid (rowRests_no (fun v => h1 (by have := ((RestAt_iff hin hjm (HLY.out i hin)).1 v).1; rw [HCOL.out] at this; exact this)))
              clear h1
              go_wp2
              go_quiet ((go_at_call 55; (first | (with_reducible refine quiet_fit (QX.out _ ?_) (fun m => ?_)) | (with_reducible refine quiet_fit (QY.out _ ?_) (fun m => ?_))); (first | exact ⟨_, rfl⟩ | exact Quiet.two _ _ _); (first | exact drewN_to1 _ _ _ | exact drewN_to2 _ _ _ _)))
              have HS2 := Lib.hid (HS.out.qu ⟨nq, rfl⟩)
              go_wp2
              go_roundw
              case rel => exact ⟨j + 1, vs, by omega, by go_num, Lib.hid (by rw [HR.out]; exact HS2.out)⟩
              case measure => simp [intOf]; omega
          · go_wp2
            go_roundw
            case rel => exact ⟨i + 1, vs, by omega, by go_num, Lib.hid (by have h := HS.out; rw [show j = p.m by omega] at h; rw [allRests]; exact h)⟩
            case measure => simp [intOf]; omega
      · go_wp2
        go_ret
        obtain ⟨A, n, c, g, rfl, hn, ho⟩ := HS.out.bd.owns (by have := allRests_len xs ys p.n p.m hm3 i; omega)
        have e : pureR xs ys = allRests xs ys p.n p.m i := by rw [HP.out, show i = p.n by omega]
        exact ⟨A, n, c, g, rfl, by rw [e]; exact hn, by rw [e]; exact ho.mono (by have := HS.out.h1; have := HS.out.h2; omega) (Nat.le_refl _), HS.out.gt.below⟩
  · have HZ := Lib.hid (show pureR xs ys = [] by rw [pureR, if_neg (by rw [pb_false hv]; decide)])
    refine ((pb_false hv) ▸ HC.out).mono ?_
    rintro e w1 ⟨rfl, hb⟩
    have HB2 := Lib.hid (below_up HB.out hb)
    clear hb hv HC
    go_wp2
    go_ret
    exact ⟨none, 0, 0, 0, rfl, by rw [HZ.out]; rfl, by rw [HZ.out]; exact OwnR.nil _ _ _ _, HB2.out⟩
end Go.Proofs.Ytoekpbcdgmejcaa

