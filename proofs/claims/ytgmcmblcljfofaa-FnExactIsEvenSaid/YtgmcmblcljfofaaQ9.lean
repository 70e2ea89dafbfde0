/- Texts merged: K8 K9 Z5 W7 Z6 K10 C9 E9. -/
import Derived.Test.YtgmcmblcljfofaaQ8
import Derived.Laws.CopyOwn
/- The next shares, by both programs. -/
namespace Go.Proofs.Ytgmcmblcljfofaa
open Go.RowKit

/-- What the next shares are to each other. -/
def nxV (a : List (List Int)) (x : List Int) (n i : Nat) : Int := gi x i * dotr a x i n
def nxL (a : List (List Int)) (x : List Int) (n k : Nat) : List Int := (List.range k).map (nxV a x n)
theorem nxL_succ (a : List (List Int)) (x : List Int) (n k : Nat) : nxL a x n (k + 1) = nxL a x n k ++ [nxV a x n k] := by simp [nxL, List.range_succ]
theorem nxL_len (a : List (List Int)) (x : List Int) (n k : Nat) : (nxL a x n k).length = k := by simp [nxL]
theorem gi_nxL {a : List (List Int)} {x : List Int} {n k i : Nat} (h : i < k) : gi (nxL a x n k) i = nxV a x n i := gi_range h
theorem VQ.len2' {a : List (List Int)} {n : Nat} (v : VQ a) (hl : a.length = n) : (gr a 0).length = n := by have := v.2; omega
theorem dotr_pos {a : List (List Int)} {x : List Int} {i n : Nat} (ha : ∀ j, j < n → 1 ≤ g2 a i j) (hx : ∀ j, j < n → 0 ≤ gi x j) : ∀ {k}, k ≤ n → sm x k ≤ dotr a x i k
  | 0, _ => Int.le_refl _
  | k + 1, h => by
    have h1 := dotr_pos ha hx (k := k) (by omega)
    have h2 := ha k (by omega)
    have h3 := hx k (by omega)
    have h4 : 1 * gi x k ≤ g2 a i k * gi x k := Int.mul_le_mul_of_nonneg_right h2 h3
    simp only [sm, dotr]
    omega
/-- A field and shares. -/
structure FS (a : List (List Int)) (x : List Int) (n : Nat) : Prop where
  f : VF a
  s : VS x (n : Int)
  l : a.length = n
theorem FS.n3 {a x n} (h : FS a x n) : 1 ≤ n ∧ n ≤ 3 := by have := h.f.q.1.n1; have := h.f.q.1.n3; have := h.l; omega
theorem FS.xl {a x n} (h : FS a x n) : x.length = n := by have := h.s.1; omega
theorem FS.x {a x n} (h : FS a x n) : ∀ j, j < n → 0 ≤ gi x j ∧ gi x j ≤ 1000 := VS.bds h.s
theorem FS.a {a x n} (h : FS a x n) {i j : Nat} (hi : i < n) (hj : j < n) : 1 ≤ g2 a i j ∧ g2 a i j ≤ 9 := by
  have hl := h.l
  have h1 := h.f.p i j (by omega) (by omega)
  have h2 := h.f.q.1.bd (i := i) (j := j) (by omega) (by have := h.f.q.2; omega)
  omega
theorem FS.dot {a x n} (h : FS a x n) {i : Nat} (hi : i < n) : 1 ≤ dotr a x i n ∧ dotr a x i n ≤ 27000 := by
  have h0 := h.n3
  have h1 := dotr_pos (a := a) (x := x) (i := i) (n := n) (fun j hj => (h.a hi hj).1) (fun j hj => (h.x j hj).1) (Nat.le_refl n)
  have h2 := dotr_bd (a := a) (w := x) (i := i) (m := n) (fun j hj => by have := h.a hi hj; omega) h.x (Nat.le_refl n)
  have h3 := h.s.2.2
  unfold tot at h3
  rw [h.xl] at h3
  omega
theorem FS.nx {a x n} (h : FS a x n) {i : Nat} (hi : i < n) : 0 ≤ nxV a x n i ∧ nxV a x n i ≤ 27000000 ∧ (0 < gi x i → 0 < nxV a x n i) := by
  have h1 := h.dot hi
  have h2 := h.x i hi
  unfold nxV
  have h3 : 0 * dotr a x i n ≤ gi x i * dotr a x i n := Int.mul_le_mul_of_nonneg_right h2.1 (by omega)
  have h4 : gi x i * dotr a x i n ≤ 1000 * 27000 := Int.mul_le_mul h2.2 h1.2 (by omega) (by omega)
  exact ⟨by omega, by omega, fun h => Int.mul_pos h (by omega)⟩
theorem sm_has {x : List Int} : ∀ {k}, (∀ j, j < k → 0 ≤ gi x j) → 0 < sm x k → ∃ j, j < k ∧ 0 < gi x j
  | 0, _, h => by simp [sm] at h
  | k + 1, hp, h => by
    by_cases e : 0 < gi x k
    · exact ⟨k, by omega, e⟩
    · have h1 := hp k (by omega)
      obtain ⟨j, hj, hp'⟩ := sm_has (x := x) (k := k) (fun j hj => hp j (by omega)) (by simp only [sm] at h; omega)
      exact ⟨j, by omega, hp'⟩
theorem FS.clr {a x n} (h : FS a x n) : ClrP (nxL a x n n) ∧ 0 < gcdL (nxL a x n n) n := by
  have h0 := h.s.2.2
  unfold tot at h0
  rw [h.xl] at h0
  obtain ⟨j, hj, hp⟩ := sm_has (fun j hj => (h.x j hj).1) h0
  have hc : ClrP (nxL a x n n) := by
    refine ⟨⟨j, by rw [nxL_len]; exact hj, ?_⟩, .inl fun p hp => ?_⟩
    · rw [gi_nxL hj]; have := (h.nx hj).2.2 hp; omega
    · rw [nxL_len] at hp; rw [gi_nxL hp]; exact (h.nx hp).1
  exact ⟨hc, (clr_yes (nxL_len a x n n) hc).1⟩
theorem FS.mid {a x n} (h : FS a x n) : ∀ p, p < (nxL a x n n).length → Mid (gi (nxL a x n n) p) := fun p hp => by
  rw [nxL_len] at hp
  rw [gi_nxL hp]
  have := h.nx hp
  unfold Mid
  omega
/-- What NextShares answers. -/
noncomputable def nsF (a : List (List Int)) (x : List Int) : List Int := if pb (VF a ∧ VS x a.length) = true then clrL (nxL a x a.length a.length) (gcdL (nxL a x a.length a.length) a.length) a.length else []
theorem nsF_yes {a : List (List Int)} {x : List Int} {n : Nat} (h : FS a x n) : nsF a x = clrL (nxL a x n n) (gcdL (nxL a x n n) n) n := by
  unfold nsF; rw [if_pos (pb_true ⟨h.f, by rw [h.l]; exact h.s⟩), h.l]
theorem nsF_no {a : List (List Int)} {x : List Int} (h : ¬ (VF a ∧ VS x a.length)) : nsF a x = [] := by unfold nsF; rw [if_neg (by rw [pb_false h]; decide)]
theorem FS.of {a : List (List Int)} {x : List Int} {n : Nat} (hl : a.length = n) (hf : VF a) (hs : VS x (n : Int)) : FS a x n := ⟨hf, hs, hl⟩
theorem nsF_le (a : List (List Int)) (x : List Int) : (nsF a x).length ≤ 100 := by
  by_cases h : VF a ∧ VS x a.length
  · have hf : FS a x a.length := ⟨h.1, h.2, rfl⟩
    have := hf.n3
    rw [nsF_yes hf, clrL_len]; omega
  · rw [nsF_no h]; simp

set_option maxRecDepth 100000 in
set_option maxHeartbeats 3200000 in
theorem next_any (b o : Nat) (rb ro cc : Nat → Nat) (n c cx : Nat) (X : Option Addr) (a : List (List Int)) (x : List Int) (w : World) (ht : Tab w b o rb ro cc n n a) (hx : Ints w X n cx x) (hf : FS a x n) :
    Calls Try.prog 69 #[.slice (some ⟨b, o, none⟩) n c, .slice X n cx] w (NewI w (nsF a x)) := by
  have HT := Lib.hid ht
  have HX := Lib.hid hx
  have HF := Lib.hid hf
  have hn1 := ht.n1
  have hn3 := ht.n3
  have HPB := Lib.hid (fun i => (⟨ht.bd, onl_bds n i, hf.x⟩ : PB a (onl n i) x n n))
  have HPU := Lib.hid (fun i (hi : i < n) => payU_alone a x n n i hi)
  have HNS := Lib.hid (nsF_yes hf)
  obtain ⟨bx, ox, rfl, hcx⟩ := hx.at_ (by omega)
  have HCX := Lib.hid hcx
  obtain ⟨i0, hi0, hz0, hz1, hz2⟩ := info_parts Try.infoI
  have HS0 := Lib.hid (IU.start w)
  have HZ : Hid (nxL a x n 0 = []) := Lib.hid rfl
  clear ht hx hf hcx
  go_enter Try.func69, Try.ntmps69
  go_wp2
  go_loopw [5, 6] (fun v i wr => ∃ k : Nat, k ≤ n ∧ i = .int .i64 k ∧ Hid (IU w v (nxL a x n k) wr)) (fun _ i _ => n - (intOf i).toNat)
  case atStart => exact ⟨0, Nat.zero_le _, rfl, Lib.hid (by rw [HZ.out]; exact HS0.out)⟩
  case round =>
    clear HS0 HZ
    obtain ⟨k, hk, rfl, HI⟩ := hrel
    obtain ⟨Av, cv, rfl⟩ := HI.out.bi.form
    by_cases hlt : k < n
    · have c1 := Keep.below HI.out.up _ _ (HCX.out k hlt)
      have HC0 := Lib.hid c1
      have HCS := Lib.hid (nxL_succ a x n k)
      have HML := Lib.hid (nxL_len a x n k)
      obtain ⟨d1, d2⟩ := HF.out.dot hlt
      obtain ⟨x1, x2⟩ := HF.out.x k hlt
      have hnv := HF.out.nx hlt
      have HNV : Hid (nxV a x n k = gi x k * dotr a x k n) := Lib.hid rfl
      rw [HNV.out] at hnv
      obtain ⟨v1, v2, -⟩ := hnv
      have hyl : (nxL a x n k).length ≤ 3 := by have := HML.out; omega
      generalize nxL a x n k = ys at *
      have HP := Lib.hid (HPU.out k hlt)
      generalize dotr a x k n = D at *
      have HW : Hid (IntKind.i64.wrap (gi x k * D) = gi x k * D) := Lib.hid (wrap_in64 (by omega))
      go_wp2
      go_region_law ((first
        | (refine step_append_lies _ (by rfl) _ _ _ (by rfl) w.heap.size 3 i0 _ 1 8 Try.underlying27 hi0 hz0 hz1 hz2 rfl (by omega) (.slice Av ys.length cv) ys.length (ys.map iv) (by rfl) (HI3.out.bi.own.alloc _) ⟨w3.heap.size, 0, none⟩ 1 1 [iv (IntKind.i64.wrap (gi x k * D))] (by rfl) (by rfl) (World.news_of_block (w := w3.alloc (.cells #[iv (IntKind.i64.wrap (gi x k * D))] 3)) (cs := #[iv (IntKind.i64.wrap (gi x k * D))]) (t := 3) (fr := (0, 0)) (heap_alloc_new w3 _)) (by simp [Value.oneCell', iv]) (by omega) (by unfold maxLen; omega) (by omega) (by simp; omega) (w3.heap.size + 1) (by simp) ?_; intro gg cap w1 hown1 hgrow hat hlt1; rw [HW.out] at hown1; have HI4 := Lib.hid (HI3.out.push2 (below_alloc w3 _) hown1 hgrow hlt1); have k9 := Keep.below HI4.out.up _ _ (HCX.out k hlt); clear hown1 hgrow hat hlt1 HI3)
        | (go_simp; go_at_call 78; refine (alone_spec n k _ (by omega) hlt).mono ?_; rintro e w2 ⟨rfl, ho, hb⟩; have HI2 := Lib.hid ((HI.out.qu ⟨1, rfl⟩).next hb); have HO := Lib.hid ho.ints; have k5 := Keep.below HI2.out.up _ _ (HCX.out k hlt); clear ho hb HI)
        | (go_simp; go_at_call 73; refine (HP.out ▸ payUp_any b o rb ro cc n n c n cx _ _ a (onl n k) x w2 (HT.out.keep (Keep.below HI2.out.up)) HO.out (HX.out.keep (Keep.below HI2.out.up)) (HPB.out k)).mono ?_; rintro e w3 ⟨rfl, hq⟩; have HI3 := Lib.hid (HI2.out.qu hq); have k6 := Keep.below HI3.out.up _ _ (HCX.out k hlt); have k7 : (w3.alloc (.cells #[.int .i64 (IntKind.i64.wrap (gi x k * D))] 3)).cell? ⟨bx, ox + k, none⟩ = some (.int .i64 (gi x k)) := (by rw [World.cell?_alloc_lt _ _ _ (World.block_lt_of_cell? _ _ k6)]; exact k6); have hwz := HI3.out.up.size; clear hq HI2)))
      all_goals
        clear k5 k6 k7 k9 c1
        go_wp2
        go_roundw
        case rel => exact ⟨k + 1, by omega, by go_num, Lib.hid (by rw [HCS.out, HNV.out]; first | exact HI4.out | exact HI4.out.qu ⟨1, rfl⟩ | exact HI4.out.qu ⟨_, rfl⟩)⟩
        case measure => simp [intOf]; omega
    · obtain rfl : k = n := by omega
      have HML := Lib.hid (nxL_len a x k k)
      have HUP := Lib.hid HI.out.up
      have HCL := Lib.hid HF.out.clr
      have HMD := Lib.hid HF.out.mid
      have HIN := Lib.hid (HI.out.ints (by rw [nxL_len]; omega) (fun y hy => by obtain ⟨p, hp, rfl⟩ := mem_gi hy; have := HF.out.mid p hp; unfold Mid at this; omega))
      have hyl : (nxL a x k k).length ≤ 3 := by have := HML.out; omega
      clear HI
      generalize nxL a x k k = ys at *
      have HC := Lib.hid (cleared_any _ _ _ ys wr HIN.out HMD.out hyl)
      go_wp2_with fail
      refine HC.out.mono ?_
      rintro e w2 hnc
      rcases hnc with ⟨_, Av2, n2, c2, gg, rfl, hn2, ho, hb⟩ | ⟨h, _⟩
      · have HB2 := Lib.hid (below_up HUP.out hb)
        have HNW : Hid (NewI w (nsF a x) (.returned (.slice Av2 n2 c2)) w2) := Lib.hid (by
          have ho2 := ho.mono (lo' := w.heap.size) (hi' := w2.heap.size) HUP.out.size (Nat.le_refl _)
          rw [HNS.out]
          rw [HML.out] at ho2
          exact ⟨Av2, n2, c2, gg, rfl, by rw [clrL_len, hn2, HML.out], ho2, HB2.out⟩)
        clear ho hb HC hn2
        go_wp2
        go_ret
        exact HNW.out
      · exact absurd HCL.out.1 h
end Go.Proofs.Ytgmcmblcljfofaa

/- NextShares, by both programs. -/
namespace Go.Proofs.Ytgmcmblcljfofaa
open Go.RowKit

theorem NewI.empty {w w' : World} {ys : List Int} (h : Below w.heap.size w w') (hy : ys = []) : NewI w ys (.returned (.slice none 0 0)) w' := by
  subst hy; exact ⟨none, 0, 0, 0, rfl, rfl, OwnI.nil _ _ _ _, h⟩
theorem NewI.from {w w1 w2 : World} {ys : List Int} {e : Ending} (h : Below w.heap.size w w1) (k : NewI w1 ys e w2) : NewI w ys e w2 := by
  obtain ⟨A, n, c, g, he, hn, ho, hb⟩ := k
  exact ⟨A, n, c, g, he, hn, ho.mono h.size (Nat.le_refl _), below_up h hb⟩

set_option maxRecDepth 100000 in
set_option maxHeartbeats 1600000 in
theorem NextShares_spec (A : Option Addr) (n c : Nat) (a : List (List Int)) (X : Option Addr) (nx cx : Nat) (x : List Int) (w : World) (ha : IntRows w A n c a) (hx : Ints w X nx cx x) :
    Calls Try.prog 35 #[.slice A n c, .slice X nx cx] w (NewI w (nsF a x)) := by
  have HX := Lib.hid ha
  have HY := Lib.hid hx
  have hl := ha.len
  have hlx := hx.len
  clear ha hx
  by_cases hv : VF a
  · have HC := Lib.hid (pb_true hv ▸ validField_any A n c a w HX.out)
    have hn3 := hv.q.1.n3
    rw [hl] at hn3
    by_cases hs : VS x (n : Int)
    · have HF := Lib.hid (FS.of hl hv hs)
      have HS := Lib.hid (fun W (k : Keep w W) => pb_true hs ▸ validShares_any X nx cx x (n : Int) W (HY.out.keep k) (by omega))
      have hm := hv.q.len2' hl
      obtain ⟨b, o, rb, ro, cc, rfl, tab⟩ := HX.out.tab hv.q.1
      rw [hm] at tab
      have HT := Lib.hid tab
      obtain rfl : n = nx := by have := hs.1; omega
      clear hm tab hv hs hl hlx
      go_enter Try.func35, Try.ntmps35
      go_wp2_with fail
      refine HC.out.mono ?_
      rintro e w1 ⟨rfl, hq⟩
      have HB1 := Lib.hid (show Below w.heap.size w w1 from hq.below)
      clear hq HC
      have HC := Lib.hid (HS.out w1 (Keep.below HB1.out))
      go_wp2_with fail
      refine HC.out.mono ?_
      rintro e w2 ⟨rfl, hq⟩
      have HB2 := Lib.hid (below_quiet HB1.out hq)
      clear hq HC HB1
      have HC := Lib.hid (next_any b o rb ro cc n c cx X a x w2 (HT.out.keep (Keep.below HB2.out)) (HY.out.keep (Keep.below HB2.out)) HF.out)
      go_wp2_with fail
      refine HC.out.mono ?_
      rintro e w3 hnew
      have HN := Lib.hid (NewI.from HB2.out hnew)
      obtain ⟨A3, n3, c3, g3, rfl, -⟩ := hnew
      clear HC HB2
      go_wp2
      go_ret
      exact HN.out
    · have HN := Lib.hid (nsF_no (a := a) (x := x) (fun h => hs (by have := h.2; rw [hl] at this; exact this)))
      have HS := Lib.hid (fun W (k : Keep w W) => pb_false hs ▸ validShares_any X nx cx x (n : Int) W (HY.out.keep k) (by omega))
      clear hv hs hl hlx
      go_enter Try.func35, Try.ntmps35
      go_wp2_with fail
      refine HC.out.mono ?_
      rintro e w1 ⟨rfl, hq⟩
      have HB1 := Lib.hid (show Below w.heap.size w w1 from hq.below)
      clear hq HC
      have HC := Lib.hid (HS.out w1 (Keep.below HB1.out))
      go_wp2_with fail
      refine HC.out.mono ?_
      rintro e w2 ⟨rfl, hq⟩
      have HB2 := Lib.hid (below_quiet HB1.out hq)
      clear hq HC HB1
      go_wp2
      go_ret
      exact NewI.empty HB2.out HN.out
  · have HC := Lib.hid (pb_false hv ▸ validField_any A n c a w HX.out)
    have HN := Lib.hid (nsF_no (a := a) (x := x) (fun h => hv h.1))
    clear hv hl hlx
    go_enter Try.func35, Try.ntmps35
    go_wp2_with fail
    refine HC.out.mono ?_
    rintro e w1 ⟨rfl, hq⟩
    have HB1 := Lib.hid (show Below w.heap.size w w1 from hq.below)
    clear hq HC
    go_wp2
    go_ret
    exact NewI.empty HB1.out HN.out

theorem blk_row' {w g t cs} (h : Blk w g t cs) (c : Array Value) : Blk (w.setRow g c) g t c := setRow_heap w g cs c t (0, 0) h
set_option maxRecDepth 100000 in
set_option maxHeartbeats 1600000 in
theorem copyOf_any (X : Option Addr) (n cx : Nat) (x : List Int) (w : World) (hx : Ints w X n cx x) (h1 : 1 ≤ n) (h3 : n ≤ 3) :
    Calls Try.prog 70 #[.slice X n cx] w fun e w' => e = .returned (.slice (some ⟨w.heap.size, 0, none⟩) n n) ∧ NX w n w.heap.size x w' := by
  have HX := Lib.hid hx
  have hlx := hx.len
  obtain ⟨bx, ox, rfl, hcx⟩ := hx.at_ (by omega)
  have HCX := Lib.hid hcx
  have hb0 := below_alloc w (.cells #[.int .i64 0, .int .i64 0, .int .i64 0] 66)
  have HK := Lib.hid (Keep.below hb0)
  have HB0 := Lib.hid hb0
  have HBN := Lib.hid (show Blk (w.alloc (.cells #[.int .i64 0, .int .i64 0, .int .i64 0] 66)) w.heap.size 66 [Value.int .i64 0, .int .i64 0, .int .i64 0].toArray from blk_new _ _ _)
  have HSI : Hid ((Try.prog.info? 3).map (·.size) = some 1) := Lib.hid (by kernel_rfl)
  have HLN := Lib.hid (show (x.map iv).length = Nat.min n 3 by rw [List.length_map, hlx]; exact (Nat.min_eq_left h3).symm)
  have HON := Lib.hid (show ∀ v ∈ x.map iv, v.oneCell' = true from fun v hv => by obtain ⟨y, _, rfl⟩ := List.mem_map.1 hv; rfl)
  have HSRC := Lib.hid (show ∀ j v, (x.map iv)[j]? = some v → (w.alloc (.cells #[.int .i64 0, .int .i64 0, .int .i64 0] 66)).cell? ((⟨bx, ox, none⟩ : Addr).add j) = some v from fun j v hv => by
    have hj : j < x.length := by have := (List.getElem?_eq_some_iff.1 hv).1; simpa using this
    rw [getElem_iv hj] at hv
    injection hv with hv
    subst hv
    have hadd : (⟨bx, ox, none⟩ : Addr).add j = ⟨bx, ox + j, none⟩ := by unfold Addr.add; split <;> simp_all
    rw [hadd]
    exact HK.out _ _ (HCX.out j (by omega)))
  have hcp := run_copy_row (P := Try.prog) (w.alloc (.cells #[.int .i64 0, .int .i64 0, .int .i64 0] 66)) 27 27 3 3 w.heap.size 0 3 3 ⟨bx, ox, none⟩ n cx [Value.int .i64 0, .int .i64 0, .int .i64 0].toArray 66 (x.map iv) Try.underlying27 HSI.out HBN.out HLN.out HSRC.out (by simp; omega) HON.out
  have hz : goInt (x.map iv).length = .int .i64 n := by rw [List.length_map, hlx]; rfl
  rw [hz] at hcp
  have HB1 := Lib.hid (blk_row' HBN.out (([Value.int .i64 0, .int .i64 0, .int .i64 0].toArray.toList.take 0 ++ x.map iv ++ [Value.int .i64 0, .int .i64 0, .int .i64 0].toArray.toList.drop (0 + (x.map iv).length)).toArray))
  have HUP := Lib.hid (below_setRow HB0.out (Nat.le_refl w.heap.size) (([Value.int .i64 0, .int .i64 0, .int .i64 0].toArray.toList.take 0 ++ x.map iv ++ [Value.int .i64 0, .int .i64 0, .int .i64 0].toArray.toList.drop (0 + (x.map iv).length)).toArray))
  generalize (w.alloc (.cells #[.int .i64 0, .int .i64 0, .int .i64 0] 66)).setRow w.heap.size (([Value.int .i64 0, .int .i64 0, .int .i64 0].toArray.toList.take 0 ++ x.map iv ++ [Value.int .i64 0, .int .i64 0, .int .i64 0].toArray.toList.drop (0 + (x.map iv).length)).toArray) = W1 at *
  have HNX := Lib.hid (show NX w n w.heap.size x W1 from ⟨⟨⟨hlx, Nat.le_refl _, by omega, HX.out.wf, fun _ => ⟨_, 0, rfl, fun k hk => by
      rw [Nat.zero_add]
      refine blk_cell HB1.out ?_
      rw [← getElem_iv (by omega : k < x.length)]
      simp [List.getElem?_append_left (show k < (x.map iv).length by rw [List.length_map]; omega)]⟩⟩, fun _ => ⟨0, rfl, Nat.le_refl _, blk_lt HB1.out, fun k _ => blk_frozen HB1.out _⟩⟩, HUP.out, Nat.le_refl _⟩)
  clear hx hcx hb0 hz hlx HB1 HUP HBN HON HSRC HLN HB0 HK
  have hn0 : ¬ ((n : Int) < 0) := by omega
  have hn3 : (n : Int) ≤ 3 := by omega
  go_enter Try.func70, Try.ntmps70
  go_wp2
  go_ret
  exact ⟨rfl, HNX.out⟩
end Go.Proofs.Ytgmcmblcljfofaa

/- The rests of a table, by the model. -/
namespace Go.Proofs.Ytgmcmblcljfofaa
open Go.RowKit
open V (sumN detN rowC colC cofN minorN skip sgn Asc)

theorem shl_val' {n : Nat} (h : n ≤ 3) : ∃ P : Nat, wrap64 ((2 : Int) ^ n) = (P : Int) ∧ P = 2 ^ n := by
  refine ⟨2 ^ n, ?_, rfl⟩
  have : n = 0 ∨ n = 1 ∨ n = 2 ∨ n = 3 := by omega
  rcases this with rfl | rfl | rfl | rfl <;> (unfold wrap64; decide)
theorem NewT.from {w w1 w2 : World} {xss : List (List Int)} {e : Ending} (h : Below w.heap.size w w1) (k : NewT w1 xss e w2) : NewT w xss e w2 := by
  obtain ⟨A, n, c, g, e1, e2, ho, hb⟩ := k
  exact ⟨A, n, c, g, e1, e2, ho.mono h.size (Nat.le_refl _), below_up h hb⟩
theorem TM.new {wb vs xss w} {A : Option Addr} {n c : Nat} (h : TM wb (.slice A n c) vs xss w) (hm : xss.length ≤ 100) : NewT wb xss (.returned (.slice A n c)) w := by
  obtain ⟨A', n', c', gg, e, hn', hown⟩ := h.bo.owns (by omega)
  injection e with e1 e2 e3
  subst e1
  subst e2
  subst e3
  exact ⟨_, _, _, gg, rfl, hn', hown, h.up⟩
theorem NewT.none {w w' : World} {xss : List (List Int)} (h : Below w.heap.size w w') (hx : xss = []) : NewT w xss (.returned (.slice none 0 0)) w' := by
  subst hx
  exact ⟨_, _, _, 0, rfl, rfl, OwnR.nil _ _ _ _, h⟩
theorem resF_yes {a : List (List Int)} (h : VQ a) : resF a = resR a 8 := by unfold resF; rw [if_pos (pb_true h)]
theorem resF_no {a : List (List Int)} (h : ¬ VQ a) : resF a = [] := by unfold resF; rw [if_neg (by rw [pb_false h]; decide)]

set_option maxRecDepth 100000 in
set_option maxHeartbeats 3200000 in
theorem RestsOn_spec (A : Option Addr) (n c : Nat) (a : List (List Int)) (w : World) (hx : IntRows w A n c a) :
    Calls Try.prog 30 #[.slice A n c] w (NewT w (resF a)) := by
  have HX := Lib.hid hx
  have hl := hx.len
  by_cases hv : VQ a
  · have HC := Lib.hid (pb_true hv ▸ validSquare_any A n c a w hx)
    have HF := Lib.hid (resF_yes hv)
    have HV := Lib.hid hv
    have HL := Lib.hid hl
    have hn3 : n ≤ 3 := by have := hv.1.n3; omega
    obtain ⟨P, hP, hP2⟩ := shl_val' hn3
    have HP2 := Lib.hid hP2
    obtain ⟨b, o, rb, ro, cc, rfl, tab⟩ := hx.tab hv.1
    rw [show (gr a 0).length = n by rw [← hv.2, hl]] at tab
    have HT0 := Lib.hid tab
    clear hx hl hv hP2 tab
    go_enter Try.func30, Try.ntmps30
    go_wp2_with fail
    refine HC.out.mono ?_
    rintro e w1 ⟨rfl, hq⟩
    have HB0 := Lib.hid (show Below w.heap.size w w1 from hq.below)
    have HT1 := Lib.hid (HT0.out.keep (Keep.quiet hq))
    have HS0 := Lib.hid (show TM w1 _ [] (resR a 1) _ from by rw [resR_one]; exact TM.start w1)
    clear hq HC HX HT0
    go_wp2
    go_loopw [3, 4] (fun v i wr => ∃ (s : Nat) (vs : List Value), 1 ≤ s ∧ s ≤ 8 ∧ i = .int .i64 s ∧ Hid (TM w1 v vs (resR a s) wr)) (fun _ i _ => 8 - (intOf i).toNat)
    case atStart => exact ⟨1, [], by omega, by omega, rfl, HS0⟩
    case round =>
      clear HS0
      obtain ⟨s, vs, hs1, hs8, rfl, HTM⟩ := hrel
      obtain ⟨Av, cv, rfl⟩ := HTM.out.bo.form
      by_cases hlt : s < 8
      · have HC := Lib.hid (members_any s n wr (by omega) (by omega))
        go_wp2_with fail
        refine HC.out.mono ?_
        rintro e w2 ⟨Ao, k, co, go_, rfl, hk, ho, hb⟩
        have HO := Lib.hid (memL_pl ho.ints hk)
        have HK := Lib.hid hk
        have HTM2 := Lib.hid (HTM.out.next hb)
        have hk3 : k ≤ 3 := by have := memL_le s n; omega
        clear ho hb HC HTM hk
        by_cases hsp : s < P
        · have hk1 : 1 ≤ k := by rw [HK.out]; exact memL_ge s hlt n (by omega) hs1 (by rw [← HP2.out]; exact hsp)
          have hkz : ((k : Int) == 0) = false := by simp; omega
          have hsd : decide ((P : Int) ≤ (s : Int)) = false := by simp; omega
          have HAS := Lib.hid (show Asc n k (idx s n) from by rw [HK.out]; exact idx_asc s n)
          have HLV : Hid (LvP a s ↔ LevAt a k (idx s n)) := Lib.hid (by
            unfold LvP
            rw [HL.out, ← HK.out]
            exact ⟨fun h => h.2.2, fun h => ⟨hs1, by rw [← HP2.out]; exact hsp, h⟩⟩)
          have HEQ : Hid (lvl a s = shr a.length (idx s n) (kY a (idx s n) (idx s n) k) k) := Lib.hid (by unfold lvl; rw [HL.out, ← HK.out])
          have HC := Lib.hid (restOn_any b o rb ro cc n c k co Ao a (idx s n) w2 (HT1.out.keep (Keep.below HTM2.out.up)) HO.out HV.out HL.out hk1 hk3 HAS.out)
          go_wp2_with fail
          refine HC.out.mono ?_
          rintro e w3 hnew
          clear HC
          by_cases hlv : LevAt a k (idx s n)
          · obtain ⟨A1, c1, g1, rfl, ho, hb⟩ : ∃ A1 c1 g, e = .returned (.tuple #[.slice A1 a.length c1, .bool true]) ∧ OwnI w2.heap.size w3.heap.size w3 g A1 a.length c1 (shr a.length (idx s n) (kY a (idx s n) (idx s n) k) k) ∧ Below w2.heap.size w2 w3 := by
              rcases hnew with ⟨_, h⟩ | ⟨h, _⟩
              · exact h
              · exact absurd hlv h
            have HMS := Lib.hid (resR_yes (HLV.out.2 hlv))
            rw [← HEQ.out] at ho
            have HLL := Lib.hid (lvl_len a s)
            have HTL := Lib.hid (resR_len a s)
            rw [← HLL.out] at ho
            rw [← HLL.out]
            have HO3 := Lib.hid ho
            have HB3 := Lib.hid hb
            have hb2 := below_alloc w3 (.cells #[.slice A1 (lvl a s).length c1] 27)
            have HB4 := Lib.hid ((HTM2.out.next hb).bo.below hb2).own
            have HN := Lib.hid (cell_one_new w3 (.slice A1 (lvl a s).length c1) 27)
            have hlh : w1.heap.size ≤ w3.heap.size := Nat.le_trans HTM2.out.up.size hb.size
            have hll3 : (lvl a s).length ≤ 3 := by rw [HLL.out, HL.out]; exact hn3
            clear hb ho hb2 hnew hlv HLV HEQ HLL
            generalize lvl a s = ys at *
            generalize resR a s = ms at *
            obtain ⟨i0, hi0, hz0, hz1, hz2⟩ := info_parts Try.info_row
            go_wp2_with (at_builtin; refine wpList_append_own_at _ rfl _ _ 22 rfl w1.heap.size 27 i0 (.slice none 0 0) 1 24 Try.underlying22 hi0 hz0 hz1 hz2 rfl (by decide) _ ms.length vs rfl HB4.out ⟨w3.heap.size, 0, none⟩ 1 1 [.slice A1 ys.length c1] rfl rfl ?d1 ?d2 ?d3 ?d4 ?d5 ?_)
            case d1 => exact HN.out
            case d2 => intro u hu; simp at hu; subst hu; rfl
            case d3 => have := HTL.out; unfold maxLen; omega
            case d4 => have := HTL.out; omega
            case d5 => simp; omega
            intro v' w5 hown' hgrow _ hat
            have HT5 := Lib.hid (HTM2.out.push HB3.out HO3.out hown' hgrow (by simpa using hat))
            clear HB4 HN hown' hgrow hat HTM2 HO3
            go_wp2
            go_roundw
            case rel => exact ⟨s + 1, _, by omega, by omega, by go_num, Lib.hid (by rw [HMS.out]; exact HT5.out)⟩
            case measure => simp [intOf]; omega
          · obtain ⟨v, rfl, hb⟩ : ∃ v, e = .returned (.tuple #[v, .bool false]) ∧ Below w2.heap.size w2 w3 := by
              rcases hnew with ⟨h, _⟩ | ⟨_, h⟩
              · exact absurd h hlv
              · exact h
            have HMS := Lib.hid (resR_no (fun h => hlv (HLV.out.1 h)))
            have HTM3 := Lib.hid (HTM2.out.next hb)
            clear hnew hlv hb HLV HEQ HTM2
            go_wp2
            go_roundw
            case rel => exact ⟨s + 1, _, by omega, by omega, by go_num, Lib.hid (by rw [HMS.out]; exact HTM3.out)⟩
            case measure => simp [intOf]; omega
        · have HMS := Lib.hid (resR_no (a := a) (s := s) (fun h => by have := h.2.1; rw [HL.out, ← HP2.out] at this; omega))
          have hsd : decide ((P : Int) ≤ (s : Int)) = true := by simp; omega
          by_cases hk0 : k = 0
          · have hkz : ((k : Int) == 0) = true := by simp; omega
            have HK0 := Lib.hid hk0
            clear hk0
            go_wp2
            go_roundw
            case rel => exact ⟨s + 1, _, by omega, by omega, by go_num, Lib.hid (by rw [HMS.out]; exact HTM2.out)⟩
            case measure => simp [intOf]; omega
          · have hkz : ((k : Int) == 0) = false := by simp; omega
            go_wp2
            go_roundw
            case rel => exact ⟨s + 1, _, by omega, by omega, by go_num, Lib.hid (by rw [HMS.out]; exact HTM2.out)⟩
            case measure => simp [intOf]; omega
      · obtain rfl : s = 8 := by omega
        have HNW := Lib.hid (NewT.from HB0.out (HTM.out.new (by have := resR_len a 8; omega)))
        go_wp2
        go_ret
        rw [HF.out]
        exact HNW.out
  · have HC := Lib.hid (pb_false hv ▸ validSquare_any A n c a w hx)
    have HF := Lib.hid (resF_no hv)
    clear hx hl hv
    go_enter Try.func30, Try.ntmps30
    go_wp2_with fail
    refine HC.out.mono ?_
    rintro e w1 ⟨rfl, hq⟩
    go_wp2
    go_ret
    exact NewT.none hq.below HF.out
end Go.Proofs.Ytgmcmblcljfofaa

/- Members of sets; numbers put to their places: by the program. -/
namespace Go.Proofs.Ytgmcmblcljfofaa
open Go.RowKit

theorem and_one : ∀ s, s < 32 → ∀ k, k < 6 → (bits BinOp.and IntKind.i64 (((s : Nat) : Int) / 2 ^ k) 1 == 1) = (s / 2 ^ k % 2 == 1) := by decide +kernel
theorem shr_pos : ∀ s, s < 32 → ∀ k, k < 6 → decide (0 < ((s : Nat) : Int) / 2 ^ k) = decide (0 < s / 2 ^ k) := by decide +kernel
theorem memL_end : ∀ s, s < 32 → ∀ k, k < 6 → ¬ 0 < s / 2 ^ k → memL s k = memL s 5 := by decide +kernel
theorem memL_53 : ∀ s, s < 8 → memL s 5 = memL s 3 := by decide +kernel
set_option maxRecDepth 100000 in
set_option maxHeartbeats 1000000 in
theorem membersOf5_any (s : Nat) (w : World) (hs : s < 32) : Calls Try.prog 65 #[.int .i64 s] w (NewI w (memL s 5)) := by
  have HS0 := Lib.hid (IU.nil w)
  have HA := Lib.hid (and_one s hs)
  have HP := Lib.hid (shr_pos s hs)
  have HE := Lib.hid (memL_end s hs)
  have H5 := Lib.hid (show s / 2 ^ 5 = 0 from Nat.div_eq_of_lt (by omega))
  go_enter Try.func65, Try.ntmps65
  go_wp2
  go_loopw [3, 4] (fun v i wr => ∃ k : Nat, k ≤ 5 ∧ i = .int .i64 k ∧ Hid (IU w v (memL s k) wr)) (fun _ i _ => 5 - (intOf i).toNat)
  case atStart => exact ⟨0, Nat.zero_le _, rfl, HS0⟩
  case round =>
    clear HS0
    obtain ⟨k, hk, rfl, HI⟩ := hrel
    obtain ⟨Av, cv, rfl⟩ := HI.out.bi.form
    have hpos := HP.out k (by omega)
    by_cases hlt : 0 < s / 2 ^ k
    · have hk5 : k < 5 := by
        rcases Nat.lt_or_ge k 5 with h | h
        · exact h
        · obtain rfl : k = 5 := by omega
          rw [H5.out] at hlt; omega
      have hand := HA.out k (by omega)
      rw [show decide (0 < s / 2 ^ k) = true from decide_eq_true hlt] at hpos
      clear hlt
      by_cases hp : s / 2 ^ k % 2 = 1
      · have HCS := Lib.hid (memL_yes hp)
        have HML := Lib.hid (memL_le s k)
        rw [show (s / 2 ^ k % 2 == 1) = true by simpa using hp] at hand
        clear hp
        have hb := below_alloc wr (.cells #[iv (k : Int)] 3)
        have HB4 := Lib.hid (HI.out.bi.below hb).own
        have HN := Lib.hid (cell_one_new wr (iv (k : Int)) 3)
        have hwz := HI.out.up.size
        clear hb
        generalize memL s k = ys at *
        obtain ⟨i0, hi0, hz0, hz1, hz2⟩ := info_parts Try.info_int
        go_wp2_with (at_builtin; refine wpList_append_own_at _ rfl _ _ 27 rfl w.heap.size 3 i0 (.int .i64 0) 1 8 Try.underlying27 hi0 hz0 hz1 hz2 rfl (by decide) _ ys.length (ys.map iv) rfl HB4.out ⟨wr.heap.size, 0, none⟩ 1 1 [iv (k : Int)] rfl rfl ?c1 ?c2 ?c3 ?c4 ?c5 ?_)
        case c1 => exact HN.out
        case c2 => intro u hu; simp at hu; subst hu; rfl
        case c3 => have := HML.out; unfold maxLen; omega
        case c4 => have := HML.out; omega
        case c5 => simp; omega
        intro v' w5 hown' hgrow _ hat
        have HI5 := Lib.hid (HI.out.push hown' hgrow (by simpa using hat))
        clear HB4 HN hown' hgrow hat HI hand hpos
        go_wp2
        go_roundw
        case rel => exact ⟨k + 1, by omega, by go_num, Lib.hid (by rw [HCS.out]; exact HI5.out)⟩
        case measure => simp [intOf]; omega
      · have HCS := Lib.hid (memL_no hp)
        rw [show (s / 2 ^ k % 2 == 1) = false by simpa using hp] at hand
        clear hp
        go_wp2
        go_roundw
        case rel => exact ⟨k + 1, by omega, by go_num, Lib.hid (by rw [HCS.out]; exact HI.out)⟩
        case measure => simp [intOf]; omega
    · have HEQ := Lib.hid (HE.out k (by omega) hlt)
      rw [show decide (0 < s / 2 ^ k) = false from decide_eq_false hlt] at hpos
      have HNW := Lib.hid (Eq.mp (congrArg (fun ys => NewI w ys (.returned (.slice Av (memL s k).length cv)) wr) HEQ.out) (HI.out.new (by have := memL_le s k; omega) (memb_bd s k (by omega))))
      clear hlt HEQ HI
      go_wp2
      go_ret
      exact HNW.out
theorem membersOf_any (s : Nat) (w : World) (hs : s < 8) : Calls Try.prog 65 #[.int .i64 s] w (NewI w (memL s 3)) := memL_53 s hs ▸ membersOf5_any s w (by omega)

set_option maxRecDepth 100000 in
set_option maxHeartbeats 2000000 in
theorem spreadI_any (n k cx cy : Nat) (X Y : Option Addr) (xs : List Int) (r : Nat → Nat) (w : World) (hx : Ints w X k cx xs) (hy : Pl w Y k cy r n) (hn : n ≤ 3) (hk3 : k ≤ 3) (hm : ∀ p, p < xs.length → Mid (gi xs p)) (hc : ClrP xs) :
    Calls Try.prog 95 #[.slice X k cx, .slice Y k cy, .int .i64 n] w (NewI w (shr n r xs k)) := by
  have HX := Lib.hid hx
  have HY := Lib.hid hy
  have HM := Lib.hid hm
  have HLX := Lib.hid hx.len
  have hg0 : 0 < gcdL xs k := by have := clr_pos hc; rwa [hx.len] at this
  have HS0 := Lib.hid (SU.start w n (by omega))
  have hmk := run_make_row' (P := Try.prog) 27 3 (.int .i64 0) 8 Try.underlying27 Try.info3 rfl .i64 .i64 n (by omega) (by omega)
  have HC := Lib.hid (fun W (k : Keep w W) => commonFactor_any _ _ _ _ W (hx.keep k) hm)
  clear hx hy hm hc
  have HSH : Hid (shr n r xs k = putL n r (clrL xs (gcdL xs k) k) k) := Lib.hid (by unfold shr; rw [HLX.out])
  rw [HSH.out]
  have HGM := gcdL_mid HM.out (k := k) (Nat.le_of_eq HLX.out.symm)
  obtain ⟨mg1, mg2⟩ := HGM
  clear HSH
  generalize gcdL xs k = G at *
  have hgz : (G == 0) = false := by simp; omega
  have hgn : ¬ (G = 0) := by omega
  have HZ : Hid (List.replicate n 0 = putL n r (clrL xs G k) 0) := Lib.hid rfl
  rw [HZ.out] at HS0
  clear HZ
  go_enter Try.func95, Try.ntmps95
  go_wp2_with fail
  refine (HC.out _ (Keep.below HS0.out.up)).mono ?_
  rintro e w2 ⟨rfl, hq⟩
  have HS1 := Lib.hid (HS0.out.qu hq)
  clear hq HC HS0 hmk
  go_wp2
  go_loopw [17] (fun i wr => ∃ p : Nat, p ≤ k ∧ i = .int .i64 p ∧ Hid (SU w n (putL n r (clrL xs G k) p) wr)) (fun i _ => k - (intOf i).toNat)
  case atStart => exact ⟨0, Nat.zero_le _, rfl, HS1⟩
  case round =>
    clear HS1
    obtain ⟨p, hp, rfl, HS⟩ := hrel
    by_cases hlt : p < k
    · obtain ⟨bx, ox, rfl, hcx⟩ := HX.out.at_ (by omega)
      obtain ⟨by_, oy, rfl, hcy⟩ := HY.out.ints.at_ (by omega)
      have c1 := hcx p hlt
      have c2 := hcy p hlt
      rw [gi_lstN hlt] at c2
      have hrp := HY.out.lt p hlt
      have d1 := Keep.below HS.out.up _ _ c1
      have d2 := Keep.below HS.out.up _ _ c2
      have d3 := HS.out.cell hrp
      have d4 := HS.out.frozen hrp
      have hmx := HM.out p (by rw [HLX.out]; exact hlt)
      have HE : Hid ((putL n r (clrL xs G k) p).set (r p) (max (gi xs p) (-(gi xs p)) / G) = putL n r (clrL xs G k) (p + 1)) := Lib.hid (by rw [putL, gi_clrL hlt])
      have HV := Lib.hid (show -1000000000000000 ≤ max (gi xs p) (-(gi xs p)) / G ∧ max (gi xs p) (-(gi xs p)) / G ≤ 1000000000000000 from by
        unfold Mid at hmx
        have h1 : 0 ≤ max (gi xs p) (-(gi xs p)) / G := Int.ediv_nonneg (by omega) (by omega)
        have h2 : max (gi xs p) (-(gi xs p)) / G ≤ max (gi xs p) (-(gi xs p)) := Int.ediv_le_self _ (by omega)
        omega)
      obtain ⟨m1, m2⟩ := hmx
      clear hcx hcy c1 c2
      generalize r p = R at *
      generalize gi xs p = x at *
      have HW : Hid ((if x < -x then -x else x) / G = max x (-x) / G) := Lib.hid (by congr 1; split <;> omega)
      have HN := Lib.hid (show SU w n (putL n r (clrL xs G k) (p + 1)) (wr.setCell ⟨w.heap.size, R, none⟩ (.int .i64 ((if x < -x then -x else x) / G))).drew from by
        rw [HW.out, ← HE.out]
        exact (HS.out.set hrp (v := max x (-x) / G) (by have := HV.out; omega)).qu ⟨1, rfl⟩)
      generalize gi (putL n r (clrL xs G k) p) R = y at *
      clear HS HE HV
      go_wp2
      go_region
      all_goals
        clear d1 d2 d3 d4
        go_wp2
        go_roundw
        case rel => exact ⟨p + 1, by omega, by go_num, HN⟩
        case measure => simp [intOf]; omega
    · obtain rfl : p = k := by omega
      have HNW := Lib.hid (HS.out.new (putL_len _ _ _ _).symm)
      go_wp2
      go_ret
      exact HNW.out
end Go.Proofs.Ytgmcmblcljfofaa

/- The rests of a table, by the program. -/
namespace Go.Proofs.Ytgmcmblcljfofaa
open Go.RowKit
open V (sumN detN rowC colC cofN minorN skip sgn Asc)

theorem mid_of' {x : Int} (h : -648 ≤ x ∧ x ≤ 648) : Mid x := by unfold Mid; omega
theorem lf_ab {a : List (List Int)} (v : VT a) (h : a.length = (gr a 0).length) {r : Nat → Nat} {k : Nat} (hr : Asc a.length k r) : Ab k (lf a r) := fun p q hp hq => by
  have := v.bd (hr.1 p hp) (j := r q) (by have := hr.1 q hq; omega)
  unfold lf; omega

/-- Shares of some strategies at which these have as much; or none. -/
def NewLS (w : World) (a : List (List Int)) (n k : Nat) (r : Nat → Nat) (e : Ending) (w' : World) : Prop :=
  (LevP (kY a r r k) ∧ NewI w (shr n r (kY a r r k) k) e w') ∨ (¬ LevP (kY a r r k) ∧ e = .returned (.slice none 0 0) ∧ Below w.heap.size w w')

set_option maxRecDepth 100000 in
set_option maxHeartbeats 4000000 in
theorem levelShares_any (A X : Option Addr) (n c k cx : Nat) (a : List (List Int)) (r : Nat → Nat) (w : World) (ha : IntRows w A n c a) (hq : VQ a) (hx : Pl w X k cx r n) (h1 : 1 ≤ k) (hk3 : k ≤ 3) (hr : Asc n k r) :
    Calls Try.prog 64 #[.slice A n c, .slice X k cx] w (NewLS w a n k r) := by
  have HX := Lib.hid hx
  have HV := Lib.hid hq
  have hl := ha.len
  have HR := Lib.hid (show Asc a.length k r by rw [hl]; exact hr)
  have hn3 : n ≤ 3 := by have := hq.1.n3; omega
  obtain ⟨b, o, rb, ro, cc, rfl, tab⟩ := ha.tab hq.1
  rw [show (gr a 0).length = n by rw [← hq.2, hl]] at tab
  have HT := Lib.hid tab
  have HAB := Lib.hid (lf_ab hq.1 hq.2 HR.out)
  have HLY := Lib.hid (lf_kY a r hk3)
  have HYL := Lib.hid (kY_len a r r k)
  have HYB := Lib.hid (fun p (hp : p < (kY a r r k).length) => mid_of' (kY_bd hq.1 hk3 HR.out (by rw [← hq.2]; exact HR.out) (p := p) hp))
  clear ha hq hx hr hl tab
  have HC := Lib.hid (partOf_any b o rb ro cc n n c k k cx cx X X a r r 0 w HT.out HX.out HX.out hk3 hk3 (by omega) (by omega))
  go_enter Try.func64, Try.ntmps64
  go_wp2_with fail
  refine HC.out.mono ?_
  rintro e w1 ⟨A1, n1, c1, g1, rfl, hn1', ho, hb⟩
  have HSQ := Lib.hid (show Sq k (prtL a r r 0 k k) (lf a r) from prtL_sq a r r 0 k)
  have HO1 := Lib.hid ho.rows
  have HB1 := Lib.hid hb
  obtain rfl : n1 = k := hn1'.trans HSQ.out.len
  clear hn1' ho hb HC
  have HC := Lib.hid (cofactorsM_any n1 hk3 (by omega) A1 c1 _ _ w1 HO1.out HSQ.out HAB.out)
  go_wp2_with fail
  refine HC.out.mono ?_
  rintro e w3 ⟨A3, n3, c3, g3, rfl, hn3', ho, hb⟩
  have HF := Lib.hid ho.rows
  have HB3 := Lib.hid (below_up HB1.out hb)
  obtain rfl : n3 = n1 := hn3'.trans (cofM_len _ _ _)
  clear hn3' ho hb HC HB1 HO1
  have HSF := Lib.hid (cofM_sq n3 (lf a r))
  have HCB := Lib.hid (fun i j (hi : i < n3) (hj : j < n3) => cof_bd hk3 HAB.out hi hj)
  obtain ⟨b3, o3, rb3, ro3, cc3, rfl, tx⟩ := HF.out.tabX HSF.out (by omega) (fun i j hi hj => by have := HCB.out i j hi hj; omega)
  have HTX := Lib.hid tx
  clear tx
  have HC := Lib.hid (turnedX_any b3 o3 rb3 ro3 cc3 n3 c3 _ w3 HTX.out (by omega) hk3)
  go_wp2_with fail
  refine HC.out.mono ?_
  rintro e w5 ⟨rfl, ho, hb, -⟩
  have HG := Lib.hid ho.rows
  have HB5 := Lib.hid (below_up HB3.out hb)
  clear ho hb HC HB3 HF HTX
  have HSO := Lib.hid (show ∀ p, p < n3 → SumOk (gr (flip (cofM n3 (lf a r) n3) n3 n3) p) from fun p hp => by
    rw [gr_flip hp]; exact sumOk_of (by simp; omega) (fun x hx => by
      obtain ⟨i, hi, rfl⟩ := List.mem_map.1 hx
      have hi := List.mem_range.1 hi
      rw [HSF.out.eq i p hi hp]; have := HCB.out i p hi hp; omega))
  generalize w3.heap.size = h3 at *
  have HC := Lib.hid (rowSums_any _ n3 n3 _ w5 HG.out hk3 HSO.out)
  rw [rsL_flip hk3, HLY.out] at HC
  go_wp2_with fail
  refine HC.out.mono ?_
  rintro e w6 ⟨A6, n6, c6, g6, rfl, hn6, ho, hb⟩
  have HY6 := Lib.hid (show Ints w6 A6 n6 c6 (kY a r r n3) from ho.ints)
  have HB6 := Lib.hid (below_up HB5.out hb)
  obtain rfl : n6 = n3 := hn6.trans HYL.out
  clear hn6 ho hb HC HB5 HG HSO HSF HCB HSQ
  have HLB := Lib.hid (levB_iff (xs := kY a r r n6) (by rw [HYL.out]; omega))
  have HC := Lib.hid (Min_any A6 n6 c6 _ w6 HY6.out (by omega))
  have HCL : Hid (LevP (kY a r r n6) → ClrP (kY a r r n6)) := Lib.hid (fun h => h.clr (by rw [HYL.out]; omega))
  have HSP := Lib.hid (fun (h : LevP (kY a r r n6)) (W : World) (k : Keep w6 W) => spreadI_any n n6 c6 cx A6 X _ r W (HY6.out.keep k) ⟨HX.out.ints.keep (Keep.trans (Keep.below HB6.out) k), HX.out.lt⟩ hn3 hk3 HYB.out (HCL.out h))
  clear HYB HCL
  by_cases hm : lst (kY a r r n6) ≤ 0
  · have HCM := Lib.hid (fun q => Max_any A6 n6 c6 _ (w6.drewN q) (HY6.out.keep (Keep.drewN w6 q)) (by omega))
    by_cases hx : 0 ≤ mxl (kY a r r n6)
    · have HNO := Lib.hid (show ¬ LevP (kY a r r n6) from fun h => by
        have := HLB.out.2 h
        unfold levB at this
        rw [decide_eq_true hm, decide_eq_true hx] at this; cases this)
      clear HLB HSP
      generalize mxl (kY a r r n6) = M at *
      generalize lst (kY a r r n6) = L at *
      go_wp2_with fail
      refine HC.out.mono ?_
      rintro e w7 ⟨rfl, q, rfl⟩
      have HC := Lib.hid (HCM.out q)
      clear HCM
      go_wp2_with fail
      refine HC.out.mono ?_
      rintro e w8 ⟨rfl, q2, rfl⟩
      go_wp2
      go_ret
      exact .inr ⟨HNO.out, rfl, below_quiet HB6.out ⟨q + q2, rfl⟩⟩
    · have HYES := Lib.hid (show LevP (kY a r r n6) from HLB.out.1 (by unfold levB; rw [decide_eq_false hx, Bool.and_false]))
      clear HLB
      have HSW := Lib.hid (HSP.out HYES.out)
      clear HSP
      generalize mxl (kY a r r n6) = M at *
      generalize lst (kY a r r n6) = L at *
      go_wp2_with fail
      refine HC.out.mono ?_
      rintro e w7 ⟨rfl, q, rfl⟩
      have HC := Lib.hid (HCM.out q)
      clear HCM
      go_wp2_with fail
      refine HC.out.mono ?_
      rintro e w8 ⟨rfl, q2, rfl⟩
      have HB8 := Lib.hid (below_quiet HB6.out ⟨q + q2, rfl⟩)
      have HC := Lib.hid (HSW.out _ (Keep.drewN w6 (q + q2)))
      go_wp2_with fail
      refine HC.out.mono ?_
      rintro e w9 hnew
      obtain ⟨A9, n9, c9, g9, rfl, hn9, ho, hb⟩ := hnew
      have HN := Lib.hid (NewI.from HB8.out ⟨A9, n9, c9, g9, rfl, hn9, ho, hb⟩)
      clear hn9 ho hb HC
      go_wp2
      go_ret
      exact .inl ⟨HYES.out, HN.out⟩
  · have HYES := Lib.hid (show LevP (kY a r r n6) from HLB.out.1 (by unfold levB; rw [decide_eq_false hm, Bool.false_and]))
    clear HLB
    have HSW := Lib.hid (HSP.out HYES.out)
    clear HSP
    generalize lst (kY a r r n6) = L at *
    go_wp2_with fail
    refine HC.out.mono ?_
    rintro e w7 ⟨rfl, q, rfl⟩
    have HB8 := Lib.hid (below_quiet HB6.out ⟨q, rfl⟩)
    have HC := Lib.hid (HSW.out _ (Keep.drewN w6 q))
    go_wp2_with fail
    refine HC.out.mono ?_
    rintro e w9 hnew
    obtain ⟨A9, n9, c9, g9, rfl, hn9, ho, hb⟩ := hnew
    have HN := Lib.hid (NewI.from HB8.out ⟨A9, n9, c9, g9, rfl, hn9, ho, hb⟩)
    clear hn9 ho hb HC
    go_wp2
    go_ret
    exact .inl ⟨HYES.out, HN.out⟩

set_option maxRecDepth 100000 in
set_option maxHeartbeats 3200000 in
theorem RestsOn_impl (A : Option Addr) (n c : Nat) (a : List (List Int)) (w : World) (hx : IntRows w A n c a) :
    Calls Try.prog 31 #[.slice A n c] w (NewT w (resF a)) := by
  have HX := Lib.hid hx
  have hl := hx.len
  by_cases hv : VQ a
  · have HC := Lib.hid (pb_true hv ▸ ValidSquare_impl A n c a w hx)
    have HV := Lib.hid hv
    have HL := Lib.hid hl
    have hn3 : n ≤ 3 := by have := hv.1.n3; omega
    have hn1 : 1 ≤ n := by have := hv.1.n1; omega
    obtain ⟨P, hP, hP2⟩ := shl_val' hn3
    have hP8 : P ≤ 8 := by rw [hP2]; exact pow_le8 hn3
    have hP1 : 1 ≤ P := by rw [hP2]; exact Nat.one_le_two_pow
    have HP2 := Lib.hid hP2
    have HF := Lib.hid (show resF a = resR a P by rw [resF_yes hv, resR_all (by omega), hl, hP2])
    clear hx hl hv hP2
    go_enter Try.func31, Try.ntmps31
    go_wp2_with fail
    refine HC.out.mono ?_
    rintro e w1 ⟨rfl, hq⟩
    have HB0 := Lib.hid (show Below w.heap.size w w1 from hq.below)
    have HX1 := Lib.hid (HX.out.keep (Keep.quiet hq))
    have HS0 := Lib.hid (show TM w1 (.slice none 0 0) [] (resR a 1) w1 from by rw [resR_one]; exact TM.nil w1)
    clear hq HC HX
    go_wp2
    go_loopw [3, 4] (fun v i wr => ∃ (s : Nat) (vs : List Value), 1 ≤ s ∧ s ≤ P ∧ i = .int .i64 s ∧ Hid (TM w1 v vs (resR a s) wr)) (fun _ i _ => 8 - (intOf i).toNat)
    case atStart => exact ⟨1, [], by omega, by omega, rfl, HS0⟩
    case round =>
      clear HS0
      obtain ⟨s, vs, hs1, hs8, rfl, HTM⟩ := hrel
      obtain ⟨Av, cv, rfl⟩ := HTM.out.bo.form
      by_cases hlt : s < P
      · have hlt' : (s : Int) < (P : Int) := by omega
        have HC := Lib.hid (membersOf_any s wr (by omega))
        rw [memL_all3 s (by omega) n (by omega) (by rw [← HP2.out]; exact hlt)] at HC
        go_wp2_with fail
        refine HC.out.mono ?_
        rintro e w2 ⟨Ao, k, co, go_, rfl, hk, ho, hb⟩
        have HO := Lib.hid (memL_pl ho.ints hk)
        have HK := Lib.hid hk
        have HTM2 := Lib.hid (HTM.out.next hb)
        have hk3 : k ≤ 3 := by have := memL_le s n; omega
        have hk1 : 1 ≤ k := by rw [hk]; exact memL_ge s (by omega) n (by omega) hs1 (by rw [← HP2.out]; exact hlt)
        clear ho hb HC HTM hk
        have HAS := Lib.hid (show Asc n k (idx s n) from by rw [HK.out]; exact idx_asc s n)
        have HLV : Hid (LvP a s ↔ LevAt a k (idx s n)) := Lib.hid (by
          unfold LvP
          rw [HL.out, ← HK.out]
          exact ⟨fun h => h.2.2, fun h => ⟨hs1, by rw [← HP2.out]; exact hlt, h⟩⟩)
        have HEQ : Hid (lvl a s = shr n (idx s n) (kY a (idx s n) (idx s n) k) k) := Lib.hid (by unfold lvl; rw [HL.out, ← HK.out])
        have HC := Lib.hid (levelShares_any A Ao n c k co a (idx s n) w2 (HX1.out.keep (Keep.below HTM2.out.up)) HV.out HO.out hk1 hk3 HAS.out)
        go_wp2_with fail
        refine HC.out.mono ?_
        rintro e w3 hnew
        clear HC
        by_cases hlv : LevP (kY a (idx s n) (idx s n) k)
        · obtain ⟨A1, n1, c1, g1, rfl, hn1', ho, hb⟩ : NewI w2 (shr n (idx s n) (kY a (idx s n) (idx s n) k) k) e w3 := by
            rcases hnew with ⟨_, h⟩ | ⟨h, _⟩
            · exact h
            · exact absurd hlv h
          rw [← HEQ.out] at ho hn1'
          have HLL := Lib.hid (lvl_len a s)
          have HTL := Lib.hid (resR_len a s)
          subst hn1'
          have HO3 := Lib.hid ho
          have HB3 := Lib.hid hb
          have HTM3 := Lib.hid (HTM2.out.next hb)
          have HVS := Lib.hid (show VS (lvl a s) a.length from by
            rw [HEQ.out, HL.out]
            exact shr_VS (kY_len _ _ _ _) HAS.out (hlv.clr (by rw [kY_len]; omega)) (fun p hp => kY_bd HV.out.1 hk3 (by rw [HL.out]; exact HAS.out) (by rw [← HV.out.2, HL.out]; exact HAS.out) hp))
          have HRQ : Hid (RQ a (lvl a s) ↔ LvP a s) := Lib.hid (by
            rw [HLV.out]
            unfold LevAt
            refine ⟨fun h => ⟨hlv, ?_⟩, fun h => ⟨HV.out, HVS.out, ?_⟩⟩
            · have := h.r; rw [HEQ.out] at this; rw [HL.out] at this ⊢; exact this
            · have := h.2; rw [HEQ.out]; rw [HL.out] at this ⊢; exact this)
          have HC := Lib.hid (IsRest_impl A n c a A1 _ c1 (lvl a s) w3 (HX1.out.keep (Keep.below HTM3.out.up)) ho.ints)
          have hll3 : (lvl a s).length ≤ 3 := by rw [HLL.out, HL.out]; exact hn3
          clear hb ho hnew hlv HLV HEQ HLL HVS HTM3
          by_cases hr : LvP a s
          · have HMS := Lib.hid (resR_yes hr)
            rw [pb_true (HRQ.out.2 hr)] at HC
            clear hr HRQ
            generalize lvl a s = ys at *
            generalize resR a s = ms at *
            go_wp2_with fail
            refine HC.out.mono ?_
            rintro e w4 ⟨rfl, hb⟩
            have HB4' := Lib.hid (below_up HB3.out hb)
            have HO4 := Lib.hid ((HO3.out.below hb).mono (Nat.le_refl _) hb.size)
            have hb2 := below_alloc w4 (.cells #[.slice A1 ys.length c1] 27)
            have HB4 := Lib.hid ((HTM2.out.next HB4'.out).bo.below hb2).own
            have HN := Lib.hid (cell_one_new w4 (.slice A1 ys.length c1) 27)
            have hlh : w1.heap.size ≤ w4.heap.size := Nat.le_trans HTM2.out.up.size HB4'.out.size
            clear hb hb2 HC HB3 HO3
            obtain ⟨i0, hi0, hz0, hz1, hz2⟩ := info_parts Try.info_row
            go_wp2_with (at_builtin; refine wpList_append_own_at _ rfl _ _ 22 rfl w1.heap.size 27 i0 (.slice none 0 0) 1 24 Try.underlying22 hi0 hz0 hz1 hz2 rfl (by decide) _ ms.length vs rfl HB4.out ⟨w4.heap.size, 0, none⟩ 1 1 [.slice A1 ys.length c1] rfl rfl ?d1 ?d2 ?d3 ?d4 ?d5 ?_)
            case d1 => exact HN.out
            case d2 => intro u hu; simp at hu; subst hu; rfl
            case d3 => have := HTL.out; unfold maxLen; omega
            case d4 => have := HTL.out; omega
            case d5 => simp; omega
            intro v' w5 hown' hgrow _ hat
            have HT5 := Lib.hid (HTM2.out.push HB4'.out HO4.out hown' hgrow (by simpa using hat))
            clear HB4 HN hown' hgrow hat HTM2 HO4
            go_wp2
            go_roundw
            case rel => exact ⟨s + 1, _, by omega, by omega, by go_num, Lib.hid (by rw [HMS.out]; exact HT5.out)⟩
            case measure => simp [intOf]; omega
          · have HMS := Lib.hid (resR_no hr)
            rw [pb_false (fun h => hr (HRQ.out.1 h))] at HC
            clear hr HRQ
            generalize lvl a s = ys at *
            go_wp2_with fail
            refine HC.out.mono ?_
            rintro e w4 ⟨rfl, hb⟩
            have HTM4 := Lib.hid ((HTM2.out.next HB3.out).next hb)
            clear hb HC HB3 HO3 HTM2
            go_wp2
            go_roundw
            case rel => exact ⟨s + 1, _, by omega, by omega, by go_num, Lib.hid (by rw [HMS.out]; exact HTM4.out)⟩
            case measure => simp [intOf]; omega
        · obtain ⟨rfl, hb⟩ : e = .returned (.slice none 0 0) ∧ Below w2.heap.size w2 w3 := by
            rcases hnew with ⟨h, _⟩ | ⟨_, h⟩
            · exact absurd h hlv
            · exact h
          have HMS := Lib.hid (resR_no (fun h => hlv (HLV.out.1 h).1))
          have HTM3 := Lib.hid (HTM2.out.next hb)
          have HC := Lib.hid (IsRest_impl A n c a none 0 0 [] w3 (HX1.out.keep (Keep.below HTM3.out.up)) (OwnI.nil 0 0 w3 0).ints)
          rw [pb_false (p := RQ a []) (fun h => by have := h.s.1; rw [HL.out] at this; simp at this; omega)] at HC
          clear hnew hlv hb HLV HEQ HTM2
          go_wp2_with fail
          refine HC.out.mono ?_
          rintro e w4 ⟨rfl, hb⟩
          have HTM4 := Lib.hid (HTM3.out.next hb)
          clear hb HC HTM3
          go_wp2
          go_roundw
          case rel => exact ⟨s + 1, _, by omega, by omega, by go_num, Lib.hid (by rw [HMS.out]; exact HTM4.out)⟩
          case measure => simp [intOf]; omega
      · obtain rfl : s = P := by omega
        have HNW := Lib.hid (NewT.from HB0.out (HTM.out.new (by have := resR_len a s; omega)))
        have hlt' : ¬ (s : Int) < (s : Int) := by omega
        go_wp2
        go_ret
        rw [HF.out]
        exact HNW.out
  · have HC := Lib.hid (pb_false hv ▸ ValidSquare_impl A n c a w hx)
    have HF := Lib.hid (resF_no hv)
    clear hx hl hv
    go_enter Try.func31, Try.ntmps31
    go_wp2_with fail
    refine HC.out.mono ?_
    rintro e w1 ⟨rfl, hq⟩
    go_wp2
    go_ret
    exact NewT.none hq.below HF.out
theorem resF_offs (a : List (List Int)) : offs (resF a) (resF a).length ≤ 1000000 := by
  by_cases h : VQ a
  · rw [resF_yes h]
    have h1 := resR_len a 8
    have h3 : ∀ r ∈ resR a 8, r.length ≤ 3 := fun r hr => by
      obtain ⟨s, _, _, rfl⟩ := mem_resR.1 hr
      rw [lvl_len]; exact h.1.n3
    have h2 := offs_le h3 _ (Nat.le_refl (resR a 8).length)
    omega
  · rw [resF_no h]; simp [offs]
end Go.Proofs.Ytgmcmblcljfofaa

/- NextShares, by the program. -/
namespace Go.Proofs.Ytgmcmblcljfofaa
open Go.RowKit

/-- The next shares on their way, beside the closure's boxes. -/
structure NL (n g pa pw b o c cw : Nat) (Y : Option Addr) (w : World) (L : List Int) (W : World) : Prop where
  nx : NX w n g L W
  ca : W.cell? ⟨pa, 0, none⟩ = some (.slice (some ⟨b, o, none⟩) n c)
  cs : W.cell? ⟨pw, 0, none⟩ = some (.slice Y n cw)
  ha : pa ≠ g
  hs : pw ≠ g
theorem NL.next {n g pa pw b o c cw Y w L W W'} (h : NL n g pa pw b o c cw Y w L W) (k : Below W.heap.size W W') : NL n g pa pw b o c cw Y w L W' :=
  ⟨h.nx.next k, Keep.below k _ _ h.ca, Keep.below k _ _ h.cs, h.ha, h.hs⟩
theorem NL.set {n g pa pw b o c cw Y w L W} (h : NL n g pa pw b o c cw Y w L W) {i : Nat} (hi : i < n) {v : Int} (hv : -9223372036854775808 ≤ v ∧ v ≤ 9223372036854775807) :
    NL n g pa pw b o c cw Y w (L.set i v) (W.setCell ⟨g, i, none⟩ (.int .i64 v)) :=
  ⟨h.nx.set hi hv, by rw [World.cell?_setCell_other _ _ _ _ (by intro e; have := congrArg Addr.block e; first | exact h.ha this | exact h.ha this.symm)]; exact h.ca, by rw [World.cell?_setCell_other _ _ _ _ (by intro e; have := congrArg Addr.block e; first | exact h.hs this | exact h.hs this.symm)]; exact h.cs, h.ha, h.hs⟩
theorem NL.pa {n g pa pw b o c cw Y w L W} {a : List (List Int)} {x : List Int} {rb ro cc : Nat → Nat} (h : NL n g pa pw b o c cw Y w L W) (ht : Tab w b o rb ro cc n n a) (hx : Ints w Y n cw x) (hb : ∀ j, j < n → 0 ≤ gi x j ∧ gi x j ≤ 1000) :
    PA a x n pa pw b o c cw rb ro cc Y W := ⟨ht.keep (Keep.below h.nx.up), hx.keep (Keep.below h.nx.up), hb, h.ca, h.cs⟩

set_option maxRecDepth 100000 in
set_option maxHeartbeats 3200000 in
theorem NextShares_impl (A : Option Addr) (n c : Nat) (a : List (List Int)) (X : Option Addr) (nx cx : Nat) (x : List Int) (w : World) (ha : IntRows w A n c a) (hx : Ints w X nx cx x) :
    Calls Try.prog 36 #[.slice A n c, .slice X nx cx] w (NewI w (nsF a x)) := by
  have HX := Lib.hid ha
  have HY := Lib.hid hx
  have hl := ha.len
  have hlx := hx.len
  clear ha hx
  have HC := Lib.hid (ValidField_impl A n c a w HX.out)
  by_cases hv : VF a
  · rw [pb_true hv] at HC
    have hn1 := hv.q.1.n1
    have hn3 := hv.q.1.n3
    rw [hl] at hn1 hn3
    have hvs := hv.q.1.vsn x
    rw [hl] at hvs
    by_cases hs : VS x (n : Int)
    · have HF := Lib.hid (FS.of hl hv hs)
      have HS := Lib.hid (fun W (k : Keep w W) => (hvs.trans (pb_true hs)) ▸ ValidShares_impl X nx cx x (n : Int) W (HY.out.keep k))
      have hm := hv.q.len2' hl
      obtain ⟨b, o, rb, ro, cc, rfl, tab⟩ := HX.out.tab hv.q.1
      rw [hm] at tab
      have HT := Lib.hid tab
      obtain rfl : n = nx := by have := hs.1; omega
      have HNS := Lib.hid (nsF_yes HF.out)
      have HXL := Lib.hid HF.out.xl
      clear hm tab hv hs hl hlx hvs
      go_enter Try.func36, Try.ntmps36
      go_wp2_with fail
      refine HC.out.mono ?_
      rintro e w1 ⟨rfl, hb⟩
      have HB1 := Lib.hid (show Below w.heap.size w w1 from hb)
      clear hb HC
      have HC := Lib.hid (HS.out w1 (Keep.below HB1.out))
      go_wp2_with fail
      refine HC.out.mono ?_
      rintro e w2 ⟨rfl, hq⟩
      have HB2 := Lib.hid (below_quiet HB1.out hq)
      clear hq HC HB1
      have HC := Lib.hid (copyOf_any X n cx x w2 (HY.out.keep (Keep.below HB2.out)) hn1 hn3)
      go_wp2_with fail
      refine HC.out.mono ?_
      rintro e w3 ⟨rfl, hnx⟩
      have HNX := Lib.hid hnx
      have HT2 := Lib.hid (HT.out.keep (Keep.below HB2.out))
      have HY2 := Lib.hid (HY.out.keep (Keep.below HB2.out))
      clear hnx HC HT HY HX HS
      have HC := Lib.hid (payAgainst_far a x n b o c cx rb ro cc X w3 (HT2.out.keep (Keep.below HNX.out.up)) (HY2.out.keep (Keep.below HNX.out.up)) HF.out.x)
      go_wp2_with fail
      refine HC.out.mono ?_
      rintro e w4 ⟨pa, pw, rfl, ⟨hp, hb⟩, hpa, hpw⟩
      have hg3 : w2.heap.size < w3.heap.size := by obtain ⟨_, _, _, h2, _⟩ := HNX.out.own.own (by omega); omega
      have HM0 := Lib.hid (show mixT (nxV a x n) (gi x) n 0 = x by rw [mixT_zero]; have := list_range x; rw [HXL.out] at this; exact this)
      have HL0 := Lib.hid (show NL n w2.heap.size pa pw b o c cx X w2 (mixT (nxV a x n) (gi x) n 0) w4 from ⟨by rw [HM0.out]; exact HNX.out.next hb, hp.ca, hp.cs, by omega, by omega⟩)
      clear hp hb HC HNX hpa hpw hg3 HM0
      generalize w2.heap.size = g at HL0 ⊢
      go_wp2
      go_loopw [27] (fun i_ wr => ∃ k : Nat, k ≤ n ∧ i_ = .int .i64 k ∧ Hid (NL n g pa pw b o c cx X w2 (mixT (nxV a x n) (gi x) n k) wr)) (fun i_ _ => n - (intOf i_).toNat)
      case atStart => exact ⟨0, Nat.zero_le _, rfl, HL0⟩
      case round =>
        clear HL0
        obtain ⟨k, hk, rfl, HL⟩ := hrel
        by_cases hlt : k < n
        · have k1 := HL.out.nx.cell hlt
          have k2 := HL.out.nx.frozen hlt
          have HG : Hid (gi (mixT (nxV a x n) (gi x) n k) k = gi x k) := Lib.hid (by rw [gi_mixT hlt, if_neg (by omega)])
          have HST := Lib.hid (mixT_set (f := nxV a x n) (h := gi x) (n := n) (k := k))
          have hnv := HF.out.nx hlt
          have HNV : Hid (nxV a x n k = gi x k * dotr a x k n) := Lib.hid rfl
          obtain ⟨d1, d2⟩ := HF.out.dot hlt
          obtain ⟨x1, x2⟩ := HF.out.x k hlt
          rw [HG.out] at k1
          rw [HNV.out] at hnv HST
          obtain ⟨v1, v2, -⟩ := hnv
          have HPAY := Lib.hid (fun W (h : NL n g pa pw b o c cx X w2 (mixT (nxV a x n) (gi x) n k) W) => payAt_any a x n pa pw b o c cx rb ro cc X W (h.pa HT2.out HY2.out HF.out.x) k hlt)
          generalize dotr a x k n = D at *
          have HW : Hid (IntKind.i64.wrap (gi x k * D) = gi x k * D) := Lib.hid (wrap_in64 (by omega))
          go_wp2
          go_region_law ((go_simp; go_at_call 85; refine (HPAY.out _ (HL.out.next (Quiet.below ⟨1, rfl⟩))).mono ?_; rintro e w5 ⟨rfl, hb⟩; have HL2 := Lib.hid ((HL.out.next (Quiet.below (B := wr.heap.size) ⟨1, rfl⟩)).next hb); have k5 := HL2.out.nx.cell hlt; have k6 := HL2.out.nx.frozen hlt; rw [HG.out] at k5; clear hb HL))
          all_goals
            have HL3 := Lib.hid (HL2.out.set hlt (v := gi x k * D) (by omega))
            rw [HST.out] at HL3
            clear k1 k2 k5 k6
            go_wp2
            go_roundw
            case rel => exact ⟨k + 1, by omega, by go_num, Lib.hid (by first | exact HL3.out | exact HL3.out.next (Quiet.below ⟨1, rfl⟩) | exact HL3.out.next (Quiet.below ⟨_, rfl⟩))⟩
            case measure => simp [intOf]; omega
        · obtain rfl : k = n := by omega
          have HA := Lib.hid (show mixT (nxV a x k) (gi x) k k = nxL a x k k from mixT_all _ _ _)
          rw [HA.out] at HL
          have HC := Lib.hid (commonFactor_any _ k k (nxL a x k k) wr HL.out.nx.own.ints HF.out.mid)
          have HN1 := Lib.hid HL.out.nx
          have HG0 := Lib.hid HF.out.clr.2
          have hgb := (gcdL_mid HF.out.mid (k := k) (by rw [nxL_len]; exact Nat.le_refl k))
          obtain ⟨g1, g2⟩ := hgb
          have hg0 := HF.out.clr.2
          clear HL
          generalize gcdL (nxL a x k k) k = G at *
          go_wp2_with fail
          refine HC.out.mono ?_
          rintro e w5 ⟨rfl, hq⟩
          have HN2 := Lib.hid (HN1.out.next hq.below)
          have HM1 := Lib.hid (show mixT (fun i => nxV a x k i / G) (nxV a x k) k 0 = nxL a x k k from mixT_zero _ _ _)
          rw [← HM1.out] at HN2
          clear hq HC HN1
          go_wp2
          go_loopw [44] (fun i_ wr => ∃ q : Nat, q ≤ k ∧ i_ = .int .i64 q ∧ Hid (NX w2 k g (mixT (fun i => nxV a x k i / G) (nxV a x k) k q) wr)) (fun i_ _ => k - (intOf i_).toNat)
          case atStart => exact ⟨0, Nat.zero_le _, rfl, HN2⟩
          case round =>
            clear HN2
            obtain ⟨q, hq, rfl, HN⟩ := hrel
            by_cases hql : q < k
            · have k1 := HN.out.cell hql
              have k2 := HN.out.frozen hql
              have HGI : Hid (gi (mixT (fun i => nxV a x k i / G) (nxV a x k) k q) q = nxV a x k q) := Lib.hid (by rw [gi_mixT hql, if_neg (by omega)])
              rw [HGI.out] at k1
              have HST := Lib.hid (mixT_set (f := fun i => nxV a x k i / G) (h := nxV a x k) (n := k) (k := q))
              obtain ⟨v1, v2, -⟩ := HF.out.nx hql
              have hd1 : 0 ≤ nxV a x k q / G := Int.ediv_nonneg v1 (by omega)
              have hd2 : nxV a x k q / G ≤ nxV a x k q := Int.ediv_le_self _ v1
              have HS3 := Lib.hid (HN.out.set hql (v := nxV a x k q / G) (by omega))
              rw [HST.out] at HS3
              have hg0' : (G == 0) = false := by simp; omega
              generalize nxV a x k q = v at *
              clear HN
              go_wp2
              clear k1 k2
              go_roundw
              case rel => exact ⟨q + 1, by omega, by go_num, HS3⟩
              case measure => simp [intOf]; omega
            · obtain rfl : q = k := by omega
              have HNW := Lib.hid (show NewI w (nsF a x) (.returned (.slice (some ⟨g, 0, none⟩) q q)) wr from by
                refine NewI.from HB2.out ?_
                have e : mixT (fun i => nxV a x q i / G) (nxV a x q) q q = nsF a x := by
                  rw [HNS.out, mixT_all]
                  refine gi_ext (by rw [clrL_len]; simp) fun p hp => ?_
                  have hp' : p < q := by simpa using hp
                  rw [gi_range hp', gi_clrL hp', gi_nxL hp']
                  have := (HF.out.nx hp').1
                  rw [show max (nxV a x q p) (-nxV a x q p) = nxV a x q p by omega]
                have ho := HN.out.own
                rw [e] at ho
                exact ⟨_, _, _, g, rfl, ho.ints.len.symm, ho, HN.out.up⟩)
              go_wp2
              go_ret
              exact HNW.out
    · have HN := Lib.hid (nsF_no (a := a) (x := x) (fun h => hs (by have := h.2; rw [hl] at this; exact this)))
      have HS := Lib.hid (fun W (k : Keep w W) => (hvs.trans (pb_false hs)) ▸ ValidShares_impl X nx cx x (n : Int) W (HY.out.keep k))
      clear hv hs hl hlx hvs
      go_enter Try.func36, Try.ntmps36
      go_wp2_with fail
      refine HC.out.mono ?_
      rintro e w1 ⟨rfl, hb⟩
      have HB1 := Lib.hid (show Below w.heap.size w w1 from hb)
      clear hb HC
      have HC := Lib.hid (HS.out w1 (Keep.below HB1.out))
      go_wp2_with fail
      refine HC.out.mono ?_
      rintro e w2 ⟨rfl, hq⟩
      have HB2 := Lib.hid (below_quiet HB1.out hq)
      clear hq HC HB1
      go_wp2
      go_ret
      exact NewI.empty HB2.out HN.out
  · rw [pb_false hv] at HC
    have HN := Lib.hid (nsF_no (a := a) (x := x) (fun h => hv h.1))
    clear hv hl hlx
    go_enter Try.func36, Try.ntmps36
    go_wp2_with fail
    refine HC.out.mono ?_
    rintro e w1 ⟨rfl, hb⟩
    go_wp2
    go_ret
    exact NewI.empty hb HN.out
end Go.Proofs.Ytgmcmblcljfofaa

/- Tables as arrays of nine numbers. -/
namespace Go.Proofs.Ytgmcmblcljfofaa
open Go.RowKit

/-- Nine cells, three rows one behind the other. -/
def cs9 (f : Nat → Nat → Int) : Array Value := #[.int .i64 (f 0 0), .int .i64 (f 0 1), .int .i64 (f 0 2), .int .i64 (f 1 0), .int .i64 (f 1 1), .int .i64 (f 1 2), .int .i64 (f 2 0), .int .i64 (f 2 1), .int .i64 (f 2 2)]
def upd9 (f : Nat → Nat → Int) (i j : Nat) (v : Int) : Nat → Nat → Int := fun r c => if r = i ∧ c = j then v else f r c
theorem lt3 {i : Nat} (h : i < 3) : i = 0 ∨ i = 1 ∨ i = 2 := by omega
theorem cs9_get (f : Nat → Nat → Int) {i j : Nat} (hi : i < 3) (hj : j < 3) : (cs9 f)[i * 3 + j]? = some (.int .i64 (f i j)) := by
  rcases lt3 hi with rfl | rfl | rfl <;> rcases lt3 hj with rfl | rfl | rfl <;> rfl
theorem cs9_congr {f g : Nat → Nat → Int} (h : ∀ r c, r < 3 → c < 3 → f r c = g r c) : cs9 f = cs9 g := by
  unfold cs9
  rw [h 0 0 (by omega) (by omega), h 0 1 (by omega) (by omega), h 0 2 (by omega) (by omega), h 1 0 (by omega) (by omega), h 1 1 (by omega) (by omega), h 1 2 (by omega) (by omega), h 2 0 (by omega) (by omega), h 2 1 (by omega) (by omega), h 2 2 (by omega) (by omega)]
theorem cs9_set (f : Nat → Nat → Int) {i j : Nat} (hi : i < 3) (hj : j < 3) (v : Int) : (cs9 f).setIfInBounds (i * 3 + j) (.int .i64 v) = cs9 (upd9 f i j v) := by
  rcases lt3 hi with rfl | rfl | rfl <;> rcases lt3 hj with rfl | rfl | rfl <;> rfl
/-- A table filled up to row i, column j. -/
def part9 (a : List (List Int)) (m i j : Nat) : Nat → Nat → Int := fun r c => if (r < i ∨ r = i ∧ c < j) ∧ c < m then g2 a r c else 0
def full9 (a : List (List Int)) (n m : Nat) : Nat → Nat → Int := fun r c => if r < n ∧ c < m then g2 a r c else 0
theorem part9_zero (a : List (List Int)) (m : Nat) : cs9 (part9 a m 0 0) = cs9 (fun _ _ => 0) := cs9_congr fun r c _ _ => by unfold part9; rw [if_neg (by omega)]
theorem part9_next (a : List (List Int)) (m i j : Nat) (hj : j < m) : cs9 (upd9 (part9 a m i j) i j (g2 a i j)) = cs9 (part9 a m i (j + 1)) := cs9_congr fun r c _ _ => by
  unfold upd9 part9
  by_cases e : r = i ∧ c = j
  · obtain ⟨rfl, rfl⟩ := e; rw [if_pos ⟨rfl, rfl⟩, if_pos (by omega)]
  · rw [if_neg e]
    by_cases h : (r < i ∨ r = i ∧ c < j) ∧ c < m
    · rw [if_pos h, if_pos (by omega)]
    · rw [if_neg h, if_neg (by omega)]
theorem part9_row (a : List (List Int)) (m i : Nat) : cs9 (part9 a m i m) = cs9 (part9 a m (i + 1) 0) := cs9_congr fun r c _ _ => by
  unfold part9
  by_cases h : (r < i ∨ r = i ∧ c < m) ∧ c < m
  · rw [if_pos h, if_pos (by omega)]
  · rw [if_neg h, if_neg (by omega)]
theorem part9_all (a : List (List Int)) (n m : Nat) : cs9 (part9 a m n 0) = cs9 (full9 a n m) := cs9_congr fun r c _ _ => by
  unfold part9 full9
  by_cases h : r < n ∧ c < m
  · rw [if_pos h, if_pos (by omega)]
  · rw [if_neg h, if_neg (by omega)]
abbrev agg9 (f : Nat → Nat → Int) : Value := .agg (cs9 f)
end Go.Proofs.Ytgmcmblcljfofaa

/- Arrays compared: three numbers, three bools, nine numbers. -/
namespace Go.Proofs.Ytgmcmblcljfofaa
open Go.RowKit

theorem info_arr : (Try.prog.info? 66).map (·.size) = some 3 := by kernel_rfl
theorem info_i1 : (Try.prog.info? 3).map (·.size) = some 1 := by kernel_rfl
theorem und_arr3 : Try.prog.underlying 66 = some (.array 3 3) := by kernel_rfl
theorem und_cells : Try.prog.underlying 68 = some (.array 3 66) := by kernel_rfl
theorem run_sizeOf' {t : TypeId} {n : Nat} (h : (Try.prog.info? t).map (·.size) = some n) (w : World) : (sizeOf t).run Try.prog w = .ok n w := by
  cases hq : Try.prog.info? t with
  | none => simp [hq] at h
  | some i => simp [hq] at h; simp [sizeOf, typeInfo, hq, h]
theorem und_int : Try.prog.underlying 3 = some (.int .i64) := by kernel_rfl
theorem run_isAgg_no (w : World) : (isAgg 3).run Try.prog w = .ok false w := by
  unfold isAgg; rw [Sem.run_bind, run_underlying und_int w]; rfl
theorem run_isAgg_arr (w : World) : (isAgg 66).run Try.prog w = .ok true w := by
  unfold isAgg; rw [Sem.run_bind, run_underlying und_arr3 w]; rfl
theorem run_part_int {cs : Array Value} {k : Nat} {v : Value} (h : cs[k]? = some v) (w : World) : (part 3 cs k).run Try.prog w = .ok v w := by
  unfold part; rw [Sem.run_bind, run_isAgg_no]; simp [h]
theorem run_part_arr (cs : Array Value) (k : Nat) (w : World) : (part 66 cs k).run Try.prog w = .ok (.agg (cs.extract k (k + 3))) w := by
  unfold part; rw [Sem.run_bind, run_isAgg_arr]; simp [run_sizeOf' info_arr]

theorem eq3_run (d : Nat) (x0 x1 x2 y0 y1 y2 : Int) (w : World) :
    (Op.equalIn (d + 2) 66 (.agg #[.int .i64 x0, .int .i64 x1, .int .i64 x2]) (.agg #[.int .i64 y0, .int .i64 y1, .int .i64 y2])).run Try.prog w = .ok (x0 == y0 && (x1 == y1 && x2 == y2)) w := by
  have u3 := und_int
  have a3 := run_isAgg_no
  have z3 := run_sizeOf' info_i1
  rw [show d + 2 = (d + 1) + 1 from rfl, Op.equalIn]
  simp only [Sem.run_bind, run_underlying und_arr3, Result.andThen_ok]
  simp only [Std.Legacy.Range.forIn_eq_forIn_range', Std.Legacy.Range.size, Nat.sub_zero, Nat.add_sub_cancel, Nat.div_one, List.range'_succ, List.range'_zero, List.forIn_cons, List.forIn_nil]
  go_simp
  by_cases h0 : x0 = y0 <;> by_cases h1 : x1 = y1 <;> by_cases h2 : x2 = y2 <;> simp [h0, h1, h2]

theorem eq9_run (d : Nat) (f g : Nat → Nat → Int) (w : World) :
    (Op.equalIn (d + 3) 68 (.agg (cs9 f)) (.agg (cs9 g))).run Try.prog w = .ok (pb (cs9 f = cs9 g)) w := by
  have hd : pb (cs9 f = cs9 g) = ((f 0 0 == g 0 0 && (f 0 1 == g 0 1 && f 0 2 == g 0 2)) && ((f 1 0 == g 1 0 && (f 1 1 == g 1 1 && f 1 2 == g 1 2)) && (f 2 0 == g 2 0 && (f 2 1 == g 2 1 && f 2 2 == g 2 2)))) := by
    rw [Bool.eq_iff_iff, pb_iff]
    simp [cs9, and_assoc]
  rw [hd]
  unfold cs9
  generalize f 0 0 = x0, f 0 1 = x1, f 0 2 = x2, f 1 0 = x3, f 1 1 = x4, f 1 2 = x5, f 2 0 = x6, f 2 1 = x7, f 2 2 = x8
  generalize g 0 0 = y0, g 0 1 = y1, g 0 2 = y2, g 1 0 = y3, g 1 1 = y4, g 1 2 = y5, g 2 0 = y6, g 2 1 = y7, g 2 2 = y8
  have p0 : ∀ w, (part 66 #[.int .i64 x0, .int .i64 x1, .int .i64 x2, .int .i64 x3, .int .i64 x4, .int .i64 x5, .int .i64 x6, .int .i64 x7, .int .i64 x8] (0 * 3)).run Try.prog w = .ok (.agg #[.int .i64 x0, .int .i64 x1, .int .i64 x2]) w := fun w => by rw [run_part_arr]; rfl
  have p1 : ∀ w, (part 66 #[.int .i64 x0, .int .i64 x1, .int .i64 x2, .int .i64 x3, .int .i64 x4, .int .i64 x5, .int .i64 x6, .int .i64 x7, .int .i64 x8] ((0 + 1) * 3)).run Try.prog w = .ok (.agg #[.int .i64 x3, .int .i64 x4, .int .i64 x5]) w := fun w => by rw [run_part_arr]; rfl
  have p2 : ∀ w, (part 66 #[.int .i64 x0, .int .i64 x1, .int .i64 x2, .int .i64 x3, .int .i64 x4, .int .i64 x5, .int .i64 x6, .int .i64 x7, .int .i64 x8] ((0 + 1 + 1) * 3)).run Try.prog w = .ok (.agg #[.int .i64 x6, .int .i64 x7, .int .i64 x8]) w := fun w => by rw [run_part_arr]; rfl
  have q0 : ∀ w, (part 66 #[.int .i64 y0, .int .i64 y1, .int .i64 y2, .int .i64 y3, .int .i64 y4, .int .i64 y5, .int .i64 y6, .int .i64 y7, .int .i64 y8] (0 * 3)).run Try.prog w = .ok (.agg #[.int .i64 y0, .int .i64 y1, .int .i64 y2]) w := fun w => by rw [run_part_arr]; rfl
  have q1 : ∀ w, (part 66 #[.int .i64 y0, .int .i64 y1, .int .i64 y2, .int .i64 y3, .int .i64 y4, .int .i64 y5, .int .i64 y6, .int .i64 y7, .int .i64 y8] ((0 + 1) * 3)).run Try.prog w = .ok (.agg #[.int .i64 y3, .int .i64 y4, .int .i64 y5]) w := fun w => by rw [run_part_arr]; rfl
  have q2 : ∀ w, (part 66 #[.int .i64 y0, .int .i64 y1, .int .i64 y2, .int .i64 y3, .int .i64 y4, .int .i64 y5, .int .i64 y6, .int .i64 y7, .int .i64 y8] ((0 + 1 + 1) * 3)).run Try.prog w = .ok (.agg #[.int .i64 y6, .int .i64 y7, .int .i64 y8]) w := fun w => by rw [run_part_arr]; rfl
  rw [show d + 3 = (d + 2) + 1 from rfl, Op.equalIn]
  simp only [Sem.run_bind, run_underlying und_cells, Result.andThen_ok, run_sizeOf' info_arr]
  simp only [Std.Legacy.Range.forIn_eq_forIn_range', Std.Legacy.Range.size, Nat.sub_zero, Nat.add_sub_cancel, Nat.div_one, List.range'_succ, List.range'_zero, List.forIn_cons, List.forIn_nil, Sem.run_bind]
  rw [p0]
  simp only [Result.andThen_ok, q0, eq3_run]
  by_cases h0 : (x0 == y0 && (x1 == y1 && x2 == y2)) = true
  · rw [h0]
    simp only [Bool.not_true, Bool.false_eq_true, if_false, Sem.run_pure, Result.andThen_ok, Sem.run_bind, p1, q1, eq3_run]
    by_cases h1 : (x3 == y3 && (x4 == y4 && x5 == y5)) = true
    · rw [h1]
      simp only [Bool.not_true, Bool.false_eq_true, if_false, Sem.run_pure, Result.andThen_ok, Sem.run_bind, p2, q2, eq3_run]
      by_cases h2 : (x6 == y6 && (x7 == y7 && x8 == y8)) = true
      · rw [h2]; simp
      · rw [Bool.not_eq_true] at h2; rw [h2]; simp
    · rw [Bool.not_eq_true] at h1; rw [h1]; simp
  · rw [Bool.not_eq_true] at h0; rw [h0]; simp
/-- Two tables as arrays held against each other. -/
theorem eq9_op (f g : Nat → Nat → Int) (w : World) : (Op.equalIn 10000 68 (agg9 f) (agg9 g)).run Try.prog w = .ok (pb (cs9 f = cs9 g)) w := eq9_run 9997 f g w
end Go.Proofs.Ytgmcmblcljfofaa

