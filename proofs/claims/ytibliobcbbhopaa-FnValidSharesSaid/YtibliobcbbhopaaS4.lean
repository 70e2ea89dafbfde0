/- Means of tables, by the program: terms in a slice made by append. -/
import Derived.Test.YtibliobcbbhopaaS3
import Derived.Deep.AppendLies
namespace Go.Proofs.Ytibliobcbbhopaa
open Go.RowKit

theorem wrap_in64 {x : Int} (h : -9223372036854775808 ≤ x ∧ x ≤ 9223372036854775807) : IntKind.i64.wrap x = x := by rw [IntKind.wrap_i64]; omega
theorem Try.infoI : (Try.prog.info? 3).map (fun i => (i.zero, i.size, i.bytes)) = some (some (.int .i64 0), 1, 8) := by kernel_rfl
/-- Terms under way. -/
structure MP (a : List (List Int)) (x y : List Int) (m : Nat) (w : World) (i j : Nat) (v : Value) (L : List Int) (wr : World) : Prop where
  bld : BldI (w.heap.size + 1) wr.heap.size wr v L
  box : Blk wr w.heap.size 53 #[.int .i64 0, .int .i64 0]
  below : Below w.heap.size w wr
  len : L.length ≤ 3 * i + j
  bd : ∀ t ∈ L, -9000000 ≤ t ∧ t ≤ 9000000
  sum : tot L = payU a x y m i + payR a x y i j
theorem MP.start (a : List (List Int)) (x y : List Int) (m : Nat) (w : World) : MP a x y m w 0 0 (.slice none 0 0) [] (w.alloc (.cells #[.int .i64 0, .int .i64 0] 53)) :=
  ⟨BldI.nil _ _ _, blk_new _ _ _, below_alloc _ _, by simp, fun t ht => by simp at ht, rfl⟩
theorem MP.qu {a x y m w i j v L wr wr'} (h : MP a x y m w i j v L wr) (k : Quiet wr wr') : MP a x y m w i j v L wr' := by
  obtain ⟨q, rfl⟩ := k
  exact ⟨h.bld.of_blocks fun _ _ _ _ => rfl, h.box, below_drewN h.below q, h.len, h.bd, h.sum⟩
theorem MP.next {a x y m w i v L wr} (h : MP a x y m w i m v L wr) (hm : m ≤ 3) : MP a x y m w (i + 1) 0 v L wr :=
  ⟨h.bld, h.box, h.below, by have := h.len; omega, h.bd, by rw [h.sum, payU, payR]; omega⟩
theorem MP.push {a x y m w i j v L wr w2 w1} {gg cap : Nat} {t : Int} (h : MP a x y m w i j v L wr) (hb : Below wr.heap.size wr w2) (hs : w2.heap.size = wr.heap.size + 1)
    (hown : w1.ownsRow (w.heap.size + 1) 3 1 (.slice (some ⟨gg, 0, none⟩) (L.length + 1) cap) (L.length + 1) (L.map iv ++ [iv t])) (hgrow : w2.grownBy w1 v.ownBlock) (hlt : gg < w1.heap.size)
    (ht : -9000000 ≤ t ∧ t ≤ 9000000) (he : payR a x y i (j + 1) = payR a x y i j + t) : MP a x y m w i (j + 1) (.slice (some ⟨gg, 0, none⟩) (L.length + 1) cap) (L ++ [t]) w1 := by
  have hz := h.below.size
  have hv : ∀ k, v.ownBlock = some k → w.heap.size + 1 ≤ k := fun k hk => (h.bld.own.lt k hk).1
  have hbl : w.heap.size < wr.heap.size := blk_lt h.box
  have hsz := hgrow.size
  refine ⟨⟨by rw [List.length_append, List.length_singleton, List.map_append]; exact hown, fun k hk => ?_⟩, ?_, ?_, ?_, fun u hu => ?_, ?_⟩
  · have : gg = k := by simpa [Value.ownBlock] using hk
    omega
  · exact (hgrow.block _ (by omega) (fun e => by have := hv _ e.symm; omega)).trans ((hb.block _ hbl).trans h.box)
  · exact ⟨hgrow.os.trans (hb.os.trans h.below.os), hgrow.tape.trans (hb.tape.trans h.below.tape), hgrow.output.trans (hb.output.trans h.below.output), by omega, fun k hk =>
      (hgrow.block k (by omega) (fun e => by have := hv k e.symm; omega)).trans ((hb.block k (by omega)).trans (h.below.block k hk))⟩
  · have := h.len; rw [List.length_append, List.length_singleton]; omega
  · rcases List.mem_append.1 hu with hu | hu
    · exact h.bd u hu
    · simp at hu; subst hu; exact ht
  · rw [tot_snoc, h.sum, he]; omega
theorem MP.ints {a x y m w i j L wr} {A : Option Addr} {c : Nat} (h : MP a x y m w i j (.slice A L.length c) L wr) (hl : L.length ≤ 100) : Ints wr A L.length c L := by
  obtain ⟨A', n', c', g, e, hn, ho, _⟩ := h.bld.owns (by omega) (fun t ht => by have := h.bd t ht; omega)
  injection e with e1 e2 e3
  subst e1
  subst e2
  subst e3
  exact ho.ints
theorem MP.sumOk {a x y m w i j v L wr} (h : MP a x y m w i j v L wr) (hl : L.length ≤ 100) : SumOk L :=
  ⟨by omega, fun j hj => by have := h.bd _ (gi_mem hj); omega⟩
theorem tot_bd {x : List Int} {n : Nat} (hn : n ≤ 3) (hl : x.length = n) (h : ∀ i, i < n → 0 ≤ gi x i ∧ gi x i ≤ 1000) : 0 ≤ tot x ∧ tot x ≤ 3000 := by
  have := sm_bd (xs := x) (k := x.length) (lo := 0) (hi := 1000) fun j hj => h j (by omega)
  unfold tot
  omega

set_option maxRecDepth 100000 in
set_option maxHeartbeats 3200000 in
theorem meanPay_any (b o : Nat) (rb ro cc : Nat → Nat) (n m c cx cy : Nat) (X Y : Option Addr) (a : List (List Int)) (x y : List Int) (w : World) (h : Tab w b o rb ro cc n m a) (hx : Ints w X n cx x) (hy : Ints w Y m cy y) (hp : PB a x y n m) (tx : 0 < tot x) (ty : 0 < tot y) :
    Calls Try.prog 81 #[.slice (some ⟨b, o, none⟩) n c, .slice X n cx, .slice Y m cy] w (Ret (frV (payU a x y m n) (tot x * tot y)) w) := by
  have HT := Lib.hid h
  have hn1 := h.n1
  have hn3 := h.n3
  have hm1 := h.m1
  have hm3 := h.m3
  have hbx := tot_bd hn3 hx.len hp.x
  have hby := tot_bd hm3 hy.len hp.y
  have HSX := Lib.hid (show SumOk x from ⟨by rw [hx.len]; omega, fun j hj => by have := hp.x j (by rw [← hx.len]; exact hj); omega⟩)
  have HSY := Lib.hid (show SumOk y from ⟨by rw [hy.len]; omega, fun j hj => by have := hp.y j (by rw [← hy.len]; exact hj); omega⟩)
  have HIX := Lib.hid hx
  have HIY := Lib.hid hy
  obtain ⟨bx, ox, rfl, hcx⟩ := hx.at_ (by omega)
  obtain ⟨by_, oy, rfl, hcy⟩ := hy.at_ (by omega)
  have HX := Lib.hid hcx
  have HY := Lib.hid hcy
  have HP := Lib.hid hp
  clear h hx hy hcx hcy hp
  obtain ⟨i0, hi0, hz0, hz1, hz2⟩ := info_parts Try.infoI
  have HST := Lib.hid (MP.start a x y m w)
  go_enter Try.func81, Try.ntmps81
  go_wp2
  go_loopw [7, 14] (fun v i wr => ∃ (k : Nat) (L : List Int), k ≤ n ∧ i = .int .i64 k ∧ Hid (MP a x y m w k 0 v L wr)) (fun _ i _ => n - (intOf i).toNat)
  case atStart => exact ⟨0, [], Nat.zero_le _, rfl, HST⟩
  case round =>
    clear HST
    obtain ⟨k, L, hk, rfl, HM⟩ := hrel
    obtain ⟨Av, cv, rfl⟩ := HM.out.bld.form
    by_cases hlt : k < n
    · have HK := Lib.hid (Keep.below HM.out.below)
      have c3 := HK.out _ _ (HT.out.row k hlt)
      go_wp2
      clear c3
      go_loopw [7, 21] (fun v j wi => ∃ (l : Nat) (L : List Int), l ≤ m ∧ j = .int .i64 l ∧ Hid (MP a x y m w k l v L wi)) (fun _ j _ => m - (intOf j).toNat)
      case atStart => exact ⟨0, L, Nat.zero_le _, rfl, HM⟩
      case round =>
        clear HM HK
        obtain ⟨l, L, hl, rfl, HM⟩ := hrel
        obtain ⟨Av, cv, rfl⟩ := HM.out.bld.form
        by_cases hll : l < m
        · have HK := Lib.hid (Keep.below HM.out.below)
          have c4 := HK.out _ _ (HT.out.cell k l hlt hll)
          have c1 := HK.out _ _ (HX.out k hlt)
          have c2 := HK.out _ _ (HY.out l hll)
          obtain ⟨x1, x2⟩ := HP.out.x k hlt
          obtain ⟨y1, y2⟩ := HP.out.y l hll
          obtain ⟨z1, z2⟩ := HP.out.a k l hlt hll
          obtain ⟨p1, p2⟩ := mul_bd3 ⟨x1, x2⟩ ⟨z1, z2⟩
          obtain ⟨p3, p4⟩ := mul_bd ⟨x1, x2⟩ ⟨y1, y2⟩ ⟨z1, z2⟩
          rw [show gi x k * gi y l * g2 a k l = g2 a k l * gi x k * gi y l by rw [Int.mul_comm (gi x k * gi y l), Int.mul_assoc]] at p3 p4
          have HE : Hid (payR a x y k (l + 1) = payR a x y k l + g2 a k l * gi x k * gi y l) := Lib.hid (by
            rw [payR, Int.mul_comm (gi x k * gi y l), Int.mul_assoc])
          have hL := HM.out.len
          have hsz := HM.out.below.size
          have hbl : w.heap.size < wr.heap.size := blk_lt HM.out.box
          go_wp2
          have HW : Hid (IntKind.i64.wrap (IntKind.i64.wrap (g2 a k l * gi x k) * gi y l) = g2 a k l * gi x k * gi y l) := Lib.hid (by rw [wrap_in64 (x := g2 a k l * gi x k) (by omega), wrap_in64 (by omega)])
          go_region_held3 (fun W => W.cell? ⟨bx, ox + k, none⟩ = some (.int .i64 (gi x k)) ∧ W.cell? ⟨by_, oy + l, none⟩ = some (.int .i64 (gi y l)))
            (first | go_keep | exact HKK.out)
            ((refine step_append_lies _ (by rfl) _ _ _ (by rfl) (w.heap.size + 1) 3 i0 _ 1 8 Try.underlying30 hi0 hz0 hz1 hz2 rfl (by omega) (.slice Av L.length cv) L.length (L.map iv) (by rfl) ((HM.out.bld.own.alloc _).drew) ⟨wr.heap.size, 0, none⟩ 1 1 [iv (IntKind.i64.wrap (IntKind.i64.wrap (g2 a k l * gi x k) * gi y l))] (by rfl) (by rfl) (World.news_of_block (w := (wr.alloc (.cells #[iv (IntKind.i64.wrap (IntKind.i64.wrap (g2 a k l * gi x k) * gi y l))] 3)).drew) (cs := #[iv (IntKind.i64.wrap (IntKind.i64.wrap (g2 a k l * gi x k) * gi y l))]) (t := 3) (fr := (0, 0)) (heap_alloc_new wr _)) (by simp [Value.oneCell', iv]) (by omega) (by unfold maxLen; omega) (by omega) (by simp; omega) (wr.heap.size + 1) (by simp) ?_; intro gg cap w1 hown1 hgrow hat hlt1; rw [HW.out] at hown1; have HM2 := Lib.hid (HM.out.push ((below_alloc wr _).drew) (by simp) hown1 hgrow hlt1 ⟨p3, p4⟩ HE.out); have HKK := Lib.hid (And.intro (Keep.below HM2.out.below _ _ (HX.out k hlt)) (Keep.below HM2.out.below _ _ (HY.out l hll))); clear hown1 hgrow hat hlt1 HM))
          clear c1 c2 c4
          go_wp2
          go_roundw
          case rel => exact ⟨l + 1, _, by omega, by go_num, Lib.hid (by first | exact HM2.out | exact HM2.out.qu ⟨1, rfl⟩ | exact HM2.out.qu ⟨_, rfl⟩)⟩
          case measure => simp [intOf]; omega
        · obtain rfl : l = m := by omega
          have HN := Lib.hid (HM.out.next hm3)
          go_wp2
          go_roundw
          case rel => exact ⟨k + 1, _, by omega, by go_num, HN⟩
          case measure => simp [intOf]; omega
    · obtain rfl : k = n := by omega
      have hL := HM.out.len
      have hxy : 1 ≤ tot x * tot y ∧ tot x * tot y ≤ 9000000 := by
        have h1 : 1 * 1 ≤ tot x * tot y := Int.mul_le_mul (by omega) (by omega) (by omega) (by omega)
        have h2 : tot x * tot y ≤ 3000 * 3000 := Int.mul_le_mul hbx.2 hby.2 hby.1 (by omega)
        omega
      obtain ⟨xy1, xy2⟩ := hxy
      have hpu := payU_bd HP.out hm3 (Nat.le_refl k)
      have HSM : Hid (tot L = payU a x y m k) := Lib.hid (by rw [HM.out.sum, payR]; omega)
      have HC1 := Lib.hid (sumOf_any _ _ _ _ _ (HM.out.ints (by omega)) (HM.out.sumOk (by omega)))
      go_wp2_with fail
      refine HC1.out.mono ?_
      rintro e w2 ⟨rfl, hq⟩
      have HM2 := Lib.hid (HM.out.qu hq)
      clear hq HC1 HM
      rw [HSM.out]
      have HC1 := Lib.hid (sumOf_any _ _ _ _ _ (HIX.out.keep (Keep.below HM2.out.below)) HSX.out)
      go_wp2_with fail
      refine HC1.out.mono ?_
      rintro e w3 ⟨rfl, hq⟩
      have HM3 := Lib.hid (HM2.out.qu hq)
      clear hq HC1 HM2
      have HC1 := Lib.hid (sumOf_any _ _ _ _ _ (HIY.out.keep (Keep.below HM3.out.below)) HSY.out)
      go_wp2_with fail
      refine HC1.out.mono ?_
      rintro e w4 ⟨rfl, hq⟩
      have HM4 := Lib.hid (HM3.out.qu hq)
      clear hq HC1 HM3
      have HC1 := Lib.hid (fracOf_any (payU a x y m k) (tot x * tot y) w4 (by unfold Mid; omega) (by unfold Mid; omega) xy1)
      go_wp2_with fail
      refine HC1.out.mono ?_
      rintro e w5 ⟨rfl, hb⟩
      have b0 := blk_below HM4.out.box hb
      have HBW := Lib.hid (below_up HM4.out.below hb)
      clear hb HC1 HM4
      have HFV : Hid (frV (payU a x y m k) (tot x * tot y) = .agg #[.int .i64 (frU (payU a x y m k) (tot x * tot y)), .int .i64 (frD (payU a x y m k) (tot x * tot y))]) := Lib.hid rfl
      rw [HFV.out]
      generalize frU (payU a x y m k) (tot x * tot y) = U at *
      generalize frD (payU a x y m k) (tot x * tot y) = D at *
      have c0 := blk_cell b0 (i := 0) rfl
      have c1 := blk_cell b0 (i := 1) rfl
      have f0 := blk_frozen b0 0
      have f1 := blk_frozen b0 1
      go_wp2
      clear c0 c1 f0 f1
      have B1 := blk_set (blk_set b0 0 (.int .i64 U)) 1 (.int .i64 D)
      have r0 := blk_cell B1 (i := 0) (v := .int .i64 U) rfl
      have r1 := blk_cell B1 (i := 1) (v := .int .i64 D) rfl
      have HBX := Lib.hid ((HBW.out.setCell (p := ⟨w.heap.size, 0, none⟩) (Nat.le_refl _) (.int .i64 U)).setCell (p := ⟨w.heap.size, 1, none⟩) (Nat.le_refl _) (.int .i64 D))
      clear B1 b0 HBW
      generalize (w5.setCell ⟨w.heap.size, 0, none⟩ (.int .i64 U)).setCell ⟨w.heap.size, 1, none⟩ (.int .i64 D) = W3 at *
      refine bodyPost_ret (v := .agg #[.int .i64 U, .int .i64 D]) (by simp [results, Try.results81, go_sem, r0, r1]) rfl ?_
      exact ⟨by rw [HFV.out], HBX.out⟩
end Go.Proofs.Ytibliobcbbhopaa
