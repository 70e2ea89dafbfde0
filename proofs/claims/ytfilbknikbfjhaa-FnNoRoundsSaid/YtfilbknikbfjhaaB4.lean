/- No rounds, by the program. -/
import Derived.Test.YtfilbknikbfjhaaB3
import Derived.Test.YtfilbknikbfjhaaTab
namespace Go.Proofs.Ytfilbknikbfjhaa
open Go.RowKit

set_option maxHeartbeats 1000000 in
theorem roundOf_any (p : GP) (i k j l : Nat) (xs ys : List (List Int)) (w : World) (h : GV p w xs ys) (hi : i < p.n) (hk : k < p.n) (hj : j < p.m) (hl : l < p.m) :
    Calls Try.prog 106 #[.agg #[.slice (some ⟨p.ba, p.oa, none⟩) p.n p.c, .slice (some ⟨p.bb, p.ob, none⟩) p.n p.d], .int .i64 i, .int .i64 k, .int .i64 j, .int .i64 l] w (Ret (.int .i64 (rnd xs ys i k j l)) w) := by
  have HT := Lib.hid (GT.start h)
  have hn3 := h.tx.n3
  have hm3 := h.tx.m3
  clear h
  go_enter Try.func106, Try.ntmps106
  go_wp2
  generalize w.alloc (.cells #[.slice (some ⟨p.ba, p.oa, none⟩) p.n p.c, .slice (some ⟨p.bb, p.ob, none⟩) p.n p.d] 25) = W1 at *
  have k0 := HT.out.c0
  have k1 := HT.out.c1
  have r1 := HT.out.gv.tx.row i hi
  have r2 := HT.out.gv.tx.row k hk
  have r3 := HT.out.gv.ty.row i hi
  have r4 := HT.out.gv.ty.row k hk
  have e1 := HT.out.gv.tx.cell k j hk hj
  have e2 := HT.out.gv.tx.cell i j hi hj
  have e3 := HT.out.gv.ty.cell k l hk hl
  have e4 := HT.out.gv.ty.cell k j hk hj
  have e5 := HT.out.gv.tx.cell i l hi hl
  have e6 := HT.out.gv.tx.cell k l hk hl
  have e7 := HT.out.gv.ty.cell i j hi hj
  have e8 := HT.out.gv.ty.cell i l hi hl
  have d1 := HT.out.gv.tx.bd k j hk hj
  have d2 := HT.out.gv.tx.bd i j hi hj
  have d3 := HT.out.gv.ty.bd k l hk hl
  have d4 := HT.out.gv.ty.bd k j hk hj
  have d5 := HT.out.gv.tx.bd i l hi hl
  have d6 := HT.out.gv.tx.bd k l hk hl
  have d7 := HT.out.gv.ty.bd i j hi hj
  have d8 := HT.out.gv.ty.bd i l hi hl
  go_quiet (fail)
  go_wp2
  go_quiet (fail)
  go_wp2
  go_quiet (fail)
  go_wp2
  go_quiet (fail)
  go_wp2
  go_ret
  exact ⟨rfl, below_drewN HT.out.below _⟩

def NRB (xs ys : List (List Int)) (m i k : Nat) : Prop := ∀ j l, j < m → l < m → rnd xs ys i k j l = 0

set_option maxHeartbeats 1000000 in
theorem noRoundsBetween_any (p : GP) (i k : Nat) (xs ys : List (List Int)) (w : World) (h : GV p w xs ys) (hi : i < p.n) (hk : k < p.n) :
    Calls Try.prog 71 #[.agg #[.slice (some ⟨p.ba, p.oa, none⟩) p.n p.c, .slice (some ⟨p.bb, p.ob, none⟩) p.n p.d], .int .i64 i, .int .i64 k] w (Ret (.bool (pb (NRB xs ys p.m i k))) w) := by
  have HT := Lib.hid (GT.start h)
  have hn3 := h.tx.n3
  have hm3 := h.tx.m3
  clear h
  have k0 := HT.out.c0
  have r1 := HT.out.gv.tx.row i hi
  go_enter Try.func71, Try.ntmps71
  go_wp2
  clear k0 r1
  generalize w.alloc (.cells #[.slice (some ⟨p.ba, p.oa, none⟩) p.n p.c, .slice (some ⟨p.bb, p.ob, none⟩) p.n p.d] 25) = W1 at *
  go_loopw [15] (fun j wr => ∃ a : Nat, a ≤ p.m ∧ j = .int .i64 a ∧ Hid (∀ j l, j < a → l < p.m → rnd xs ys i k j l = 0) ∧ Hid (GT p w wr w.heap.size xs ys)) (fun j _ => p.m - (intOf j).toNat)
  case atStart => exact ⟨0, Nat.zero_le _, rfl, Lib.hid (fun _ _ h => absurd h (by omega)), HT⟩
  case round =>
    clear HT
    obtain ⟨a, ha, rfl, HALL, HT⟩ := hrel
    by_cases hlt : a < p.m
    · have k0 := HT.out.c0
      have r1 := HT.out.gv.tx.row i hi
      go_wp2
      clear k0 r1
      go_loopw [24] (fun l wi => ∃ b : Nat, b ≤ p.m ∧ l = .int .i64 b ∧ Hid (∀ l, l < b → rnd xs ys i k a l = 0) ∧ Hid (GT p w wi w.heap.size xs ys)) (fun l _ => p.m - (intOf l).toNat)
      case atStart => exact ⟨0, Nat.zero_le _, rfl, Lib.hid (fun _ h => absurd h (by omega)), HT⟩
      case round =>
        clear HT
        obtain ⟨b, hb, rfl, HIN, HT⟩ := hrel
        by_cases hbl : b < p.m
        · have k0 := HT.out.c0
          have k1 := HT.out.c1
          go_wp2_with fail
          refine (roundOf_any p i k a b xs ys _ HT.out.gv hi hk hlt hbl).mono ?_
          rintro e w1 ⟨rfl, hb1⟩
          have HT2 := Lib.hid (HT.out.up hb1)
          clear hb1 HT k0 k1
          by_cases hz : rnd xs ys i k a b = 0
          · have hz' : (rnd xs ys i k a b != 0) = false := by simp [hz]
            have HZ := Lib.hid hz
            clear hz
            go_wp2
            go_roundw
            case rel => exact ⟨b + 1, by omega, by go_num, Lib.hid (fun l hl => by
              by_cases hlb : l < b
              · exact HIN.out l hlb
              · obtain rfl : l = b := by omega
                exact HZ.out), HT2⟩
            case measure => simp [intOf]; omega
          · have HV := Lib.hid (pb_false (p := NRB xs ys p.m i k) fun v => hz (v a b hlt hbl))
            have hz' : (rnd xs ys i k a b != 0) = true := by simp [hz]
            clear hz
            go_wp2
            go_ret
            exact ⟨ret_bool HV.out.symm, HT2.out.below⟩
        · go_wp2
          go_roundw
          case rel => exact ⟨a + 1, by omega, by go_num, Lib.hid (fun j l hj hl => by
            by_cases hja : j < a
            · exact HALL.out j l hja hl
            · obtain rfl : j = a := by omega
              exact HIN.out l (by omega)), HT⟩
          case measure => simp [intOf]; omega
    · go_wp2
      go_ret
      exact ⟨ret_bool (pb_true (fun j l hj hl => HALL.out j l (by omega) hl)).symm, HT.out.below⟩

set_option maxHeartbeats 1000000 in
theorem NoRounds_impl (A B : Option Addr) (n c m d : Nat) (xs ys : List (List Int)) (w : World) (hx : IntRows w A n c xs) (hy : IntRows w B m d ys) :
    Calls Try.prog 23 #[.agg #[.slice A n c, .slice B m d]] w (Ret (.bool (pb (NR xs ys))) w) := by
  have hb0 := below_alloc w (.cells #[.slice A n c, .slice B m d] 25)
  have b0 := blk_new w 25 #[.slice A n c, .slice B m d]
  have HB := Lib.hid hb0
  have HK := Lib.hid b0
  have HX := Lib.hid (hx.keep (Keep.below hb0))
  have HY := Lib.hid (hy.keep (Keep.below hb0))
  have HX0 := Lib.hid hx
  have HY0 := Lib.hid hy
  clear hx hy hb0 b0
  go_enter Try.func23, Try.ntmps23
  go_wp2_with fail
  generalize w.alloc (.cells #[.slice A n c, .slice B m d] 25) = W1 at *
  have HC := Lib.hid (ValidGame_impl _ _ _ _ _ _ _ _ _ HX.out HY.out)
  by_cases hv : VG xs ys
  · refine ((pb_true hv) ▸ HC.out).mono ?_
    rintro e w1 ⟨rfl, hb⟩
    have HV := Lib.hid hv
    have hb2 := below_up HB.out hb
    have hk2 := blk_below HK.out hb
    obtain ⟨p, rfl, rfl, rfl, rfl, rfl, rfl, hg⟩ := GV.of HX0.out HY0.out hv
    have HT := Lib.hid (show GT p w w1 w.heap.size xs ys from ⟨hb2, hk2, hg⟩)
    have hn3 := hg.tx.n3
    have hm3 := hg.tx.m3
    have hlx := Lib.hid hg.lx
    have hmx := Lib.hid hg.mx
    clear hb hv hb2 hk2 hg HX HY HX0 HY0 HB HK HC
    have k0 := HT.out.c0
    go_wp2
    clear k0
    go_loopw [11] (fun j wr => ∃ a : Nat, a ≤ p.n ∧ j = .int .i64 a ∧ Hid (∀ i k, i < a → k < p.n → NRB xs ys p.m i k) ∧ Hid (GT p w wr w.heap.size xs ys)) (fun j _ => p.n - (intOf j).toNat)
    case atStart => exact ⟨0, Nat.zero_le _, rfl, Lib.hid (fun _ _ h => absurd h (by omega)), HT⟩
    case round =>
      clear HT
      obtain ⟨a, ha, rfl, HALL, HT⟩ := hrel
      by_cases hlt : a < p.n
      · have k0 := HT.out.c0
        go_wp2
        clear k0
        go_loopw [17] (fun l wi => ∃ b : Nat, b ≤ p.n ∧ l = .int .i64 b ∧ Hid (∀ k, k < b → NRB xs ys p.m a k) ∧ Hid (GT p w wi w.heap.size xs ys)) (fun l _ => p.n - (intOf l).toNat)
        case atStart => exact ⟨0, Nat.zero_le _, rfl, Lib.hid (fun _ h => absurd h (by omega)), HT⟩
        case round =>
          clear HT
          obtain ⟨b, hb, rfl, HIN, HT⟩ := hrel
          by_cases hbl : b < p.n
          · have k0 := HT.out.c0
            have k1 := HT.out.c1
            go_wp2_with fail
            by_cases hz : NRB xs ys p.m a b
            · refine ((pb_true hz) ▸ noRoundsBetween_any p a b xs ys _ HT.out.gv hlt hbl).mono ?_
              rintro e w2 ⟨rfl, hb1⟩
              have HT2 := Lib.hid (HT.out.up hb1)
              have HZ := Lib.hid hz
              clear hb1 HT k0 k1 hz
              go_wp2
              go_roundw
              case rel => exact ⟨b + 1, by omega, by go_num, Lib.hid (fun l hl => by
                by_cases hlb : l < b
                · exact HIN.out l hlb
                · obtain rfl : l = b := by omega
                  exact HZ.out), HT2⟩
              case measure => simp [intOf]; omega
            · refine ((pb_false hz) ▸ noRoundsBetween_any p a b xs ys _ HT.out.gv hlt hbl).mono ?_
              rintro e w2 ⟨rfl, hb1⟩
              have HT2 := Lib.hid (HT.out.up hb1)
              have HZ := Lib.hid (pb_false (p := NR xs ys) fun v => hz fun j l hj hl => v.no a b j l (by rw [hlx.out]; exact hlt) (by rw [hlx.out]; exact hbl) (by rw [hmx.out]; exact hj) (by rw [hmx.out]; exact hl))
              clear hb1 HT k0 k1 hz
              go_wp2
              go_ret
              exact ⟨ret_bool HZ.out.symm, HT2.out.below⟩
          · go_wp2
            go_roundw
            case rel => exact ⟨a + 1, by omega, by go_num, Lib.hid (fun j l hj hl => by
              by_cases hja : j < a
              · exact HALL.out j l hja hl
              · obtain rfl : j = a := by omega
                exact HIN.out l (by omega)), HT⟩
            case measure => simp [intOf]; omega
      · go_wp2
        go_ret
        exact ⟨ret_bool (pb_true ⟨HV.out, fun i k j l hi hk hj hl => HALL.out i k (by rw [hlx.out] at hi; omega) (by rw [hlx.out] at hk; exact hk) j l (by rw [hmx.out] at hj; exact hj) (by rw [hmx.out] at hl; exact hl)⟩).symm, HT.out.below⟩
  · have HZ := Lib.hid (pb_false (p := NR xs ys) fun v => hv v.vg)
    refine ((pb_false hv) ▸ HC.out).mono ?_
    rintro e w1 ⟨rfl, hb⟩
    have HB2 := Lib.hid (below_up HB.out hb)
    clear hb hv HC
    go_wp2
    go_ret
    exact ⟨ret_bool HZ.out.symm, HB2.out⟩

end Go.Proofs.Ytfilbknikbfjhaa
