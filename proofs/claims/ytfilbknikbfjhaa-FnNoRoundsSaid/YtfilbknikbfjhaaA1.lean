/- The harness of the exact laws: sizes, copies, comparisons. -/
import Derived.Test.YtfilbknikbfjhaaMem
namespace Go.Proofs.Ytfilbknikbfjhaa
open Go.RowKit

def szI (left : Int) (n : Nat) : Int := if left - n < 0 then -1 else left - n

set_option maxHeartbeats 400000 in
theorem szIntS_any (A : Option Addr) (n c : Nat) (left : Int) (w : World) (hn : n ≤ 17592186044416) (h0 : 0 ≤ left) (h1 : left ≤ 1048576) :
    Calls Try.prog 93 #[.slice A n c, .int .i64 left] w fun e w' => e = .returned (.int .i64 (szI left n)) ∧ w = w' := by
  by_cases h : left - n < 0
  · go_enter Try.func93, Try.ntmps93
    go_wp2
    go_ret
    exact ⟨ret_int (by rw [szI, if_pos h]), rfl⟩
  · go_enter Try.func93, Try.ntmps93
    go_wp2
    go_ret
    exact ⟨ret_int (by rw [szI, if_neg (by omega)]), rfl⟩

def eqI (xs ys : List Int) : Bool := decide (xs = ys)
theorem eqI_len {xs ys : List Int} (h : xs.length ≠ ys.length) : eqI xs ys = false := by
  unfold eqI; exact decide_eq_false fun e => h (by rw [e])
theorem eqI_no {xs ys : List Int} {k : Nat} (h : gi xs k ≠ gi ys k) : eqI xs ys = false := by
  unfold eqI; exact decide_eq_false fun e => h (by rw [e])
theorem eqI_yes {xs ys : List Int} (hl : xs.length = ys.length) (h : ∀ k, k < xs.length → gi xs k = gi ys k) : eqI xs ys = true := by
  unfold eqI
  exact decide_eq_true (gi_ext hl h)

set_option maxHeartbeats 400000 in
theorem eqIntS_any (A B : Option Addr) (n c m d : Nat) (xs ys : List Int) (w : World) (hx : Ints w A n c xs) (hy : Ints w B m d ys) :
    Calls Try.prog 28 #[.slice A n c, .slice B m d] w fun e w' => e = .returned (.bool (eqI xs ys)) ∧ Quiet w w' := by
  obtain ⟨lx, cx, mx, _, hx⟩ := hx
  obtain ⟨ly, cy, my, _, hy⟩ := hy
  have Lx := Lib.hid lx
  have Ly := Lib.hid ly
  clear lx ly
  by_cases hnm : n = m
  · subst hnm
    go_enter Try.func28, Try.ntmps28
    go_wp2
    go_loopw [5] (fun i wr => ∃ k : Nat, k ≤ n ∧ i = .int .i64 k ∧ (∀ j, j < k → gi xs j = gi ys j) ∧ Quiet w wr) (fun i _ => n - (intOf i).toNat)
    case atStart => exact ⟨0, Nat.zero_le _, rfl, fun _ h => absurd h (by omega), Quiet.refl _⟩
    case round =>
      obtain ⟨k, hk, rfl, hall, q, rfl⟩ := hrel
      have HALL := Lib.hid hall
      clear hall
      by_cases hlt : k < n
      · obtain ⟨b, o, rfl, hcx⟩ := hx (by omega)
        obtain ⟨b2, o2, rfl, hcy⟩ := hy (by omega)
        have c1 := hcx k hlt
        have c2 := hcy k hlt
        clear hx hy hcx hcy
        by_cases he : gi xs k = gi ys k
        · have he' : (gi xs k != gi ys k) = false := by simp [he]
          have HE := Lib.hid he
          clear he
          go_wp2
          go_quiet (fail)
          go_wp2
          go_roundw
          case rel => exact ⟨k + 1, by omega, by go_num, fun j hj => by
            by_cases hjk : j < k
            · exact HALL.out j hjk
            · obtain rfl : j = k := by omega
              exact HE.out, ⟨_, rfl⟩⟩
          case measure => simp [intOf]; omega
        · have he' : (gi xs k != gi ys k) = true := by simpa using he
          go_wp2
          go_quiet (fail)
          go_wp2
          go_ret
          exact ⟨ret_bool (eqI_no he).symm, Quiet.two _ _ _⟩
      · obtain rfl : k = n := by omega
        go_wp2
        go_ret
        exact ⟨ret_bool (eqI_yes (by rw [Lx.out, Ly.out]) fun j hj => HALL.out j (by rw [Lx.out] at hj; exact hj)).symm, ⟨_, rfl⟩⟩
  · go_enter Try.func28, Try.ntmps28
    go_wp2
    go_ret
    exact ⟨ret_bool (eqI_len (by rw [Lx.out, Ly.out]; exact hnm)).symm, Quiet.refl _⟩

/-- The size of rows, off a bound. -/
def szR : Int → List (List Int) → Int
  | left, [] => left
  | left, x :: xs => if szI left x.length < 0 then -1 else szR (szI left x.length) xs
def szRR (left : Int) (xss : List (List Int)) : Int := if szI left xss.length < 0 then -1 else szR (szI left xss.length) xss
theorem szI_le (left : Int) (n : Nat) (h0 : 0 ≤ left) (h1 : left ≤ 1048576) : -1 ≤ szI left n ∧ szI left n ≤ 1048576 := by unfold szI; split <;> omega
theorem szR_neg {left : Int} {x : List Int} {xs : List (List Int)} (h : szI left x.length < 0) : szR left (x :: xs) = -1 := by rw [szR, if_pos h]
theorem szR_pos {left : Int} {x : List Int} {xs : List (List Int)} (h : ¬ szI left x.length < 0) : szR left (x :: xs) = szR (szI left x.length) xs := by rw [szR, if_neg h]
theorem gr_drop {xss : List (List Int)} {k : Nat} (h : k < xss.length) : xss.drop k = gr xss k :: xss.drop (k + 1) := by
  rw [gr_get h]; exact List.drop_eq_getElem_cons h

set_option maxHeartbeats 400000 in
theorem szIntSS_any (A : Option Addr) (n c : Nat) (xss : List (List Int)) (left : Int) (w : World) (hx : IntRows w A n c xss) (h0 : 0 ≤ left) (h1 : left ≤ 1048576) :
    Calls Try.prog 50 #[.slice A n c, .int .i64 left] w fun e w' => e = .returned (.int .i64 (szRR left xss)) ∧ Quiet w w' := by
  obtain ⟨lx, cx, mx, hx⟩ := hx
  have Lx := Lib.hid lx
  clear lx
  by_cases h : left - n < 0
  · go_enter Try.func50, Try.ntmps50
    go_wp2
    go_ret
    exact ⟨ret_int (by rw [szRR, Lx.out, szI, if_pos h]; rfl), Quiet.refl _⟩
  · go_enter Try.func50, Try.ntmps50
    go_wp2
    go_loopw [1, 5] (fun l i wr => ∃ (k : Nat) (z : Int), k ≤ n ∧ i = .int .i64 k ∧ l = .int .i64 z ∧ 0 ≤ z ∧ z ≤ 1048576 ∧ Hid (szRR left xss = szR z (xss.drop k)) ∧ Quiet w wr) (fun _ i _ => n - (intOf i).toNat)
    case atStart => exact ⟨0, left - n, Nat.zero_le _, rfl, rfl, by omega, by omega, Lib.hid (by rw [szRR, Lx.out, szI, if_neg (by omega), if_neg (by omega)]; rfl), Quiet.refl _⟩
    case round =>
      obtain ⟨k, z, hk, rfl, rfl, hz0, hz1, HS, q, rfl⟩ := hrel
      by_cases hlt : k < n
      · obtain ⟨b, o, rfl, hcx⟩ := hx (by omega)
        obtain ⟨R, cc, c1, hR⟩ := hcx k hlt
        clear hx hcx
        have hRl : (gr xss k).length ≤ 17592186044416 := hR.max
        have hsz := szI_le z (gr xss k).length hz0 hz1
        have HD := Lib.hid (gr_drop (xss := xss) (k := k) (by rw [Lx.out]; exact hlt))
        by_cases hn : szI z (gr xss k).length < 0
        · go_wp2_with (go_at_call 93; refine (szIntS_any _ _ _ _ _ hRl hz0 hz1).mono ?_; rintro e w' ⟨rfl, rfl⟩)
          go_ret
          exact ⟨ret_int (by rw [HS.out, HD.out, szR_neg hn]), ⟨_, rfl⟩⟩
        · go_wp2_with (go_at_call 93; refine (szIntS_any _ _ _ _ _ hRl hz0 hz1).mono ?_; rintro e w' ⟨rfl, rfl⟩)
          go_roundw
          case rel => exact ⟨k + 1, _, by omega, by go_num, rfl, by omega, hsz.2, Lib.hid (by rw [HS.out, HD.out, szR_pos (by omega)]), ⟨_, rfl⟩⟩
          case measure => simp [intOf]; omega
      · obtain rfl : k = n := by omega
        go_wp2
        go_ret
        exact ⟨ret_int (by rw [HS.out, List.drop_of_length_le (by rw [Lx.out]; exact Nat.le_refl _)]; rfl), ⟨_, rfl⟩⟩

def eqRR (xss yss : List (List Int)) : Bool := decide (xss = yss)
theorem eqRR_len {xs ys : List (List Int)} (h : xs.length ≠ ys.length) : eqRR xs ys = false := by
  unfold eqRR; exact decide_eq_false fun e => h (by rw [e])
theorem eqRR_no {xs ys : List (List Int)} {k : Nat} (h : eqI (gr xs k) (gr ys k) = false) : eqRR xs ys = false := by
  unfold eqRR; exact decide_eq_false fun e => by rw [e] at h; simp [eqI] at h
theorem eqRR_yes {xs ys : List (List Int)} (hl : xs.length = ys.length) (h : ∀ k, k < xs.length → eqI (gr xs k) (gr ys k) = true) : eqRR xs ys = true := by
  unfold eqRR
  exact decide_eq_true (gr_ext hl fun k hk => by simpa [eqI] using h k hk)

set_option maxHeartbeats 400000 in
theorem eqIntSS_any (A B : Option Addr) (n c m d : Nat) (xs ys : List (List Int)) (w : World) (hx : IntRows w A n c xs) (hy : IntRows w B m d ys) :
    Calls Try.prog 35 #[.slice A n c, .slice B m d] w fun e w' => e = .returned (.bool (eqRR xs ys)) ∧ Quiet w w' := by
  obtain ⟨lx, cx, mx, hx⟩ := hx
  obtain ⟨ly, cy, my, hy⟩ := hy
  have Lx := Lib.hid lx
  have Ly := Lib.hid ly
  clear lx ly
  by_cases hnm : n = m
  · subst hnm
    go_enter Try.func35, Try.ntmps35
    go_wp2
    go_loopw [5] (fun i wr => ∃ k : Nat, k ≤ n ∧ i = .int .i64 k ∧ Hid (∀ j, j < k → eqI (gr xs j) (gr ys j) = true) ∧ Quiet w wr) (fun i _ => n - (intOf i).toNat)
    case atStart => exact ⟨0, Nat.zero_le _, rfl, Lib.hid (fun _ h => absurd h (by omega)), Quiet.refl _⟩
    case round =>
      obtain ⟨k, hk, rfl, HALL, q, rfl⟩ := hrel
      by_cases hlt : k < n
      · obtain ⟨b, o, rfl, hcx⟩ := hx (by omega)
        obtain ⟨b2, o2, rfl, hcy⟩ := hy (by omega)
        obtain ⟨R, cc, c1, hR⟩ := hcx k hlt
        obtain ⟨R2, cc2, c2, hR2⟩ := hcy k hlt
        clear hx hy hcx hcy
        cases he : eqI (gr xs k) (gr ys k) with
        | true =>
          have HE := Lib.hid he
          have hq := fun W (hW : Quiet w W) => (he ▸ eqIntS_any _ _ _ _ _ _ _ _ W (hR.keep (Keep.quiet hW)) (hR2.keep (Keep.quiet hW)))
          clear he
          go_wp2
          go_quiet ((go_at_call 28; exact quiet_fit (hq _ (by first | exact ⟨_, rfl⟩ | exact Quiet.two _ _ _)) (fun m => by first | exact drewN_to1 _ _ _ | exact drewN_to2 _ _ _ _)))
          go_wp2
          go_roundw
          case rel => exact ⟨k + 1, by omega, by go_num, Lib.hid (fun j hj => by
            by_cases hjk : j < k
            · exact HALL.out j hjk
            · obtain rfl : j = k := by omega
              exact HE.out), ⟨_, rfl⟩⟩
          case measure => simp [intOf]; omega
        | false =>
          have HE := Lib.hid he
          have hq := fun W (hW : Quiet w W) => (he ▸ eqIntS_any _ _ _ _ _ _ _ _ W (hR.keep (Keep.quiet hW)) (hR2.keep (Keep.quiet hW)))
          clear he
          go_wp2
          go_quiet ((go_at_call 28; exact quiet_fit (hq _ (by first | exact ⟨_, rfl⟩ | exact Quiet.two _ _ _)) (fun m => by first | exact drewN_to1 _ _ _ | exact drewN_to2 _ _ _ _)))
          go_wp2
          go_ret
          exact ⟨ret_bool (eqRR_no HE.out).symm, Quiet.two _ _ _⟩
      · obtain rfl : k = n := by omega
        go_wp2
        go_ret
        exact ⟨ret_bool (eqRR_yes (by rw [Lx.out, Ly.out]) fun j hj => HALL.out j (by rw [Lx.out] at hj; exact hj)).symm, ⟨_, rfl⟩⟩
  · go_enter Try.func35, Try.ntmps35
    go_wp2
    go_ret
    exact ⟨ret_bool (eqRR_len (by rw [Lx.out, Ly.out]; exact hnm)).symm, Quiet.refl _⟩
end Go.Proofs.Ytfilbknikbfjhaa
