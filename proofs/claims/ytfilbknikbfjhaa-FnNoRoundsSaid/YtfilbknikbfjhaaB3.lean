/- Valid games, by both programs. -/
import Derived.Test.YtfilbknikbfjhaaA3
import Derived.Test.YtfilbknikbfjhaaB2
namespace Go.Proofs.Ytfilbknikbfjhaa
open Go.RowKit

set_option maxHeartbeats 400000 in
theorem validGame_any_a (A B : Option Addr) (n c m d : Nat) (xs ys : List (List Int)) (w : World) (hx : IntRows w A n c xs) (hy : IntRows w B m d ys) (h1 : ¬ VT xs) :
    Calls Try.prog 66 #[.agg #[.slice A n c, .slice B m d]] w (Ret (.bool (pb (VG xs ys))) w) := by
  have hb0 := below_alloc w (.cells #[.slice A n c, .slice B m d] 25)
  have b0 := blk_new w 25 #[.slice A n c, .slice B m d]
  have ca := blk_cell b0 (i := 0) (v := .slice A n c) rfl
  have cb := blk_cell b0 (i := 1) (v := .slice B m d) rfl
  have hx1 := hx.keep (Keep.below hb0)
  have hy1 := hy.keep (Keep.below hb0)
  have HB := Lib.hid hb0
  have HX := Lib.hid hx1
  have HY := Lib.hid hy1
  have lx := hx.cap
  have mx := hx.max
  have ly := hy.cap
  have my := hy.max
  clear hb0 b0 hx hy hx1 hy1
  have HV := Lib.hid (pb_false (p := VG xs ys) fun v => h1 v.ta)
  have p1 := pb_false h1
  clear h1
  go_enter Try.func66, Try.ntmps66
  go_wp2
  generalize w.alloc (.cells #[.slice A n c, .slice B m d] 25) = W1 at *
  have QX := Lib.hid (fun W (hW : Quiet W1 W) => (p1 ▸ validTable_any _ _ _ _ W (HX.out.keep (Keep.quiet hW))))
  go_quiet ((go_at_call 104; (with_reducible refine quiet_fit (QX.out _ ?_) (fun m => ?_)); exact ⟨_, rfl⟩; exact drewN_to1 _ _ _))
  go_wp2
  go_ret
  exact ⟨ret_bool HV.out.symm, below_drewN HB.out _⟩

set_option maxHeartbeats 400000 in
theorem validGame_any_b (A B : Option Addr) (n c m d : Nat) (xs ys : List (List Int)) (w : World) (hx : IntRows w A n c xs) (hy : IntRows w B m d ys) (h1 : VT xs) (h2 : ¬ VT ys) :
    Calls Try.prog 66 #[.agg #[.slice A n c, .slice B m d]] w (Ret (.bool (pb (VG xs ys))) w) := by
  have hb0 := below_alloc w (.cells #[.slice A n c, .slice B m d] 25)
  have b0 := blk_new w 25 #[.slice A n c, .slice B m d]
  have ca := blk_cell b0 (i := 0) (v := .slice A n c) rfl
  have cb := blk_cell b0 (i := 1) (v := .slice B m d) rfl
  have hx1 := hx.keep (Keep.below hb0)
  have hy1 := hy.keep (Keep.below hb0)
  have HB := Lib.hid hb0
  have HX := Lib.hid hx1
  have HY := Lib.hid hy1
  have lx := hx.cap
  have mx := hx.max
  have ly := hy.cap
  have my := hy.max
  clear hb0 b0 hx hy hx1 hy1
  have HV := Lib.hid (pb_false (p := VG xs ys) fun v => h2 v.tb)
  have p1 := pb_true h1
  have p2 := pb_false h2
  clear h1 h2
  go_enter Try.func66, Try.ntmps66
  go_wp2
  generalize w.alloc (.cells #[.slice A n c, .slice B m d] 25) = W1 at *
  have QX := Lib.hid (fun W (hW : Quiet W1 W) => (p1 ▸ validTable_any _ _ _ _ W (HX.out.keep (Keep.quiet hW))))
  have QY := Lib.hid (fun W (hW : Quiet W1 W) => (p2 ▸ validTable_any _ _ _ _ W (HY.out.keep (Keep.quiet hW))))
  go_quiet ((go_at_call 104; (first | (with_reducible refine quiet_fit (QX.out _ ?_) (fun m => ?_)) | (with_reducible refine quiet_fit (QY.out _ ?_) (fun m => ?_))); exact ⟨_, rfl⟩; exact drewN_to1 _ _ _))
  go_wp2
  go_ret
  exact ⟨ret_bool HV.out.symm, below_drewN HB.out _⟩

set_option maxHeartbeats 400000 in
theorem validGame_any_c (A B : Option Addr) (n c m d : Nat) (xs ys : List (List Int)) (w : World) (hx : IntRows w A n c xs) (hy : IntRows w B m d ys) (h1 : VT xs) (h2 : VT ys) (h3 : n ≠ m) :
    Calls Try.prog 66 #[.agg #[.slice A n c, .slice B m d]] w (Ret (.bool (pb (VG xs ys))) w) := by
  have hb0 := below_alloc w (.cells #[.slice A n c, .slice B m d] 25)
  have b0 := blk_new w 25 #[.slice A n c, .slice B m d]
  have ca := blk_cell b0 (i := 0) (v := .slice A n c) rfl
  have cb := blk_cell b0 (i := 1) (v := .slice B m d) rfl
  have hx1 := hx.keep (Keep.below hb0)
  have hy1 := hy.keep (Keep.below hb0)
  have HB := Lib.hid hb0
  have HX := Lib.hid hx1
  have HY := Lib.hid hy1
  have lx := hx.cap
  have mx := hx.max
  have ly := hy.cap
  have my := hy.max
  clear hb0 b0 hx hy hx1 hy1
  have HV := Lib.hid (pb_false (p := VG xs ys) fun v => h3 (by have := v.n; rw [HX.out.len, HY.out.len] at this; exact this))
  have h3' : ((n : Int) == (m : Int)) = false := by simp; omega
  have p1 := pb_true h1
  have p2 := pb_true h2
  clear h1 h2 h3
  go_enter Try.func66, Try.ntmps66
  go_wp2
  generalize w.alloc (.cells #[.slice A n c, .slice B m d] 25) = W1 at *
  have QX := Lib.hid (fun W (hW : Quiet W1 W) => (p1 ▸ validTable_any _ _ _ _ W (HX.out.keep (Keep.quiet hW))))
  have QY := Lib.hid (fun W (hW : Quiet W1 W) => (p2 ▸ validTable_any _ _ _ _ W (HY.out.keep (Keep.quiet hW))))
  go_quiet ((go_at_call 104; (first | (with_reducible refine quiet_fit (QX.out _ ?_) (fun m => ?_)) | (with_reducible refine quiet_fit (QY.out _ ?_) (fun m => ?_))); exact ⟨_, rfl⟩; exact drewN_to1 _ _ _))
  go_wp2
  go_ret
  exact ⟨ret_bool HV.out.symm, below_drewN HB.out _⟩

set_option maxHeartbeats 400000 in
theorem validGame_any_d (A B : Option Addr) (n c m d : Nat) (xs ys : List (List Int)) (w : World) (hx : IntRows w A n c xs) (hy : IntRows w B m d ys) (h1 : VT xs) (h2 : VT ys) (h3 : n = m) (h4 : (gr xs 0).length ≠ (gr ys 0).length) :
    Calls Try.prog 66 #[.agg #[.slice A n c, .slice B m d]] w (Ret (.bool (pb (VG xs ys))) w) := by
  have hb0 := below_alloc w (.cells #[.slice A n c, .slice B m d] 25)
  have b0 := blk_new w 25 #[.slice A n c, .slice B m d]
  have ca := blk_cell b0 (i := 0) (v := .slice A n c) rfl
  have cb := blk_cell b0 (i := 1) (v := .slice B m d) rfl
  have hx1 := hx.keep (Keep.below hb0)
  have hy1 := hy.keep (Keep.below hb0)
  have HB := Lib.hid hb0
  have HX := Lib.hid hx1
  have HY := Lib.hid hy1
  have lx := hx.cap
  have mx := hx.max
  have ly := hy.cap
  have my := hy.max
  clear hb0 b0 hx hy hx1 hy1
  have HV := Lib.hid (pb_false (p := VG xs ys) fun v => h4 v.m)
  have h4' : (((gr xs 0).length : Int) == ((gr ys 0).length : Int)) = false := by simp; omega
  have hn0 : 0 < n := by have := h1.n1; rw [HX.out.len] at this; omega
  have p1 := pb_true h1
  have p2 := pb_true h2
  obtain rfl : m = n := h3.symm
  clear h1 h2 h4
  go_enter Try.func66, Try.ntmps66
  go_wp2
  generalize w.alloc (.cells #[.slice A m c, .slice B m d] 25) = W1 at *
  obtain ⟨b, o, rfl, hc⟩ := HX.out.at_ hn0
  obtain ⟨R0, cc0, c0, hR0⟩ := hc 0 hn0
  obtain ⟨b2, o2, rfl, hc2⟩ := HY.out.at_ hn0
  obtain ⟨R2, cc2, c2, hR2⟩ := hc2 0 hn0
  simp only [Nat.add_zero] at c0 c2
  have hL0 : (gr xs 0).length ≤ 17592186044416 := hR0.max
  have hL2 : (gr ys 0).length ≤ 17592186044416 := hR2.max
  clear hc hc2 hR0 hR2
  have QX := Lib.hid (fun W (hW : Quiet W1 W) => (p1 ▸ validTable_any _ _ _ _ W (HX.out.keep (Keep.quiet hW))))
  have QY := Lib.hid (fun W (hW : Quiet W1 W) => (p2 ▸ validTable_any _ _ _ _ W (HY.out.keep (Keep.quiet hW))))
  go_quiet ((go_at_call 104; (first | (with_reducible refine quiet_fit (QX.out _ ?_) (fun m => ?_)) | (with_reducible refine quiet_fit (QY.out _ ?_) (fun m => ?_))); exact ⟨_, rfl⟩; exact drewN_to1 _ _ _))
  go_wp2
  go_ret
  exact ⟨ret_bool HV.out.symm, below_drewN HB.out _⟩

set_option maxHeartbeats 400000 in
theorem validGame_any_e (A B : Option Addr) (n c m d : Nat) (xs ys : List (List Int)) (w : World) (hx : IntRows w A n c xs) (hy : IntRows w B m d ys) (h1 : VT xs) (h2 : VT ys) (h3 : n = m) (h4 : (gr xs 0).length = (gr ys 0).length) :
    Calls Try.prog 66 #[.agg #[.slice A n c, .slice B m d]] w (Ret (.bool (pb (VG xs ys))) w) := by
  have hb0 := below_alloc w (.cells #[.slice A n c, .slice B m d] 25)
  have b0 := blk_new w 25 #[.slice A n c, .slice B m d]
  have ca := blk_cell b0 (i := 0) (v := .slice A n c) rfl
  have cb := blk_cell b0 (i := 1) (v := .slice B m d) rfl
  have hx1 := hx.keep (Keep.below hb0)
  have hy1 := hy.keep (Keep.below hb0)
  have HB := Lib.hid hb0
  have HX := Lib.hid hx1
  have HY := Lib.hid hy1
  have lx := hx.cap
  have mx := hx.max
  have ly := hy.cap
  have my := hy.max
  clear hb0 b0 hx hy hx1 hy1
  have HV := Lib.hid (pb_true (p := VG xs ys) ⟨h1, h2, by rw [HX.out.len, HY.out.len, h3], h4⟩)
  have h4' : (((gr xs 0).length : Int) == ((gr ys 0).length : Int)) = true := by simp [h4]
  have hn0 : 0 < n := by have := h1.n1; rw [HX.out.len] at this; omega
  have p1 := pb_true h1
  have p2 := pb_true h2
  obtain rfl : m = n := h3.symm
  clear h1 h2 h4
  go_enter Try.func66, Try.ntmps66
  go_wp2
  generalize w.alloc (.cells #[.slice A m c, .slice B m d] 25) = W1 at *
  obtain ⟨b, o, rfl, hc⟩ := HX.out.at_ hn0
  obtain ⟨R0, cc0, c0, hR0⟩ := hc 0 hn0
  obtain ⟨b2, o2, rfl, hc2⟩ := HY.out.at_ hn0
  obtain ⟨R2, cc2, c2, hR2⟩ := hc2 0 hn0
  simp only [Nat.add_zero] at c0 c2
  have hL0 : (gr xs 0).length ≤ 17592186044416 := hR0.max
  have hL2 : (gr ys 0).length ≤ 17592186044416 := hR2.max
  clear hc hc2 hR0 hR2
  have QX := Lib.hid (fun W (hW : Quiet W1 W) => (p1 ▸ validTable_any _ _ _ _ W (HX.out.keep (Keep.quiet hW))))
  have QY := Lib.hid (fun W (hW : Quiet W1 W) => (p2 ▸ validTable_any _ _ _ _ W (HY.out.keep (Keep.quiet hW))))
  go_quiet ((go_at_call 104; (first | (with_reducible refine quiet_fit (QX.out _ ?_) (fun m => ?_)) | (with_reducible refine quiet_fit (QY.out _ ?_) (fun m => ?_))); exact ⟨_, rfl⟩; exact drewN_to1 _ _ _))
  go_wp2
  go_ret
  exact ⟨ret_bool HV.out.symm, below_drewN HB.out _⟩

theorem validGame_any (A B : Option Addr) (n c m d : Nat) (xs ys : List (List Int)) (w : World) (hx : IntRows w A n c xs) (hy : IntRows w B m d ys) :
    Calls Try.prog 66 #[.agg #[.slice A n c, .slice B m d]] w (Ret (.bool (pb (VG xs ys))) w) := by
  by_cases h1 : VT xs
  · by_cases h2 : VT ys
    · by_cases h3 : n = m
      · by_cases h4 : (gr xs 0).length = (gr ys 0).length
        · exact validGame_any_e _ _ _ _ _ _ _ _ _ hx hy h1 h2 h3 h4
        · exact validGame_any_d _ _ _ _ _ _ _ _ _ hx hy h1 h2 h3 h4
      · exact validGame_any_c _ _ _ _ _ _ _ _ _ hx hy h1 h2 h3
    · exact validGame_any_b _ _ _ _ _ _ _ _ _ hx hy h1 h2
  · exact validGame_any_a _ _ _ _ _ _ _ _ _ hx hy h1

set_option maxHeartbeats 400000 in
theorem ValidGame_impl_a (A B : Option Addr) (n c m d : Nat) (xs ys : List (List Int)) (w : World) (hx : IntRows w A n c xs) (hy : IntRows w B m d ys) (h1 : ¬ VT xs) :
    Calls Try.prog 25 #[.agg #[.slice A n c, .slice B m d]] w (Ret (.bool (pb (VG xs ys))) w) := by
  have hb0 := below_alloc w (.cells #[.slice A n c, .slice B m d] 25)
  have b0 := blk_new w 25 #[.slice A n c, .slice B m d]
  have ca := blk_cell b0 (i := 0) (v := .slice A n c) rfl
  have cb := blk_cell b0 (i := 1) (v := .slice B m d) rfl
  have hx1 := hx.keep (Keep.below hb0)
  have hy1 := hy.keep (Keep.below hb0)
  have HB := Lib.hid hb0
  have HX := Lib.hid hx1
  have HY := Lib.hid hy1
  have lx := hx.cap
  have mx := hx.max
  have ly := hy.cap
  have my := hy.max
  clear hb0 b0 hx hy hx1 hy1
  have HV := Lib.hid (pb_false (p := VG xs ys) fun v => h1 v.ta)
  have p1 := pb_false h1
  clear h1
  go_enter Try.func25, Try.ntmps25
  go_wp2
  generalize w.alloc (.cells #[.slice A n c, .slice B m d] 25) = W1 at *
  have QX := Lib.hid (fun W (hW : Quiet W1 W) => (p1 ▸ ValidTable_impl _ _ _ _ W (HX.out.keep (Keep.quiet hW))))
  go_quiet ((go_at_call 72; (with_reducible refine quiet_fit (QX.out _ ?_) (fun m => ?_)); exact ⟨_, rfl⟩; exact drewN_to1 _ _ _))
  go_wp2
  go_ret
  exact ⟨ret_bool HV.out.symm, below_drewN HB.out _⟩

set_option maxHeartbeats 400000 in
theorem ValidGame_impl_b (A B : Option Addr) (n c m d : Nat) (xs ys : List (List Int)) (w : World) (hx : IntRows w A n c xs) (hy : IntRows w B m d ys) (h1 : VT xs) (h2 : ¬ VT ys) :
    Calls Try.prog 25 #[.agg #[.slice A n c, .slice B m d]] w (Ret (.bool (pb (VG xs ys))) w) := by
  have hb0 := below_alloc w (.cells #[.slice A n c, .slice B m d] 25)
  have b0 := blk_new w 25 #[.slice A n c, .slice B m d]
  have ca := blk_cell b0 (i := 0) (v := .slice A n c) rfl
  have cb := blk_cell b0 (i := 1) (v := .slice B m d) rfl
  have hx1 := hx.keep (Keep.below hb0)
  have hy1 := hy.keep (Keep.below hb0)
  have HB := Lib.hid hb0
  have HX := Lib.hid hx1
  have HY := Lib.hid hy1
  have lx := hx.cap
  have mx := hx.max
  have ly := hy.cap
  have my := hy.max
  clear hb0 b0 hx hy hx1 hy1
  have HV := Lib.hid (pb_false (p := VG xs ys) fun v => h2 v.tb)
  have p1 := pb_true h1
  have p2 := pb_false h2
  clear h1 h2
  go_enter Try.func25, Try.ntmps25
  go_wp2
  generalize w.alloc (.cells #[.slice A n c, .slice B m d] 25) = W1 at *
  have QX := Lib.hid (fun W (hW : Quiet W1 W) => (p1 ▸ ValidTable_impl _ _ _ _ W (HX.out.keep (Keep.quiet hW))))
  have QY := Lib.hid (fun W (hW : Quiet W1 W) => (p2 ▸ ValidTable_impl _ _ _ _ W (HY.out.keep (Keep.quiet hW))))
  go_quiet ((go_at_call 72; (first | (with_reducible refine quiet_fit (QX.out _ ?_) (fun m => ?_)) | (with_reducible refine quiet_fit (QY.out _ ?_) (fun m => ?_))); exact ⟨_, rfl⟩; exact drewN_to1 _ _ _))
  go_wp2
  go_ret
  exact ⟨ret_bool HV.out.symm, below_drewN HB.out _⟩

set_option maxHeartbeats 400000 in
theorem ValidGame_impl_c (A B : Option Addr) (n c m d : Nat) (xs ys : List (List Int)) (w : World) (hx : IntRows w A n c xs) (hy : IntRows w B m d ys) (h1 : VT xs) (h2 : VT ys) (h3 : n ≠ m) :
    Calls Try.prog 25 #[.agg #[.slice A n c, .slice B m d]] w (Ret (.bool (pb (VG xs ys))) w) := by
  have hb0 := below_alloc w (.cells #[.slice A n c, .slice B m d] 25)
  have b0 := blk_new w 25 #[.slice A n c, .slice B m d]
  have ca := blk_cell b0 (i := 0) (v := .slice A n c) rfl
  have cb := blk_cell b0 (i := 1) (v := .slice B m d) rfl
  have hx1 := hx.keep (Keep.below hb0)
  have hy1 := hy.keep (Keep.below hb0)
  have HB := Lib.hid hb0
  have HX := Lib.hid hx1
  have HY := Lib.hid hy1
  have lx := hx.cap
  have mx := hx.max
  have ly := hy.cap
  have my := hy.max
  clear hb0 b0 hx hy hx1 hy1
  have HV := Lib.hid (pb_false (p := VG xs ys) fun v => h3 (by have := v.n; rw [HX.out.len, HY.out.len] at this; exact this))
  have h3' : ((n : Int) == (m : Int)) = false := by simp; omega
  have p1 := pb_true h1
  have p2 := pb_true h2
  clear h1 h2 h3
  go_enter Try.func25, Try.ntmps25
  go_wp2
  generalize w.alloc (.cells #[.slice A n c, .slice B m d] 25) = W1 at *
  have QX := Lib.hid (fun W (hW : Quiet W1 W) => (p1 ▸ ValidTable_impl _ _ _ _ W (HX.out.keep (Keep.quiet hW))))
  have QY := Lib.hid (fun W (hW : Quiet W1 W) => (p2 ▸ ValidTable_impl _ _ _ _ W (HY.out.keep (Keep.quiet hW))))
  go_quiet ((go_at_call 72; (first | (with_reducible refine quiet_fit (QX.out _ ?_) (fun m => ?_)) | (with_reducible refine quiet_fit (QY.out _ ?_) (fun m => ?_))); exact ⟨_, rfl⟩; exact drewN_to1 _ _ _))
  go_wp2
  go_ret
  exact ⟨ret_bool HV.out.symm, below_drewN HB.out _⟩

set_option maxHeartbeats 400000 in
theorem ValidGame_impl_d (A B : Option Addr) (n c m d : Nat) (xs ys : List (List Int)) (w : World) (hx : IntRows w A n c xs) (hy : IntRows w B m d ys) (h1 : VT xs) (h2 : VT ys) (h3 : n = m) (h4 : (gr xs 0).length ≠ (gr ys 0).length) :
    Calls Try.prog 25 #[.agg #[.slice A n c, .slice B m d]] w (Ret (.bool (pb (VG xs ys))) w) := by
  have hb0 := below_alloc w (.cells #[.slice A n c, .slice B m d] 25)
  have b0 := blk_new w 25 #[.slice A n c, .slice B m d]
  have ca := blk_cell b0 (i := 0) (v := .slice A n c) rfl
  have cb := blk_cell b0 (i := 1) (v := .slice B m d) rfl
  have hx1 := hx.keep (Keep.below hb0)
  have hy1 := hy.keep (Keep.below hb0)
  have HB := Lib.hid hb0
  have HX := Lib.hid hx1
  have HY := Lib.hid hy1
  have lx := hx.cap
  have mx := hx.max
  have ly := hy.cap
  have my := hy.max
  clear hb0 b0 hx hy hx1 hy1
  have HV := Lib.hid (pb_false (p := VG xs ys) fun v => h4 v.m)
  have h4' : (((gr xs 0).length : Int) == ((gr ys 0).length : Int)) = false := by simp; omega
  have hn0 : 0 < n := by have := h1.n1; rw [HX.out.len] at this; omega
  have p1 := pb_true h1
  have p2 := pb_true h2
  obtain rfl : m = n := h3.symm
  clear h1 h2 h4
  go_enter Try.func25, Try.ntmps25
  go_wp2
  generalize w.alloc (.cells #[.slice A m c, .slice B m d] 25) = W1 at *
  obtain ⟨b, o, rfl, hc⟩ := HX.out.at_ hn0
  obtain ⟨R0, cc0, c0, hR0⟩ := hc 0 hn0
  obtain ⟨b2, o2, rfl, hc2⟩ := HY.out.at_ hn0
  obtain ⟨R2, cc2, c2, hR2⟩ := hc2 0 hn0
  simp only [Nat.add_zero] at c0 c2
  have hL0 : (gr xs 0).length ≤ 17592186044416 := hR0.max
  have hL2 : (gr ys 0).length ≤ 17592186044416 := hR2.max
  clear hc hc2 hR0 hR2
  have QX := Lib.hid (fun W (hW : Quiet W1 W) => (p1 ▸ ValidTable_impl _ _ _ _ W (HX.out.keep (Keep.quiet hW))))
  have QY := Lib.hid (fun W (hW : Quiet W1 W) => (p2 ▸ ValidTable_impl _ _ _ _ W (HY.out.keep (Keep.quiet hW))))
  go_quiet ((go_at_call 72; (first | (with_reducible refine quiet_fit (QX.out _ ?_) (fun m => ?_)) | (with_reducible refine quiet_fit (QY.out _ ?_) (fun m => ?_))); exact ⟨_, rfl⟩; exact drewN_to1 _ _ _))
  go_wp2
  go_ret
  exact ⟨ret_bool HV.out.symm, below_drewN HB.out _⟩

set_option maxHeartbeats 400000 in
theorem ValidGame_impl_e (A B : Option Addr) (n c m d : Nat) (xs ys : List (List Int)) (w : World) (hx : IntRows w A n c xs) (hy : IntRows w B m d ys) (h1 : VT xs) (h2 : VT ys) (h3 : n = m) (h4 : (gr xs 0).length = (gr ys 0).length) :
    Calls Try.prog 25 #[.agg #[.slice A n c, .slice B m d]] w (Ret (.bool (pb (VG xs ys))) w) := by
  have hb0 := below_alloc w (.cells #[.slice A n c, .slice B m d] 25)
  have b0 := blk_new w 25 #[.slice A n c, .slice B m d]
  have ca := blk_cell b0 (i := 0) (v := .slice A n c) rfl
  have cb := blk_cell b0 (i := 1) (v := .slice B m d) rfl
  have hx1 := hx.keep (Keep.below hb0)
  have hy1 := hy.keep (Keep.below hb0)
  have HB := Lib.hid hb0
  have HX := Lib.hid hx1
  have HY := Lib.hid hy1
  have lx := hx.cap
  have mx := hx.max
  have ly := hy.cap
  have my := hy.max
  clear hb0 b0 hx hy hx1 hy1
  have HV := Lib.hid (pb_true (p := VG xs ys) ⟨h1, h2, by rw [HX.out.len, HY.out.len, h3], h4⟩)
  have h4' : (((gr xs 0).length : Int) == ((gr ys 0).length : Int)) = true := by simp [h4]
  have hn0 : 0 < n := by have := h1.n1; rw [HX.out.len] at this; omega
  have p1 := pb_true h1
  have p2 := pb_true h2
  obtain rfl : m = n := h3.symm
  clear h1 h2 h4
  go_enter Try.func25, Try.ntmps25
  go_wp2
  generalize w.alloc (.cells #[.slice A m c, .slice B m d] 25) = W1 at *
  obtain ⟨b, o, rfl, hc⟩ := HX.out.at_ hn0
  obtain ⟨R0, cc0, c0, hR0⟩ := hc 0 hn0
  obtain ⟨b2, o2, rfl, hc2⟩ := HY.out.at_ hn0
  obtain ⟨R2, cc2, c2, hR2⟩ := hc2 0 hn0
  simp only [Nat.add_zero] at c0 c2
  have hL0 : (gr xs 0).length ≤ 17592186044416 := hR0.max
  have hL2 : (gr ys 0).length ≤ 17592186044416 := hR2.max
  clear hc hc2 hR0 hR2
  have QX := Lib.hid (fun W (hW : Quiet W1 W) => (p1 ▸ ValidTable_impl _ _ _ _ W (HX.out.keep (Keep.quiet hW))))
  have QY := Lib.hid (fun W (hW : Quiet W1 W) => (p2 ▸ ValidTable_impl _ _ _ _ W (HY.out.keep (Keep.quiet hW))))
  go_quiet ((go_at_call 72; (first | (with_reducible refine quiet_fit (QX.out _ ?_) (fun m => ?_)) | (with_reducible refine quiet_fit (QY.out _ ?_) (fun m => ?_))); exact ⟨_, rfl⟩; exact drewN_to1 _ _ _))
  go_wp2
  go_ret
  exact ⟨ret_bool HV.out.symm, below_drewN HB.out _⟩

theorem ValidGame_impl (A B : Option Addr) (n c m d : Nat) (xs ys : List (List Int)) (w : World) (hx : IntRows w A n c xs) (hy : IntRows w B m d ys) :
    Calls Try.prog 25 #[.agg #[.slice A n c, .slice B m d]] w (Ret (.bool (pb (VG xs ys))) w) := by
  by_cases h1 : VT xs
  · by_cases h2 : VT ys
    · by_cases h3 : n = m
      · by_cases h4 : (gr xs 0).length = (gr ys 0).length
        · exact ValidGame_impl_e _ _ _ _ _ _ _ _ _ hx hy h1 h2 h3 h4
        · exact ValidGame_impl_d _ _ _ _ _ _ _ _ _ hx hy h1 h2 h3 h4
      · exact ValidGame_impl_c _ _ _ _ _ _ _ _ _ hx hy h1 h2 h3
    · exact ValidGame_impl_b _ _ _ _ _ _ _ _ _ hx hy h1 h2
  · exact ValidGame_impl_a _ _ _ _ _ _ _ _ _ hx hy h1

end Go.Proofs.Ytfilbknikbfjhaa
