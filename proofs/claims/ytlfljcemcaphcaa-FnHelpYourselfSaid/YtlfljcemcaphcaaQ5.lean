/- Texts merged: KN7 KN8. -/
import Derived.Test.YtlfljcemcaphcaaQ4
import Derived.Lib.SliceRun
/- Kin and inbred, by the program. -/
namespace Go.Proofs.Ytlfljcemcaphcaa
open Go.RowKit

/-- What kin says of people whose numbers together are less than N. -/
def KinC (N g n : Nat) (f : List (List Int)) : Prop := ∀ i j : Nat, i < n → j < n → i + j < N → ∀ w : World, PE w g n f →
  Calls Try.prog 44 #[.slice (some ⟨g, 0, none⟩) n n, peV f i, peV f j] w (Ret (fK (kK f i j)) w)
/-- The boxes of a person that is asked about and of the result. -/
structure IX (w : World) (W : World) : Prop where
  b1 : Blk W (w.heap.size + 1) 28 #[.int .i64 0, .int .i64 0]
  up : Below w.heap.size w W
theorem IX.next {w W W'} (h : IX w W) (k : Below W.heap.size W W') : IX w W' := ⟨blk_below h.b1 k, below_up h.up k⟩
set_option maxRecDepth 100000 in
set_option maxHeartbeats 2000000 in
theorem inbredI_of (N g n : Nat) (f : List (List Int)) (v : VPe f) (hn : f.length = n) (IH : KinC N g n f) (i : Nat) (hi : i < n) (hN : 2 * i ≤ N) (w : World) (HE : PE w g n f) :
    Calls Try.prog 46 #[.slice (some ⟨g, 0, none⟩) n n, peV f i] w (Ret (fK (bK f i)) w) := by
  have hpar := v.par (i := i) (by omega)
  have b1 := blk_new (w.alloc (.cells #[.int .i64 i, .int .i64 (g2 f i 0), .int .i64 (g2 f i 1)] 60)) 28 #[.int .i64 0, .int .i64 0]
  rw [World.size_alloc] at b1
  have HI := Lib.hid (show IX w ((w.alloc (.cells #[.int .i64 i, .int .i64 (g2 f i 0), .int .i64 (g2 f i 1)] 60)).alloc (.cells #[.int .i64 0, .int .i64 0] 28)) from ⟨b1, below_up (below_alloc _ _) (below_alloc _ _)⟩)
  have bp := blk_old (blk_new w 60 #[.int .i64 i, .int .i64 (g2 f i 0), .int .i64 (g2 f i 1)]) (.cells #[.int .i64 0, .int .i64 0] 28)
  have p0 := blk_cell bp (i := 0) rfl
  have p1 := blk_cell bp (i := 1) rfl
  have p2 := blk_cell bp (i := 2) rfl
  have HPE := Lib.hid (HE.keep (Keep.below HI.out.up))
  have HPV : Hid (peV f i = .agg #[.int .i64 i, .int .i64 (g2 f i 0), .int .i64 (g2 f i 1)]) := Lib.hid rfl
  obtain ⟨U, D, hform⟩ := fK_form (bK f i)
  have HFORM := Lib.hid hform
  clear b1 bp hform
  rcases hpar with ⟨hp, hq⟩ | ⟨hp, hq, _⟩
  · have HK := Lib.hid (show bK f i = 0 by unfold bK; rw [if_pos (by omega)])
    have HPA := Lib.hid (fun W => HPV.out ▸ parentsNone_any (.slice (some ⟨g, 0, none⟩) n n) f i hp W)
    have HC := Lib.hid (fun W => fracK_impl 0 1 (bK f i) W (by omega) (by omega) (by rw [HK.out]; rfl))
    rw [HFORM.out] at HC ⊢
    rw [HPV.out]
    clear HPV HK hp hq v IH HE
    generalize g2 f i 0 = x at *
    generalize g2 f i 1 = y at *
    have qT : ∀ (w : World) (a : Option Addr) (n c n' c' : Nat), (binOp .eql 55 (.slice a n c) (.slice none n' c')).run Try.prog w = .ok (.bool a.isNone) w := fun w a n c n' c' => Lib.run_eql_slice_nil w _ _ a n c n' c' Try.underlying55
    go_enter Try.func46, Try.ntmps46
    go_wp2_with fail
    refine (HPA.out _).mono ?_
    rintro e w2 ⟨rfl, hb⟩
    have HI := Lib.hid (HI.out.next hb)
    clear hb HPA p0 p1 p2
    go_wp2_with fail
    refine (HC.out _).mono ?_
    rintro e w3 ⟨rfl, hb⟩
    have HI := Lib.hid (HI.out.next hb)
    clear hb HC
    have d0 := blk_cell HI.out.b1 (i := 0) rfl
    have d1 := blk_cell HI.out.b1 (i := 1) rfl
    have f0 := blk_frozen HI.out.b1 0
    have f1 := blk_frozen HI.out.b1 1
    go_wp2
    clear d0 d1 f0 f1
    have B1 := blk_set (blk_set HI.out.b1 0 (.int .i64 U)) 1 (.int .i64 D)
    have r0 := blk_cell B1 (i := 0) (v := .int .i64 U) rfl
    have r1 := blk_cell B1 (i := 1) (v := .int .i64 D) rfl
    have HBX := Lib.hid ((HI.out.up.setCell (p := ⟨w.heap.size + 1, 0, none⟩) (Nat.le_succ _) (.int .i64 U)).setCell (p := ⟨w.heap.size + 1, 1, none⟩) (Nat.le_succ _) (.int .i64 D))
    clear B1
    generalize ((w3.setCell ⟨w.heap.size + 1, 0, none⟩ (.int .i64 U)).setCell ⟨w.heap.size + 1, 1, none⟩ (.int .i64 D)) = WE at *
    refine bodyPost_ret (v := .agg #[.int .i64 U, .int .i64 D]) (by simp [results, Try.results46, go_sem, r0, r1]) rfl ?_
    exact ⟨rfl, HBX.out⟩
  · obtain ⟨p, ep⟩ : ∃ p : Nat, g2 f i 0 = p := ⟨_, (Int.toNat_of_nonneg hp.1).symm⟩
    obtain ⟨q, eq⟩ : ∃ q : Nat, g2 f i 1 = q := ⟨_, (Int.toNat_of_nonneg hq.1).symm⟩
    have HK := Lib.hid (show kK f p q = bK f i by unfold bK; rw [if_neg (by omega), ep, eq, Int.toNat_natCast, Int.toNat_natCast])
    have HPA := Lib.hid (fun W h => HPV.out ▸ parentsTwo_any g n f i p q ep eq (by omega) (by omega) W h)
    have HC := Lib.hid (fun W h => IH p q (by omega) (by omega) (by omega) W h)
    rw [HK.out] at HC
    rw [HFORM.out] at HC ⊢
    rw [HPV.out]
    have HPP : Hid (peV f p = .agg #[.int .i64 p, .int .i64 (g2 f p 0), .int .i64 (g2 f p 1)]) := Lib.hid rfl
    have HPQ : Hid (peV f q = .agg #[.int .i64 q, .int .i64 (g2 f q 0), .int .i64 (g2 f q 1)]) := Lib.hid rfl
    rw [HPP.out, HPQ.out] at HC
    clear HPV HK hp hq v IH HE ep eq HPP HPQ
    generalize g2 f i 0 = x at *
    generalize g2 f i 1 = y at *
    have qT : ∀ (w : World) (a : Option Addr) (n c n' c' : Nat), (binOp .eql 55 (.slice a n c) (.slice none n' c')).run Try.prog w = .ok (.bool a.isNone) w := fun w a n c n' c' => Lib.run_eql_slice_nil w _ _ a n c n' c' Try.underlying55
    go_enter Try.func46, Try.ntmps46
    go_wp2_with fail
    refine (HPA.out _ HPE.out).mono ?_
    rintro e w2 ⟨h, rfl, hp2, _, hb⟩
    have HI := Lib.hid (HI.out.next hb)
    have HPE := Lib.hid (HPE.out.keep (Keep.below hb))
    clear hb HPA p0 p1 p2
    obtain ⟨⟨a0, a1, a2⟩, a3, a4, a5⟩ := hp2
    go_wp2
    go_still_tail 7, (by kernel_rfl)
    have HI := Lib.hid (HI.out.next (Quiet.below (B := w2.heap.size) (w' := w2.drew) ⟨1, rfl⟩))
    have HPE := Lib.hid (show PE w2.drew g n f from HPE.out.keep (Keep.drewN _ 1))
    change wpList _ _ _ _ _ w2.drew
    generalize w2.drew = w3 at *
    go_wp2_with fail
    refine (HC.out _ HPE.out).mono ?_
    rintro e w4 ⟨rfl, hb⟩
    have HI := Lib.hid (HI.out.next hb)
    clear hb HC
    have d0 := blk_cell HI.out.b1 (i := 0) rfl
    have d1 := blk_cell HI.out.b1 (i := 1) rfl
    have f0 := blk_frozen HI.out.b1 0
    have f1 := blk_frozen HI.out.b1 1
    go_wp2
    clear d0 d1 f0 f1
    have B1 := blk_set (blk_set HI.out.b1 0 (.int .i64 U)) 1 (.int .i64 D)
    have r0 := blk_cell B1 (i := 0) (v := .int .i64 U) rfl
    have r1 := blk_cell B1 (i := 1) (v := .int .i64 D) rfl
    have HBX := Lib.hid ((HI.out.up.setCell (p := ⟨w.heap.size + 1, 0, none⟩) (Nat.le_succ _) (.int .i64 U)).setCell (p := ⟨w.heap.size + 1, 1, none⟩) (Nat.le_succ _) (.int .i64 D))
    clear B1
    generalize ((w4.setCell ⟨w.heap.size + 1, 0, none⟩ (.int .i64 U)).setCell ⟨w.heap.size + 1, 1, none⟩ (.int .i64 D)) = WE at *
    refine bodyPost_ret (v := .agg #[.int .i64 U, .int .i64 D]) (by simp [results, Try.results46, go_sem, r0, r1]) rfl ?_
    exact ⟨rfl, HBX.out⟩

/-- The boxes of kin: the result's, both people's. -/
structure KY (w : World) (a7 a8 : Nat) (f : List (List Int)) (i j : Nat) (W : World) : Prop where
  b6 : Blk W (w.heap.size + 1 + 1) 28 #[.int .i64 0, .int .i64 0]
  b7 : Blk W a7 60 #[.int .i64 i, .int .i64 (g2 f i 0), .int .i64 (g2 f i 1)]
  b8 : Blk W a8 60 #[.int .i64 j, .int .i64 (g2 f j 0), .int .i64 (g2 f j 1)]
  ne : a7 ≠ a8
  l7 : w.heap.size + 1 + 1 < a7
  l8 : w.heap.size + 1 + 1 < a8
  up : Below w.heap.size w W
/-- The boxes of kin: the result's, the earlier one's, and the sum's. -/
structure KX (w : World) (a7 a9 : Nat) (f : List (List Int)) (e : Nat) (U D : Int) (W : World) : Prop where
  b6 : Blk W (w.heap.size + 1 + 1) 28 #[.int .i64 0, .int .i64 0]
  b7 : Blk W a7 60 #[.int .i64 e, .int .i64 (g2 f e 0), .int .i64 (g2 f e 1)]
  b9 : Blk W a9 28 #[.int .i64 U, .int .i64 D]
  l9 : w.heap.size + 1 + 1 < a9
  ne : a7 ≠ a9
  up : Below w.heap.size w W
theorem KX.next {w a7 a9 f e U D W W'} (h : KX w a7 a9 f e U D W) (k : Below W.heap.size W W') : KX w a7 a9 f e U D W' := ⟨blk_below h.b6 k, blk_below h.b7 k, blk_below h.b9 k, h.l9, h.ne, below_up h.up k⟩
theorem KX.set {w a7 a9 f e U D W} (h : KX w a7 a9 f e U D W) (U' D' : Int) : KX w a7 a9 f e U' D' ((W.setCell ⟨a9, 0, none⟩ (.int .i64 U')).setCell ⟨a9, 1, none⟩ (.int .i64 D')) := by
  have hl := h.l9
  refine ⟨blk_other (blk_other h.b6 (p := ⟨a9, 0, none⟩) (by show w.heap.size + 1 + 1 ≠ a9; omega) _) (p := ⟨a9, 1, none⟩) (by show w.heap.size + 1 + 1 ≠ a9; omega) _, blk_other (blk_other h.b7 (p := ⟨a9, 0, none⟩) h.ne _) (p := ⟨a9, 1, none⟩) h.ne _, blk_set (blk_set h.b9 0 _) 1 _, hl, h.ne, (h.up.setCell (p := ⟨a9, 0, none⟩) (by show w.heap.size ≤ a9; omega) _).setCell (p := ⟨a9, 1, none⟩) (by show w.heap.size ≤ a9; omega) _⟩
theorem KY.next {w a7 a8 f i j W W'} (h : KY w a7 a8 f i j W) (k : Below W.heap.size W W') : KY w a7 a8 f i j W' := ⟨blk_below h.b6 k, blk_below h.b7 k, blk_below h.b8 k, h.ne, h.l7, h.l8, below_up h.up k⟩
theorem KY.swap {w a7 a8 f i j V} (h : KY w a7 a8 f i j V) : KY w a7 a8 f j i ((((((V.setCell ⟨a7, 0, none⟩ (.int .i64 j)).setCell ⟨a7, 1, none⟩ (.int .i64 (g2 f j 0))).setCell ⟨a7, 2, none⟩ (.int .i64 (g2 f j 1))).setCell ⟨a8, 0, none⟩ (.int .i64 i)).setCell ⟨a8, 1, none⟩ (.int .i64 (g2 f i 0))).setCell ⟨a8, 2, none⟩ (.int .i64 (g2 f i 1))) := by
  have h7 := h.l7
  have h8 := h.l8
  have n7 : ∀ k, w.heap.size + 1 + 1 ≠ (⟨a7, k, none⟩ : Addr).block := fun k => by show w.heap.size + 1 + 1 ≠ a7; omega
  have n8 : ∀ k, w.heap.size + 1 + 1 ≠ (⟨a8, k, none⟩ : Addr).block := fun k => by show w.heap.size + 1 + 1 ≠ a8; omega
  have l7 : ∀ k, w.heap.size ≤ (⟨a7, k, none⟩ : Addr).block := fun k => by show w.heap.size ≤ a7; omega
  have l8 : ∀ k, w.heap.size ≤ (⟨a8, k, none⟩ : Addr).block := fun k => by show w.heap.size ≤ a8; omega
  refine ⟨?_, ?_, ?_, h.ne, h7, h8, ?_⟩
  · exact blk_other (blk_other (blk_other (blk_other (blk_other (blk_other h.b6 (n7 0) _) (n7 1) _) (n7 2) _) (n8 0) _) (n8 1) _) (n8 2) _
  · exact blk_other (p := ⟨a8, 2, none⟩) (blk_other (p := ⟨a8, 1, none⟩) (blk_other (p := ⟨a8, 0, none⟩) (blk_set (blk_set (blk_set h.b7 0 _) 1 _) 2 _) h.ne _) h.ne _) h.ne _
  · exact blk_set (blk_set (blk_set (blk_other (p := ⟨a7, 2, none⟩) (blk_other (p := ⟨a7, 1, none⟩) (blk_other (p := ⟨a7, 0, none⟩) h.b8 h.ne.symm _) h.ne.symm _) h.ne.symm _) 0 _) 1 _) 2 _
  · exact (((((h.up.setCell (l7 0) _).setCell (l7 1) _).setCell (l7 2) _).setCell (l8 0) _).setCell (l8 1) _).setCell (l8 2) _
def tg (x y : Int) : Nat → Int
  | 0 => 0
  | 1 => x
  | _ => x + y
set_option maxRecDepth 100000 in
set_option maxHeartbeats 4000000 in
theorem kinI_any (g n : Nat) (f : List (List Int)) (v : VPe f) (hn : f.length = n) : ∀ N, KinC N g n f
  | 0 => fun i j hi hj h => absurd h (by omega)
  | N + 1 => by
    have IH := kinI_any g n f v hn N
    intro i j hi hj hN w HE
    have n6 := v.n6
    have HB3 := Lib.hid (below_up (below_up (below_alloc w (.cells #[.int .i64 i, .int .i64 (g2 f i 0), .int .i64 (g2 f i 1)] 60)) (below_alloc _ (.cells #[.int .i64 j, .int .i64 (g2 f j 0), .int .i64 (g2 f j 1)] 60))) (below_alloc _ (.cells #[.int .i64 0, .int .i64 0] 28)))
    have b4 := blk_old (blk_old (blk_new w 60 #[.int .i64 i, .int .i64 (g2 f i 0), .int .i64 (g2 f i 1)]) (.cells #[.int .i64 j, .int .i64 (g2 f j 0), .int .i64 (g2 f j 1)] 60)) (.cells #[.int .i64 0, .int .i64 0] 28)
    have b5 := blk_old (blk_new (w.alloc (.cells #[.int .i64 i, .int .i64 (g2 f i 0), .int .i64 (g2 f i 1)] 60)) 60 #[.int .i64 j, .int .i64 (g2 f j 0), .int .i64 (g2 f j 1)]) (.cells #[.int .i64 0, .int .i64 0] 28)
    have b6 := blk_new ((w.alloc (.cells #[.int .i64 i, .int .i64 (g2 f i 0), .int .i64 (g2 f i 1)] 60)).alloc (.cells #[.int .i64 j, .int .i64 (g2 f j 0), .int .i64 (g2 f j 1)] 60)) 28 #[.int .i64 0, .int .i64 0]
    rw [World.size_alloc] at b5
    simp only [World.size_alloc] at b6
    have HB6 := Lib.hid b6
    have HPE := Lib.hid (HE.keep (Keep.below HB3.out))
    have p0 := blk_cell b4 (i := 0) rfl
    have p1 := blk_cell b4 (i := 1) rfl
    have p2 := blk_cell b4 (i := 2) rfl
    have s0 := blk_cell b5 (i := 0) rfl
    have s1 := blk_cell b5 (i := 1) rfl
    have s2 := blk_cell b5 (i := 2) rfl
    have HPI : Hid (peV f i = .agg #[.int .i64 i, .int .i64 (g2 f i 0), .int .i64 (g2 f i 1)]) := Lib.hid rfl
    have HPJ : Hid (peV f j = .agg #[.int .i64 j, .int .i64 (g2 f j 0), .int .i64 (g2 f j 1)]) := Lib.hid rfl
    clear b4 b5 b6
    by_cases hij : i = j
    · subst hij
      have HIB := Lib.hid (fun W h => inbredI_of N g n f v hn IH i hi (by omega) W h)
      have hbd := bK_bd f i
      have hkb := kK_bK v (i := i) (by omega)
      have HV : Hid (frV (64 + bK f i) (64 * 2 ^ 1) = fK (kK f i i)) := Lib.hid (frV_K (by decide) (by omega))
      have HH := Lib.hid (fun W => HV.out ▸ halved_any (bK f i) 1 (by omega) (by omega) W)
      obtain ⟨U, D, hform⟩ := fK_form (kK f i i)
      rw [hform] at HH ⊢
      rw [HPI.out] at HIB ⊢
      clear hform HV hbd hkb v IH HE HPI HPJ
      generalize g2 f i 0 = x at *
      generalize g2 f i 1 = y at *
      go_enter Try.func44, Try.ntmps44
      go_wp2_with fail
      refine (HIB.out _ HPE.out).mono ?_
      rintro e w2 ⟨rfl, hb⟩
      have HB3 := Lib.hid (below_up HB3.out hb)
      have HB6 := Lib.hid (blk_below HB6.out hb)
      clear hb HIB p0 p1 p2 s0 s1 s2
      go_wp2_with fail
      refine (HH.out _).mono ?_
      rintro e w3 ⟨rfl, hb⟩
      have HB3 := Lib.hid (below_up HB3.out hb)
      have HB6 := Lib.hid (blk_below HB6.out hb)
      clear hb HH
      have d0 := blk_cell HB6.out (i := 0) rfl
      have d1 := blk_cell HB6.out (i := 1) rfl
      have f0 := blk_frozen HB6.out 0
      have f1 := blk_frozen HB6.out 1
      go_wp2
      clear d0 d1 f0 f1
      have B1 := blk_set (blk_set HB6.out 0 (.int .i64 U)) 1 (.int .i64 D)
      have r0 := blk_cell B1 (i := 0) (v := .int .i64 U) rfl
      have r1 := blk_cell B1 (i := 1) (v := .int .i64 D) rfl
      have hle : w.heap.size ≤ w.heap.size + 1 + 1 := by omega
      have HBX := Lib.hid ((HB3.out.setCell (p := ⟨w.heap.size + 1 + 1, 0, none⟩) hle (.int .i64 U)).setCell (p := ⟨w.heap.size + 1 + 1, 1, none⟩) hle (.int .i64 D))
      clear B1
      generalize ((w3.setCell ⟨w.heap.size + 1 + 1, 0, none⟩ (.int .i64 U)).setCell ⟨w.heap.size + 1 + 1, 1, none⟩ (.int .i64 D)) = WE at *
      refine bodyPost_ret (v := .agg #[.int .i64 U, .int .i64 D]) (by simp [results, Try.results44, go_sem, r0, r1]) rfl ?_
      exact ⟨rfl, HBX.out⟩
    · have e2 : ((i : Int) == (j : Int)) = false := by simp; omega
      obtain ⟨U6, D6, hform⟩ := fK_form (kK f i j)
      have HFORM := Lib.hid hform
      rw [hform, HPI.out, HPJ.out]
      clear hform HPI HPJ
      go_enter Try.func44, Try.ntmps44
      go_wp2
      generalize ((w.alloc (.cells #[.int .i64 i, .int .i64 (g2 f i 0), .int .i64 (g2 f i 1)] 60)).alloc (.cells #[.int .i64 j, .int .i64 (g2 f j 0), .int .i64 (g2 f j 1)] 60)).alloc (.cells #[.int .i64 0, .int .i64 0] 28) = W3 at *
      have HZ1 := Keep.below (below_alloc W3 (.cells #[.int .i64 0, .int .i64 0, .int .i64 0] 60))
      have HZ2 := Keep.below (below_alloc (W3.alloc (.cells #[.int .i64 0, .int .i64 0, .int .i64 0] 60)) (.cells #[.int .i64 0, .int .i64 0, .int .i64 0] 60))
      have p0a := HZ1 _ _ p0
      have p0b := HZ2 _ _ p0a
      have p1a := HZ1 _ _ p1
      have p1b := HZ2 _ _ p1a
      have p2a := HZ1 _ _ p2
      have p2b := HZ2 _ _ p2a
      have s0a := HZ1 _ _ s0
      have s0b := HZ2 _ _ s0a
      have s1a := HZ1 _ _ s1
      have s1b := HZ2 _ _ s1a
      have s2a := HZ1 _ _ s2
      have s2b := HZ2 _ _ s2a
      have HZc := Keep.below (below_alloc (W3.alloc (.cells #[.int .i64 0, .int .i64 0, .int .i64 0] 60)) (.cells #[.int .i64 i, .int .i64 (g2 f i 0), .int .i64 (g2 f i 1)] 60))
      have HZd := Keep.below (below_up (below_alloc W3 (.cells #[.int .i64 i, .int .i64 (g2 f i 0), .int .i64 (g2 f i 1)] 60)) (below_alloc _ (.cells #[.int .i64 0, .int .i64 0, .int .i64 0] 60)))
      have s0c := HZc _ _ s0a
      have s0q := HZd _ _ s0
      have s1c := HZc _ _ s1a
      have s1q := HZd _ _ s1
      have s2c := HZc _ _ s2a
      have s2q := HZd _ _ s2
      clear HZ1 HZ2 HZc HZd
      apply region_put [19, 20, 7, 8] (fun us v => ∃ a7 a8, us = [.agg #[.int .i64 i, .int .i64 (g2 f i 0), .int .i64 (g2 f i 1)], .agg #[.int .i64 j, .int .i64 (g2 f j 0), .int .i64 (g2 f j 1)], .pointer (some ⟨a7, 0, none⟩), .pointer (some ⟨a8, 0, none⟩)] ∧ Hid (KY w a7 a8 f i j v))
      · have HL := blk_lt HB6.out
        have HE1 : Hid (KY w W3.heap.size (W3.heap.size + 1) f i j ((W3.alloc (.cells #[.int .i64 i, .int .i64 (g2 f i 0), .int .i64 (g2 f i 1)] 60)).alloc (.cells #[.int .i64 j, .int .i64 (g2 f j 0), .int .i64 (g2 f j 1)] 60)).drew) := Lib.hid ⟨blk_old (blk_old HB6.out _) _, blk_old (blk_new W3 _ _) _, by have b := blk_new (W3.alloc (.cells #[.int .i64 i, .int .i64 (g2 f i 0), .int .i64 (g2 f i 1)] 60)) 60 #[.int .i64 j, .int .i64 (g2 f j 0), .int .i64 (g2 f j 1)]; rw [World.size_alloc] at b; exact b, by omega, HL, by omega, below_quiet (below_up (below_up HB3.out (below_alloc _ _)) (below_alloc _ _)) ⟨1, rfl⟩⟩
        have HE2 : Hid (KY w (W3.heap.size + 1) W3.heap.size f i j ((W3.alloc (.cells #[.int .i64 j, .int .i64 (g2 f j 0), .int .i64 (g2 f j 1)] 60)).alloc (.cells #[.int .i64 i, .int .i64 (g2 f i 0), .int .i64 (g2 f i 1)] 60)).drew) := Lib.hid ⟨blk_old (blk_old HB6.out _) _, by have b := blk_new (W3.alloc (.cells #[.int .i64 j, .int .i64 (g2 f j 0), .int .i64 (g2 f j 1)] 60)) 60 #[.int .i64 i, .int .i64 (g2 f i 0), .int .i64 (g2 f i 1)]; rw [World.size_alloc] at b; exact b, blk_old (blk_new W3 _ _) _, by omega, by omega, HL, below_quiet (below_up (below_up HB3.out (below_alloc _ _)) (below_alloc _ _)) ⟨1, rfl⟩⟩
        clear HL
        go_region
        all_goals first
          | exact PutQ.mk _ (by simp only [frmL, Act.put, List.setIfInBounds_toArray, List.set_cons_zero, List.set_cons_succ]) ⟨_, _, rfl, HE1⟩
          | exact PutQ.mk _ (by simp only [frmL, Act.put, List.setIfInBounds_toArray, List.set_cons_zero, List.set_cons_succ]) ⟨_, _, rfl, HE2⟩
          | fail
      · rintro _ V ⟨a7, a8, rfl, HK⟩
        simp only [frmL, Act.put, List.setIfInBounds_toArray, List.set_cons_zero, List.set_cons_succ]
        clear HB3 HB6 HPE p0 p0a p0b p1 p1a p1b p2 p2a p2b s0 s0a s0b s1 s1a s1b s2 s2a s2b s0c s0q s1c s1q s2c s2q
        have t0 := blk_cell HK.out.b7 (i := 0) rfl
        have t1 := blk_cell HK.out.b7 (i := 1) rfl
        have t2 := blk_cell HK.out.b7 (i := 2) rfl
        have u0 := blk_cell HK.out.b8 (i := 0) rfl
        have u1 := blk_cell HK.out.b8 (i := 1) rfl
        have u2 := blk_cell HK.out.b8 (i := 2) rfl
        by_cases hlt : j < i
        · have x0 := blk_frozen HK.out.b7 0
          have x1 := blk_frozen HK.out.b7 1
          have x2 := blk_frozen HK.out.b7 2
          have y0 := blk_frozen HK.out.b8 0
          have y1 := blk_frozen HK.out.b8 1
          have y2 := blk_frozen HK.out.b8 2
          have e3 : decide ((j : Int) < (i : Int)) = true := by simp; omega
          have hne := HK.out.ne
          have hne2 := HK.out.ne.symm
          have HK := Lib.hid HK.out.swap
          have lb := blk_cell HK.out.b8 (i := 0) rfl
          have HC0 : Hid (∀ W, Calls Try.prog 51 #[.int .i64 0, .int .i64 1] W (Ret (.agg #[.int .i64 (frU 0 64), .int .i64 (frD 0 64)]) W)) := Lib.hid (fun W => fracK_impl 0 1 0 W (by omega) (by omega) rfl)
          have HF2 := Lib.hid (fun W => fracOf_any 2 1 W (by unfold Mid; omega) (by unfold Mid; omega) (by omega))
          clear lb
          go_wp2_with fail
          refine (HC0.out _).mono ?_
          rintro e w4 ⟨rfl, hb⟩
          have HK4 := Lib.hid (HK.out.next hb)
          clear hb HK HC0
          have HX := Lib.hid (show KX w a7 w4.heap.size f j (frU 0 64) (frD 0 64) (w4.alloc (.cells #[.int .i64 (frU 0 64), .int .i64 (frD 0 64)] 28)) from
            ⟨blk_old HK4.out.b6 _, blk_old HK4.out.b7 _, blk_new w4 _ _, Nat.lt_of_lt_of_le HK4.out.l7 (Nat.le_of_lt (blk_lt HK4.out.b7)), Nat.ne_of_lt (blk_lt HK4.out.b7), below_up HK4.out.up (below_alloc _ _)⟩)
          have g8 := blk_old HK4.out.b8 (.cells #[.int .i64 (frU 0 64), .int .i64 (frD 0 64)] 28)
          have k0 := blk_cell g8 (i := 0) rfl
          have k1 := blk_cell g8 (i := 1) rfl
          have k2 := blk_cell g8 (i := 2) rfl
          clear g8 HK4
          have HOF := Lib.hid (kK_off v (i := i) (j := j) (by omega) (by omega))
          rcases v.par (i := i) (by omega) with ⟨hp, hq⟩ | ⟨hp, hq, _⟩
          · have HPA : Hid (∀ W, Calls Try.prog 65 #[.slice (some ⟨g, 0, none⟩) n n, .agg #[.int .i64 i, .int .i64 (g2 f i 0), .int .i64 (g2 f i 1)]] W (Ret (.slice none 0 0) W)) := Lib.hid (fun W => parentsNone_any (.slice (some ⟨g, 0, none⟩) n n) f i hp W)
            have HOV : Hid (∀ W, Calls Try.prog 67 #[.agg #[.int .i64 (frU 0 64), .int .i64 (frD 0 64)], frV 2 1] W (Ret (.agg #[.int .i64 U6, .int .i64 D6]) W)) := Lib.hid (fun W => by
              have h := overK_impl 0 64 2 1 (kK f i j) 64 W (by omega) (by omega) (by omega) (by omega) (by omega) (by have := HOF.out; rw [if_pos (by omega)] at this; omega)
              have e9 : frV (kK f i j) 64 = .agg #[.int .i64 U6, .int .i64 D6] := HFORM.out
              rw [e9] at h
              exact h)
            clear HOF hp hq IH
            generalize frU 0 64 = U0 at *
            generalize frD 0 64 = D0 at *
            go_wp2_with fail
            generalize w4.alloc (.cells #[.int .i64 U0, .int .i64 D0] 28) = W5 at *
            generalize w4.heap.size = a9 at *
            refine (HPA.out _).mono ?_
            rintro e w6 ⟨rfl, hb⟩
            have HX := Lib.hid (HX.out.next hb)
            clear hb HPA k0 k1 k2
            go_wp2
            go_loopw [33] (fun i_ wr => i_ = .int .i64 0 ∧ Hid (KX w a7 a9 f j U0 D0 wr)) (fun _ _ => 0)
            case atStart => exact ⟨rfl, HX⟩
            case round =>
              clear HX
              obtain ⟨rfl, HX⟩ := hrel
              have m0 := blk_cell HX.out.b9 (i := 0) rfl
              have m1 := blk_cell HX.out.b9 (i := 1) rfl
              go_wp2
              go_region_law ((first
                | (go_simp; go_at_call 51; (with_reducible refine (HF2.out _).mono ?_); rintro e x1 ⟨rfl, hb⟩; have HX := Lib.hid ((HX.out.next (Quiet.below ⟨1, rfl⟩)).next hb); have m0 := blk_cell HX.out.b9 (i := 0) rfl; have m1 := blk_cell HX.out.b9 (i := 1) rfl; clear hb)
                | (go_simp; go_at_call 67; (with_reducible refine (HOV.out _).mono ?_); rintro e x2 ⟨rfl, hb⟩; have HX := Lib.hid (HX.out.next hb); have d0 := blk_cell HX.out.b6 (i := 0) rfl; have d1 := blk_cell HX.out.b6 (i := 1) rfl; have f0 := blk_frozen HX.out.b6 0; have f1 := blk_frozen HX.out.b6 1; clear hb)
                | fail))
              all_goals
                have B1 := blk_set (blk_set HX.out.b6 0 (.int .i64 U6)) 1 (.int .i64 D6)
                have r0 := blk_cell B1 (i := 0) (v := .int .i64 U6) rfl
                have r1 := blk_cell B1 (i := 1) (v := .int .i64 D6) rfl
                have hle : w.heap.size ≤ w.heap.size + 1 + 1 := by omega
                have HBX := Lib.hid ((HX.out.up.setCell (p := ⟨w.heap.size + 1 + 1, 0, none⟩) hle (.int .i64 U6)).setCell (p := ⟨w.heap.size + 1 + 1, 1, none⟩) hle (.int .i64 D6))
                clear d0 d1 f0 f1 m0 m1 B1
                go_wp2
                generalize ((x2.setCell ⟨w.heap.size + 1 + 1, 0, none⟩ (.int .i64 U6)).setCell ⟨w.heap.size + 1 + 1, 1, none⟩ (.int .i64 D6)) = WE at *
                refine bodyPost_ret (v := .agg #[.int .i64 U6, .int .i64 D6]) (by simp [results, Try.results44, go_sem, r0, r1]) rfl ?_
                exact ⟨rfl, HBX.out⟩
          · obtain ⟨p, ep⟩ : ∃ p : Nat, g2 f i 0 = p := ⟨_, (Int.toNat_of_nonneg hp.1).symm⟩
            obtain ⟨q, eq⟩ : ∃ q : Nat, g2 f i 1 = q := ⟨_, (Int.toNat_of_nonneg hq.1).symm⟩
            have HPA : Hid (∀ W, PE W g n f → Calls Try.prog 65 #[.slice (some ⟨g, 0, none⟩) n n, .agg #[.int .i64 i, .int .i64 (g2 f i 0), .int .i64 (g2 f i 1)]] W fun e w' => ∃ h, e = .returned (.slice (some ⟨h, 0, none⟩) 2 2) ∧ P2 w' h f p q ∧ W.heap.size ≤ h ∧ Below W.heap.size W w') := Lib.hid (fun W h => parentsTwo_any g n f i p q ep eq (by omega) (by omega) W h)
            have hof : 2 * kK f i j = kK f p j + kK f q j := by have := HOF.out; rw [if_neg (by omega), ep, eq, Int.toNat_natCast, Int.toNat_natCast] at this; exact this
            have hb1 := kK_bd f p j
            have hb2 := kK_bd f q j
            have HKIN0 : Hid (∀ W, PE W g n f → Calls Try.prog 44 #[.slice (some ⟨g, 0, none⟩) n n, .agg #[.int .i64 p, .int .i64 (g2 f p 0), .int .i64 (g2 f p 1)], .agg #[.int .i64 j, .int .i64 (g2 f j 0), .int .i64 (g2 f j 1)]] W (Ret (fK (kK f p j)) W)) := Lib.hid (fun W h => IH p j (by omega) (by omega) (by omega) W h)
            have HKIN1 : Hid (∀ W, PE W g n f → Calls Try.prog 44 #[.slice (some ⟨g, 0, none⟩) n n, .agg #[.int .i64 q, .int .i64 (g2 f q 0), .int .i64 (g2 f q 1)], .agg #[.int .i64 j, .int .i64 (g2 f j 0), .int .i64 (g2 f j 1)]] W (Ret (fK (kK f q j)) W)) := Lib.hid (fun W h => IH q j (by omega) (by omega) (by omega) W h)
            have HPLU0 : Hid (∀ W, Calls Try.prog 66 #[.agg #[.int .i64 (frU (tg (kK f p j) (kK f q j) 0) 64), .int .i64 (frD (tg (kK f p j) (kK f q j) 0) 64)], fK (kK f p j)] W (Ret (.agg #[.int .i64 (frU (tg (kK f p j) (kK f q j) 1) 64), .int .i64 (frD (tg (kK f p j) (kK f q j) 1) 64)]) W)) := Lib.hid (fun W => by
              have h := plusK_impl 0 (kK f p j) W (by omega) (by omega)
              rw [Int.zero_add] at h
              exact h)
            have HPLU1 : Hid (∀ W, Calls Try.prog 66 #[.agg #[.int .i64 (frU (tg (kK f p j) (kK f q j) 1) 64), .int .i64 (frD (tg (kK f p j) (kK f q j) 1) 64)], fK (kK f q j)] W (Ret (.agg #[.int .i64 (frU (tg (kK f p j) (kK f q j) 2) 64), .int .i64 (frD (tg (kK f p j) (kK f q j) 2) 64)]) W)) := Lib.hid (fun W => plusK_impl (kK f p j) (kK f q j) W (by omega) (by omega))
            have HOV : Hid (∀ W, Calls Try.prog 67 #[.agg #[.int .i64 (frU (tg (kK f p j) (kK f q j) 2) 64), .int .i64 (frD (tg (kK f p j) (kK f q j) 2) 64)], frV 2 1] W (Ret (.agg #[.int .i64 U6, .int .i64 D6]) W)) := Lib.hid (fun W => by
              have h := overK_impl (kK f p j + kK f q j) 64 2 1 (kK f i j) 64 W (by omega) (by omega) (by omega) (by omega) (by omega) (by omega)
              have e9 : frV (kK f i j) 64 = .agg #[.int .i64 U6, .int .i64 D6] := HFORM.out
              rw [e9] at h
              exact h)
            clear HOF hp hq IH hb1 hb2 hof ep eq
            have HX := Lib.hid (show KX w a7 w4.heap.size f j (frU (tg (kK f p j) (kK f q j) 0) 64) (frD (tg (kK f p j) (kK f q j) 0) 64) (w4.alloc (.cells #[.int .i64 (frU 0 64), .int .i64 (frD 0 64)] 28)) from HX.out)
            have HE := Lib.hid HE
            go_wp2_with fail
            generalize w4.alloc (.cells #[.int .i64 (frU 0 64), .int .i64 (frD 0 64)] 28) = W5 at *
            have HA9 := Lib.hid (blk_lt HX.out.b9)
            generalize w4.heap.size = a9 at *
            refine (HPA.out _ (HE.out.keep (Keep.below HX.out.up))).mono ?_
            rintro e w6 ⟨h, rfl, hp2, hh, hb⟩
            have HNE := Lib.hid (show h ≠ a9 from fun e => by have := HA9.out; omega)
            have HX := Lib.hid (HX.out.next hb)
            have HP2 := Lib.hid hp2
            clear hb HPA k0 k1 k2 hp2 hh HA9
            go_wp2
            go_loopw [33] (fun i_ wr => ∃ k : Nat, k ≤ 2 ∧ i_ = .int .i64 k ∧ Hid (KX w a7 a9 f j (frU (tg (kK f p j) (kK f q j) k) 64) (frD (tg (kK f p j) (kK f q j) k) 64) wr) ∧ Hid (P2 wr h f p q)) (fun i_ _ => 2 - (intOf i_).toNat)
            case atStart => exact ⟨0, by omega, rfl, HX, HP2⟩
            case round =>
              clear HX HP2
              obtain ⟨k, hk, rfl, HX, HP2⟩ := hrel
              rcases (show k = 0 ∨ k = 1 ∨ k = 2 by omega) with rfl | rfl | rfl
              · skip
                have a0 := HP2.out.1.1
                have a1 := HP2.out.1.2.1
                have a2 := HP2.out.1.2.2
                have HKI := Lib.hid (HKIN0.out)
                have HPL := Lib.hid (HPLU0.out)
                have HX7 := Lib.hid (HX.out.next (below_alloc wr (.cells #[.int .i64 p, .int .i64 (g2 f p 0), .int .i64 (g2 f p 1)] 60)))
                have HP27 := Lib.hid (HP2.out.keep (Keep.below (below_alloc wr (.cells #[.int .i64 p, .int .i64 (g2 f p 0), .int .i64 (g2 f p 1)] 60))))
                have b11 := blk_new wr 60 #[.int .i64 p, .int .i64 (g2 f p 0), .int .i64 (g2 f p 1)]
                have z0 := blk_cell b11 (i := 0) rfl
                have z1 := blk_cell b11 (i := 1) rfl
                have z2 := blk_cell b11 (i := 2) rfl
                have y0 := blk_cell HX7.out.b7 (i := 0) rfl
                have y1 := blk_cell HX7.out.b7 (i := 1) rfl
                have y2 := blk_cell HX7.out.b7 (i := 2) rfl
                have m0 := blk_cell HX7.out.b9 (i := 0) rfl
                have m1 := blk_cell HX7.out.b9 (i := 1) rfl
                clear b11 HX HP2
                go_wp2
                clear a0 a1 a2
                generalize wr.alloc (.cells #[.int .i64 p, .int .i64 (g2 f p 0), .int .i64 (g2 f p 1)] 60) = W7 at *
                have HPE7 := Lib.hid (show PE W7.drew g n f from HE.out.keep (Keep.below (HX7.out.next (Quiet.below (w' := W7.drew) ⟨1, rfl⟩)).up))
                go_region_law ((first
                  | (go_simp; go_at_call 44; (with_reducible refine (HKI.out _ HPE7.out).mono ?_); rintro e x1 ⟨rfl, hb⟩; have HX := Lib.hid ((HX7.out.next (Quiet.below ⟨1, rfl⟩)).next hb); have HP2 := Lib.hid ((HP27.out.keep (Keep.drewN _ 1)).keep (Keep.below hb)); have m2 := blk_cell HX.out.b9 (i := 0) rfl; have m3 := blk_cell HX.out.b9 (i := 1) rfl; clear hb)
                  | (go_simp; go_at_call 66; (with_reducible refine (HPL.out _).mono ?_); rintro e x2 ⟨rfl, hb⟩; have HX := Lib.hid (HX.out.next hb); have HP2 := Lib.hid (HP2.out.keep (Keep.below hb)); have d0 := blk_cell HX.out.b9 (i := 0) rfl; have d1 := blk_cell HX.out.b9 (i := 1) rfl; have f0 := blk_frozen HX.out.b9 0; have f1 := blk_frozen HX.out.b9 1; clear hb)
                  | fail))
                all_goals
                  have HX := Lib.hid (HX.out.set (frU (tg (kK f p j) (kK f q j) 1) 64) (frD (tg (kK f p j) (kK f q j) 1) 64))
                  have HP2 := Lib.hid ((HP2.out.set HNE.out 0 (.int .i64 (frU (tg (kK f p j) (kK f q j) 1) 64))).set HNE.out 1 (.int .i64 (frD (tg (kK f p j) (kK f q j) 1) 64)))
                  clear d0 d1 f0 f1 m0 m1 m2 m3 z0 z1 z2 y0 y1 y2 HX7 HP27 HPE7
                  go_wp2
                  go_roundw
                  case rel => exact ⟨1, by omega, rfl, Lib.hid (by exact HX.out), Lib.hid (by exact HP2.out)⟩
                  case measure => simp [intOf]
              · skip
                have a0 := HP2.out.2.1
                have a1 := HP2.out.2.2.1
                have a2 := HP2.out.2.2.2
                have HKI := Lib.hid (HKIN1.out)
                have HPL := Lib.hid (HPLU1.out)
                have HX7 := Lib.hid (HX.out.next (below_alloc wr (.cells #[.int .i64 q, .int .i64 (g2 f q 0), .int .i64 (g2 f q 1)] 60)))
                have HP27 := Lib.hid (HP2.out.keep (Keep.below (below_alloc wr (.cells #[.int .i64 q, .int .i64 (g2 f q 0), .int .i64 (g2 f q 1)] 60))))
                have b11 := blk_new wr 60 #[.int .i64 q, .int .i64 (g2 f q 0), .int .i64 (g2 f q 1)]
                have z0 := blk_cell b11 (i := 0) rfl
                have z1 := blk_cell b11 (i := 1) rfl
                have z2 := blk_cell b11 (i := 2) rfl
                have y0 := blk_cell HX7.out.b7 (i := 0) rfl
                have y1 := blk_cell HX7.out.b7 (i := 1) rfl
                have y2 := blk_cell HX7.out.b7 (i := 2) rfl
                have m0 := blk_cell HX7.out.b9 (i := 0) rfl
                have m1 := blk_cell HX7.out.b9 (i := 1) rfl
                clear b11 HX HP2
                go_wp2
                clear a0 a1 a2
                generalize wr.alloc (.cells #[.int .i64 q, .int .i64 (g2 f q 0), .int .i64 (g2 f q 1)] 60) = W7 at *
                have HPE7 := Lib.hid (show PE W7.drew g n f from HE.out.keep (Keep.below (HX7.out.next (Quiet.below (w' := W7.drew) ⟨1, rfl⟩)).up))
                go_region_law ((first
                  | (go_simp; go_at_call 44; (with_reducible refine (HKI.out _ HPE7.out).mono ?_); rintro e x1 ⟨rfl, hb⟩; have HX := Lib.hid ((HX7.out.next (Quiet.below ⟨1, rfl⟩)).next hb); have HP2 := Lib.hid ((HP27.out.keep (Keep.drewN _ 1)).keep (Keep.below hb)); have m2 := blk_cell HX.out.b9 (i := 0) rfl; have m3 := blk_cell HX.out.b9 (i := 1) rfl; clear hb)
                  | (go_simp; go_at_call 66; (with_reducible refine (HPL.out _).mono ?_); rintro e x2 ⟨rfl, hb⟩; have HX := Lib.hid (HX.out.next hb); have HP2 := Lib.hid (HP2.out.keep (Keep.below hb)); have d0 := blk_cell HX.out.b9 (i := 0) rfl; have d1 := blk_cell HX.out.b9 (i := 1) rfl; have f0 := blk_frozen HX.out.b9 0; have f1 := blk_frozen HX.out.b9 1; clear hb)
                  | fail))
                all_goals
                  have HX := Lib.hid (HX.out.set (frU (tg (kK f p j) (kK f q j) 2) 64) (frD (tg (kK f p j) (kK f q j) 2) 64))
                  have HP2 := Lib.hid ((HP2.out.set HNE.out 0 (.int .i64 (frU (tg (kK f p j) (kK f q j) 2) 64))).set HNE.out 1 (.int .i64 (frD (tg (kK f p j) (kK f q j) 2) 64)))
                  clear d0 d1 f0 f1 m0 m1 m2 m3 z0 z1 z2 y0 y1 y2 HX7 HP27 HPE7
                  go_wp2
                  go_roundw
                  case rel => exact ⟨2, by omega, rfl, Lib.hid (by exact HX.out), Lib.hid (by exact HP2.out)⟩
                  case measure => simp [intOf]
              · have m0 := blk_cell HX.out.b9 (i := 0) rfl
                have m1 := blk_cell HX.out.b9 (i := 1) rfl
                go_wp2
                go_region_law ((first
                  | (go_simp; go_at_call 51; (with_reducible refine (HF2.out _).mono ?_); rintro e x1 ⟨rfl, hb⟩; have HX := Lib.hid ((HX.out.next (Quiet.below ⟨1, rfl⟩)).next hb); have m0 := blk_cell HX.out.b9 (i := 0) rfl; have m1 := blk_cell HX.out.b9 (i := 1) rfl; clear hb)
                  | (go_simp; go_at_call 67; (with_reducible refine (HOV.out _).mono ?_); rintro e x2 ⟨rfl, hb⟩; have HX := Lib.hid (HX.out.next hb); have d0 := blk_cell HX.out.b6 (i := 0) rfl; have d1 := blk_cell HX.out.b6 (i := 1) rfl; have f0 := blk_frozen HX.out.b6 0; have f1 := blk_frozen HX.out.b6 1; clear hb)
                  | fail))
                all_goals
                  have B1 := blk_set (blk_set HX.out.b6 0 (.int .i64 U6)) 1 (.int .i64 D6)
                  have r0 := blk_cell B1 (i := 0) (v := .int .i64 U6) rfl
                  have r1 := blk_cell B1 (i := 1) (v := .int .i64 D6) rfl
                  have hle : w.heap.size ≤ w.heap.size + 1 + 1 := by omega
                  have HBX := Lib.hid ((HX.out.up.setCell (p := ⟨w.heap.size + 1 + 1, 0, none⟩) hle (.int .i64 U6)).setCell (p := ⟨w.heap.size + 1 + 1, 1, none⟩) hle (.int .i64 D6))
                  clear d0 d1 f0 f1 m0 m1 B1
                  go_wp2
                  generalize ((x2.setCell ⟨w.heap.size + 1 + 1, 0, none⟩ (.int .i64 U6)).setCell ⟨w.heap.size + 1 + 1, 1, none⟩ (.int .i64 D6)) = WE at *
                  refine bodyPost_ret (v := .agg #[.int .i64 U6, .int .i64 D6]) (by simp [results, Try.results44, go_sem, r0, r1]) rfl ?_
                  exact ⟨rfl, HBX.out⟩
        · have e3 : decide ((j : Int) < (i : Int)) = false := by simp; omega
          have lb := blk_cell HK.out.b8 (i := 0) rfl
          have HC0 : Hid (∀ W, Calls Try.prog 51 #[.int .i64 0, .int .i64 1] W (Ret (.agg #[.int .i64 (frU 0 64), .int .i64 (frD 0 64)]) W)) := Lib.hid (fun W => fracK_impl 0 1 0 W (by omega) (by omega) rfl)
          have HF2 := Lib.hid (fun W => fracOf_any 2 1 W (by unfold Mid; omega) (by unfold Mid; omega) (by omega))
          clear lb
          go_wp2_with fail
          refine (HC0.out _).mono ?_
          rintro e w4 ⟨rfl, hb⟩
          have HK4 := Lib.hid (HK.out.next hb)
          clear hb HK HC0
          have HX := Lib.hid (show KX w a7 w4.heap.size f i (frU 0 64) (frD 0 64) (w4.alloc (.cells #[.int .i64 (frU 0 64), .int .i64 (frD 0 64)] 28)) from
            ⟨blk_old HK4.out.b6 _, blk_old HK4.out.b7 _, blk_new w4 _ _, Nat.lt_of_lt_of_le HK4.out.l7 (Nat.le_of_lt (blk_lt HK4.out.b7)), Nat.ne_of_lt (blk_lt HK4.out.b7), below_up HK4.out.up (below_alloc _ _)⟩)
          have g8 := blk_old HK4.out.b8 (.cells #[.int .i64 (frU 0 64), .int .i64 (frD 0 64)] 28)
          have k0 := blk_cell g8 (i := 0) rfl
          have k1 := blk_cell g8 (i := 1) rfl
          have k2 := blk_cell g8 (i := 2) rfl
          clear g8 HK4
          have HOF := Lib.hid (kK_off v (i := j) (j := i) (by omega) (by omega))
          rcases v.par (i := j) (by omega) with ⟨hp, hq⟩ | ⟨hp, hq, _⟩
          · have HPA : Hid (∀ W, Calls Try.prog 65 #[.slice (some ⟨g, 0, none⟩) n n, .agg #[.int .i64 j, .int .i64 (g2 f j 0), .int .i64 (g2 f j 1)]] W (Ret (.slice none 0 0) W)) := Lib.hid (fun W => parentsNone_any (.slice (some ⟨g, 0, none⟩) n n) f j hp W)
            have HOV : Hid (∀ W, Calls Try.prog 67 #[.agg #[.int .i64 (frU 0 64), .int .i64 (frD 0 64)], frV 2 1] W (Ret (.agg #[.int .i64 U6, .int .i64 D6]) W)) := Lib.hid (fun W => by
              have h := overK_impl 0 64 2 1 (kK f i j) 64 W (by omega) (by omega) (by omega) (by omega) (by omega) (by have := HOF.out; rw [if_pos (by omega)] at this; rw [kK_symm f i j]; omega)
              have e9 : frV (kK f i j) 64 = .agg #[.int .i64 U6, .int .i64 D6] := HFORM.out
              rw [e9] at h
              exact h)
            clear HOF hp hq IH
            generalize frU 0 64 = U0 at *
            generalize frD 0 64 = D0 at *
            go_wp2_with fail
            generalize w4.alloc (.cells #[.int .i64 U0, .int .i64 D0] 28) = W5 at *
            generalize w4.heap.size = a9 at *
            refine (HPA.out _).mono ?_
            rintro e w6 ⟨rfl, hb⟩
            have HX := Lib.hid (HX.out.next hb)
            clear hb HPA k0 k1 k2
            go_wp2
            go_loopw [33] (fun i_ wr => i_ = .int .i64 0 ∧ Hid (KX w a7 a9 f i U0 D0 wr)) (fun _ _ => 0)
            case atStart => exact ⟨rfl, HX⟩
            case round =>
              clear HX
              obtain ⟨rfl, HX⟩ := hrel
              have m0 := blk_cell HX.out.b9 (i := 0) rfl
              have m1 := blk_cell HX.out.b9 (i := 1) rfl
              go_wp2
              go_region_law ((first
                | (go_simp; go_at_call 51; (with_reducible refine (HF2.out _).mono ?_); rintro e x1 ⟨rfl, hb⟩; have HX := Lib.hid ((HX.out.next (Quiet.below ⟨1, rfl⟩)).next hb); have m0 := blk_cell HX.out.b9 (i := 0) rfl; have m1 := blk_cell HX.out.b9 (i := 1) rfl; clear hb)
                | (go_simp; go_at_call 67; (with_reducible refine (HOV.out _).mono ?_); rintro e x2 ⟨rfl, hb⟩; have HX := Lib.hid (HX.out.next hb); have d0 := blk_cell HX.out.b6 (i := 0) rfl; have d1 := blk_cell HX.out.b6 (i := 1) rfl; have f0 := blk_frozen HX.out.b6 0; have f1 := blk_frozen HX.out.b6 1; clear hb)
                | fail))
              all_goals
                have B1 := blk_set (blk_set HX.out.b6 0 (.int .i64 U6)) 1 (.int .i64 D6)
                have r0 := blk_cell B1 (i := 0) (v := .int .i64 U6) rfl
                have r1 := blk_cell B1 (i := 1) (v := .int .i64 D6) rfl
                have hle : w.heap.size ≤ w.heap.size + 1 + 1 := by omega
                have HBX := Lib.hid ((HX.out.up.setCell (p := ⟨w.heap.size + 1 + 1, 0, none⟩) hle (.int .i64 U6)).setCell (p := ⟨w.heap.size + 1 + 1, 1, none⟩) hle (.int .i64 D6))
                clear d0 d1 f0 f1 m0 m1 B1
                go_wp2
                generalize ((x2.setCell ⟨w.heap.size + 1 + 1, 0, none⟩ (.int .i64 U6)).setCell ⟨w.heap.size + 1 + 1, 1, none⟩ (.int .i64 D6)) = WE at *
                refine bodyPost_ret (v := .agg #[.int .i64 U6, .int .i64 D6]) (by simp [results, Try.results44, go_sem, r0, r1]) rfl ?_
                exact ⟨rfl, HBX.out⟩
          · obtain ⟨p, ep⟩ : ∃ p : Nat, g2 f j 0 = p := ⟨_, (Int.toNat_of_nonneg hp.1).symm⟩
            obtain ⟨q, eq⟩ : ∃ q : Nat, g2 f j 1 = q := ⟨_, (Int.toNat_of_nonneg hq.1).symm⟩
            have HPA : Hid (∀ W, PE W g n f → Calls Try.prog 65 #[.slice (some ⟨g, 0, none⟩) n n, .agg #[.int .i64 j, .int .i64 (g2 f j 0), .int .i64 (g2 f j 1)]] W fun e w' => ∃ h, e = .returned (.slice (some ⟨h, 0, none⟩) 2 2) ∧ P2 w' h f p q ∧ W.heap.size ≤ h ∧ Below W.heap.size W w') := Lib.hid (fun W h => parentsTwo_any g n f j p q ep eq (by omega) (by omega) W h)
            have hof : 2 * kK f j i = kK f p i + kK f q i := by have := HOF.out; rw [if_neg (by omega), ep, eq, Int.toNat_natCast, Int.toNat_natCast] at this; exact this
            have hb1 := kK_bd f p i
            have hb2 := kK_bd f q i
            have HKIN0 : Hid (∀ W, PE W g n f → Calls Try.prog 44 #[.slice (some ⟨g, 0, none⟩) n n, .agg #[.int .i64 p, .int .i64 (g2 f p 0), .int .i64 (g2 f p 1)], .agg #[.int .i64 i, .int .i64 (g2 f i 0), .int .i64 (g2 f i 1)]] W (Ret (fK (kK f p i)) W)) := Lib.hid (fun W h => IH p i (by omega) (by omega) (by omega) W h)
            have HKIN1 : Hid (∀ W, PE W g n f → Calls Try.prog 44 #[.slice (some ⟨g, 0, none⟩) n n, .agg #[.int .i64 q, .int .i64 (g2 f q 0), .int .i64 (g2 f q 1)], .agg #[.int .i64 i, .int .i64 (g2 f i 0), .int .i64 (g2 f i 1)]] W (Ret (fK (kK f q i)) W)) := Lib.hid (fun W h => IH q i (by omega) (by omega) (by omega) W h)
            have HPLU0 : Hid (∀ W, Calls Try.prog 66 #[.agg #[.int .i64 (frU (tg (kK f p i) (kK f q i) 0) 64), .int .i64 (frD (tg (kK f p i) (kK f q i) 0) 64)], fK (kK f p i)] W (Ret (.agg #[.int .i64 (frU (tg (kK f p i) (kK f q i) 1) 64), .int .i64 (frD (tg (kK f p i) (kK f q i) 1) 64)]) W)) := Lib.hid (fun W => by
              have h := plusK_impl 0 (kK f p i) W (by omega) (by omega)
              rw [Int.zero_add] at h
              exact h)
            have HPLU1 : Hid (∀ W, Calls Try.prog 66 #[.agg #[.int .i64 (frU (tg (kK f p i) (kK f q i) 1) 64), .int .i64 (frD (tg (kK f p i) (kK f q i) 1) 64)], fK (kK f q i)] W (Ret (.agg #[.int .i64 (frU (tg (kK f p i) (kK f q i) 2) 64), .int .i64 (frD (tg (kK f p i) (kK f q i) 2) 64)]) W)) := Lib.hid (fun W => plusK_impl (kK f p i) (kK f q i) W (by omega) (by omega))
            have HOV : Hid (∀ W, Calls Try.prog 67 #[.agg #[.int .i64 (frU (tg (kK f p i) (kK f q i) 2) 64), .int .i64 (frD (tg (kK f p i) (kK f q i) 2) 64)], frV 2 1] W (Ret (.agg #[.int .i64 U6, .int .i64 D6]) W)) := Lib.hid (fun W => by
              have h := overK_impl (kK f p i + kK f q i) 64 2 1 (kK f i j) 64 W (by omega) (by omega) (by omega) (by omega) (by omega) (by rw [kK_symm f i j]; omega)
              have e9 : frV (kK f i j) 64 = .agg #[.int .i64 U6, .int .i64 D6] := HFORM.out
              rw [e9] at h
              exact h)
            clear HOF hp hq IH hb1 hb2 hof ep eq
            have HX := Lib.hid (show KX w a7 w4.heap.size f i (frU (tg (kK f p i) (kK f q i) 0) 64) (frD (tg (kK f p i) (kK f q i) 0) 64) (w4.alloc (.cells #[.int .i64 (frU 0 64), .int .i64 (frD 0 64)] 28)) from HX.out)
            have HE := Lib.hid HE
            go_wp2_with fail
            generalize w4.alloc (.cells #[.int .i64 (frU 0 64), .int .i64 (frD 0 64)] 28) = W5 at *
            have HA9 := Lib.hid (blk_lt HX.out.b9)
            generalize w4.heap.size = a9 at *
            refine (HPA.out _ (HE.out.keep (Keep.below HX.out.up))).mono ?_
            rintro e w6 ⟨h, rfl, hp2, hh, hb⟩
            have HNE := Lib.hid (show h ≠ a9 from fun e => by have := HA9.out; omega)
            have HX := Lib.hid (HX.out.next hb)
            have HP2 := Lib.hid hp2
            clear hb HPA k0 k1 k2 hp2 hh HA9
            go_wp2
            go_loopw [33] (fun i_ wr => ∃ k : Nat, k ≤ 2 ∧ i_ = .int .i64 k ∧ Hid (KX w a7 a9 f i (frU (tg (kK f p i) (kK f q i) k) 64) (frD (tg (kK f p i) (kK f q i) k) 64) wr) ∧ Hid (P2 wr h f p q)) (fun i_ _ => 2 - (intOf i_).toNat)
            case atStart => exact ⟨0, by omega, rfl, HX, HP2⟩
            case round =>
              clear HX HP2
              obtain ⟨k, hk, rfl, HX, HP2⟩ := hrel
              rcases (show k = 0 ∨ k = 1 ∨ k = 2 by omega) with rfl | rfl | rfl
              · skip
                have a0 := HP2.out.1.1
                have a1 := HP2.out.1.2.1
                have a2 := HP2.out.1.2.2
                have HKI := Lib.hid (HKIN0.out)
                have HPL := Lib.hid (HPLU0.out)
                have HX7 := Lib.hid (HX.out.next (below_alloc wr (.cells #[.int .i64 p, .int .i64 (g2 f p 0), .int .i64 (g2 f p 1)] 60)))
                have HP27 := Lib.hid (HP2.out.keep (Keep.below (below_alloc wr (.cells #[.int .i64 p, .int .i64 (g2 f p 0), .int .i64 (g2 f p 1)] 60))))
                have b11 := blk_new wr 60 #[.int .i64 p, .int .i64 (g2 f p 0), .int .i64 (g2 f p 1)]
                have z0 := blk_cell b11 (i := 0) rfl
                have z1 := blk_cell b11 (i := 1) rfl
                have z2 := blk_cell b11 (i := 2) rfl
                have y0 := blk_cell HX7.out.b7 (i := 0) rfl
                have y1 := blk_cell HX7.out.b7 (i := 1) rfl
                have y2 := blk_cell HX7.out.b7 (i := 2) rfl
                have m0 := blk_cell HX7.out.b9 (i := 0) rfl
                have m1 := blk_cell HX7.out.b9 (i := 1) rfl
                clear b11 HX HP2
                go_wp2
                clear a0 a1 a2
                generalize wr.alloc (.cells #[.int .i64 p, .int .i64 (g2 f p 0), .int .i64 (g2 f p 1)] 60) = W7 at *
                have HPE7 := Lib.hid (show PE W7.drew g n f from HE.out.keep (Keep.below (HX7.out.next (Quiet.below (w' := W7.drew) ⟨1, rfl⟩)).up))
                go_region_law ((first
                  | (go_simp; go_at_call 44; (with_reducible refine (HKI.out _ HPE7.out).mono ?_); rintro e x1 ⟨rfl, hb⟩; have HX := Lib.hid ((HX7.out.next (Quiet.below ⟨1, rfl⟩)).next hb); have HP2 := Lib.hid ((HP27.out.keep (Keep.drewN _ 1)).keep (Keep.below hb)); have m2 := blk_cell HX.out.b9 (i := 0) rfl; have m3 := blk_cell HX.out.b9 (i := 1) rfl; clear hb)
                  | (go_simp; go_at_call 66; (with_reducible refine (HPL.out _).mono ?_); rintro e x2 ⟨rfl, hb⟩; have HX := Lib.hid (HX.out.next hb); have HP2 := Lib.hid (HP2.out.keep (Keep.below hb)); have d0 := blk_cell HX.out.b9 (i := 0) rfl; have d1 := blk_cell HX.out.b9 (i := 1) rfl; have f0 := blk_frozen HX.out.b9 0; have f1 := blk_frozen HX.out.b9 1; clear hb)
                  | fail))
                all_goals
                  have HX := Lib.hid (HX.out.set (frU (tg (kK f p i) (kK f q i) 1) 64) (frD (tg (kK f p i) (kK f q i) 1) 64))
                  have HP2 := Lib.hid ((HP2.out.set HNE.out 0 (.int .i64 (frU (tg (kK f p i) (kK f q i) 1) 64))).set HNE.out 1 (.int .i64 (frD (tg (kK f p i) (kK f q i) 1) 64)))
                  clear d0 d1 f0 f1 m0 m1 m2 m3 z0 z1 z2 y0 y1 y2 HX7 HP27 HPE7
                  go_wp2
                  go_roundw
                  case rel => exact ⟨1, by omega, rfl, Lib.hid (by exact HX.out), Lib.hid (by exact HP2.out)⟩
                  case measure => simp [intOf]
              · skip
                have a0 := HP2.out.2.1
                have a1 := HP2.out.2.2.1
                have a2 := HP2.out.2.2.2
                have HKI := Lib.hid (HKIN1.out)
                have HPL := Lib.hid (HPLU1.out)
                have HX7 := Lib.hid (HX.out.next (below_alloc wr (.cells #[.int .i64 q, .int .i64 (g2 f q 0), .int .i64 (g2 f q 1)] 60)))
                have HP27 := Lib.hid (HP2.out.keep (Keep.below (below_alloc wr (.cells #[.int .i64 q, .int .i64 (g2 f q 0), .int .i64 (g2 f q 1)] 60))))
                have b11 := blk_new wr 60 #[.int .i64 q, .int .i64 (g2 f q 0), .int .i64 (g2 f q 1)]
                have z0 := blk_cell b11 (i := 0) rfl
                have z1 := blk_cell b11 (i := 1) rfl
                have z2 := blk_cell b11 (i := 2) rfl
                have y0 := blk_cell HX7.out.b7 (i := 0) rfl
                have y1 := blk_cell HX7.out.b7 (i := 1) rfl
                have y2 := blk_cell HX7.out.b7 (i := 2) rfl
                have m0 := blk_cell HX7.out.b9 (i := 0) rfl
                have m1 := blk_cell HX7.out.b9 (i := 1) rfl
                clear b11 HX HP2
                go_wp2
                clear a0 a1 a2
                generalize wr.alloc (.cells #[.int .i64 q, .int .i64 (g2 f q 0), .int .i64 (g2 f q 1)] 60) = W7 at *
                have HPE7 := Lib.hid (show PE W7.drew g n f from HE.out.keep (Keep.below (HX7.out.next (Quiet.below (w' := W7.drew) ⟨1, rfl⟩)).up))
                go_region_law ((first
                  | (go_simp; go_at_call 44; (with_reducible refine (HKI.out _ HPE7.out).mono ?_); rintro e x1 ⟨rfl, hb⟩; have HX := Lib.hid ((HX7.out.next (Quiet.below ⟨1, rfl⟩)).next hb); have HP2 := Lib.hid ((HP27.out.keep (Keep.drewN _ 1)).keep (Keep.below hb)); have m2 := blk_cell HX.out.b9 (i := 0) rfl; have m3 := blk_cell HX.out.b9 (i := 1) rfl; clear hb)
                  | (go_simp; go_at_call 66; (with_reducible refine (HPL.out _).mono ?_); rintro e x2 ⟨rfl, hb⟩; have HX := Lib.hid (HX.out.next hb); have HP2 := Lib.hid (HP2.out.keep (Keep.below hb)); have d0 := blk_cell HX.out.b9 (i := 0) rfl; have d1 := blk_cell HX.out.b9 (i := 1) rfl; have f0 := blk_frozen HX.out.b9 0; have f1 := blk_frozen HX.out.b9 1; clear hb)
                  | fail))
                all_goals
                  have HX := Lib.hid (HX.out.set (frU (tg (kK f p i) (kK f q i) 2) 64) (frD (tg (kK f p i) (kK f q i) 2) 64))
                  have HP2 := Lib.hid ((HP2.out.set HNE.out 0 (.int .i64 (frU (tg (kK f p i) (kK f q i) 2) 64))).set HNE.out 1 (.int .i64 (frD (tg (kK f p i) (kK f q i) 2) 64)))
                  clear d0 d1 f0 f1 m0 m1 m2 m3 z0 z1 z2 y0 y1 y2 HX7 HP27 HPE7
                  go_wp2
                  go_roundw
                  case rel => exact ⟨2, by omega, rfl, Lib.hid (by exact HX.out), Lib.hid (by exact HP2.out)⟩
                  case measure => simp [intOf]
              · have m0 := blk_cell HX.out.b9 (i := 0) rfl
                have m1 := blk_cell HX.out.b9 (i := 1) rfl
                go_wp2
                go_region_law ((first
                  | (go_simp; go_at_call 51; (with_reducible refine (HF2.out _).mono ?_); rintro e x1 ⟨rfl, hb⟩; have HX := Lib.hid ((HX.out.next (Quiet.below ⟨1, rfl⟩)).next hb); have m0 := blk_cell HX.out.b9 (i := 0) rfl; have m1 := blk_cell HX.out.b9 (i := 1) rfl; clear hb)
                  | (go_simp; go_at_call 67; (with_reducible refine (HOV.out _).mono ?_); rintro e x2 ⟨rfl, hb⟩; have HX := Lib.hid (HX.out.next hb); have d0 := blk_cell HX.out.b6 (i := 0) rfl; have d1 := blk_cell HX.out.b6 (i := 1) rfl; have f0 := blk_frozen HX.out.b6 0; have f1 := blk_frozen HX.out.b6 1; clear hb)
                  | fail))
                all_goals
                  have B1 := blk_set (blk_set HX.out.b6 0 (.int .i64 U6)) 1 (.int .i64 D6)
                  have r0 := blk_cell B1 (i := 0) (v := .int .i64 U6) rfl
                  have r1 := blk_cell B1 (i := 1) (v := .int .i64 D6) rfl
                  have hle : w.heap.size ≤ w.heap.size + 1 + 1 := by omega
                  have HBX := Lib.hid ((HX.out.up.setCell (p := ⟨w.heap.size + 1 + 1, 0, none⟩) hle (.int .i64 U6)).setCell (p := ⟨w.heap.size + 1 + 1, 1, none⟩) hle (.int .i64 D6))
                  clear d0 d1 f0 f1 m0 m1 B1
                  go_wp2
                  generalize ((x2.setCell ⟨w.heap.size + 1 + 1, 0, none⟩ (.int .i64 U6)).setCell ⟨w.heap.size + 1 + 1, 1, none⟩ (.int .i64 D6)) = WE at *
                  refine bodyPost_ret (v := .agg #[.int .i64 U6, .int .i64 D6]) (by simp [results, Try.results44, go_sem, r0, r1]) rfl ?_
                  exact ⟨rfl, HBX.out⟩

end Go.Proofs.Ytlfljcemcaphcaa

/- KinOf, InbredOf and HelpPays, by the program. -/
namespace Go.Proofs.Ytlfljcemcaphcaa
open Go.RowKit

theorem AF_two {f : List (List Int)} {i j : Int} : AF f [i, j] ↔ KOk f i j :=
  ⟨fun h => ⟨h.1, h.2 0 (by simp), h.2 1 (by simp)⟩, fun h => ⟨h.v, fun k hk => by
    have : k = 0 ∨ k = 1 := by simp at hk; omega
    rcases this with rfl | rfl
    · exact h.i
    · exact h.j⟩⟩
theorem AF_one {f : List (List Int)} {i : Int} : AF f [i] ↔ IOk f i :=
  ⟨fun h => ⟨h.1, h.2 0 (by simp)⟩, fun h => ⟨h.v, fun k hk => by
    have : k = 0 := by simp at hk; omega
    subst this
    exact h.i⟩⟩
theorem Ints.solo (w : World) (x : Int) (hx : -9223372036854775808 ≤ x ∧ x ≤ 9223372036854775807) : Ints (w.alloc (.cells #[.int .i64 x] 3)) (some ⟨w.heap.size, 0, none⟩) 1 1 [x] :=
  ⟨rfl, Nat.le_refl _, by omega, fun z hz => by simp at hz; omega, fun _ => ⟨_, _, rfl, fun k hk => by
    have h : k = 0 := by omega
    subst h
    simp only [World.cell?, Nat.zero_add, heap_alloc_new]; rfl⟩⟩
set_option maxRecDepth 100000 in
set_option maxHeartbeats 4000000 in
theorem KinOf_impl (A : Option Addr) (n c : Nat) (f : List (List Int)) (i j : Int) (w : World) (hx : IntRows w A n c f) (hi : Fit i) (hj : Fit j) :
    Calls Try.prog 19 #[.slice A n c, .int .i64 i, .int .i64 j] w (Ret (.tuple #[kinF f i j, .bool (pb (KOk f i j))]) w) := by
  have hm := hx.max
  have HLN := Lib.hid hx.len
  have HPF0 := Lib.hid (PF.start w)
  have hb2 := below_alloc (w.alloc (.cells #[.int .i64 0, .int .i64 0] 28)) (.cells #[.int .i64 i, .int .i64 j] 3)
  have HPF := Lib.hid (HPF0.out.up hb2)
  have HXA := Lib.hid (hx.keep HPF.out.keep)
  have hnum := Ints.two (w.alloc (.cells #[.int .i64 0, .int .i64 0] 28)) i j hi hj
  rw [World.size_alloc] at hnum
  have HC := Lib.hid (areFolk_any A n c f _ 2 2 [i, j] _ HXA.out hnum)
  rw [pb_congr AF_two] at HC
  clear hx hi hj hb2 hnum HPF0
  by_cases hok : KOk f i j
  · rw [pb_true hok] at HC
    have hv := hok.v
    obtain ⟨i, rfl, hi2⟩ := nat_of hok.i
    obtain ⟨j, rfl, hj2⟩ := nat_of hok.j
    have HPO := Lib.hid (fun W h => peopleOf_any A n c f hv W h)
    have hin : i < n := by rw [← HLN.out]; exact hi2
    have hjn : j < n := by rw [← HLN.out]; exact hj2
    have hn6 : n ≤ 6 := by rw [← HLN.out]; exact hv.n6
    have HK := Lib.hid (fun g W h => kinI_any g n f hv HLN.out (i + j + 1) i j hin hjn (by omega) W h)
    rw [kinF_yes hok, pb_true hok]
    obtain ⟨U, D, hform⟩ := fK_form (kK f i j)
    have HFORM := Lib.hid hform
    rw [hform] at HK
    have HPI : Hid (peV f i = .agg #[.int .i64 i, .int .i64 (g2 f i 0), .int .i64 (g2 f i 1)]) := Lib.hid rfl
    have HPJ : Hid (peV f j = .agg #[.int .i64 j, .int .i64 (g2 f j 0), .int .i64 (g2 f j 1)]) := Lib.hid rfl
    rw [HPI.out, HPJ.out] at HK
    clear hform hok hv hi2 hj2 HPI HPJ
    go_enter Try.func19, Try.ntmps19
    go_wp2_with fail
    refine HC.out.mono ?_
    rintro e w1 ⟨rfl, hq⟩
    have hb := hq.below (B := ((w.alloc (.cells #[.int .i64 0, .int .i64 0] 28)).alloc (.cells #[.int .i64 i, .int .i64 j] 3)).heap.size)
    have HPF := Lib.hid (HPF.out.up hb)
    have HXA := Lib.hid (HXA.out.keep (Keep.below hb))
    clear hb hq HC
    go_wp2_with fail
    refine (HPO.out _ HXA.out).mono ?_
    rintro e w2 ⟨g, rfl, hpe, hb⟩
    have HPF := Lib.hid (HPF.out.up hb)
    have HPE := Lib.hid hpe
    have i0 := hpe.c0 i hin
    have i1 := hpe.c1 i hin
    have i2 := hpe.c2 i hin
    have j0 := hpe.c0 j hjn
    have j1 := hpe.c1 j hjn
    have j2 := hpe.c2 j hjn
    clear hb hpe HPO HXA
    generalize g2 f i 0 = x0 at *
    generalize g2 f i 1 = x1 at *
    generalize g2 f j 0 = y0 at *
    generalize g2 f j 1 = y1 at *
    go_wp2
    go_still_tail 9, (by kernel_rfl)
    have HPF := Lib.hid (show PF w w2.drew from HPF.out.up (Quiet.below ⟨1, rfl⟩))
    have HPE := Lib.hid (show PE w2.drew g n f from HPE.out.keep (Keep.drewN _ 1))
    change wpList _ _ _ _ _ w2.drew
    generalize w2.drew = w3 at *
    go_wp2_with fail
    refine (HK.out _ _ HPE.out).mono ?_
    rintro e w4 ⟨rfl, hb⟩
    have HPF := Lib.hid (HPF.out.up hb)
    clear hb HK i0 i1 i2 j0 j1 j2
    have c0 := blk_cell HPF.out.box (i := 0) rfl
    have c1 := blk_cell HPF.out.box (i := 1) rfl
    have f0 := blk_frozen HPF.out.box 0
    have f1 := blk_frozen HPF.out.box 1
    go_wp2
    clear c0 c1 f0 f1
    have B1 := blk_set (blk_set HPF.out.box 0 (.int .i64 U)) 1 (.int .i64 D)
    have r0 := blk_cell B1 (i := 0) (v := .int .i64 U) rfl
    have r1 := blk_cell B1 (i := 1) (v := .int .i64 D) rfl
    have HBX := Lib.hid ((HPF.out.below.setCell (p := ⟨w.heap.size, 0, none⟩) (Nat.le_refl _) (.int .i64 U)).setCell (p := ⟨w.heap.size, 1, none⟩) (Nat.le_refl _) (.int .i64 D))
    clear B1 HPF
    generalize (w4.setCell ⟨w.heap.size, 0, none⟩ (.int .i64 U)).setCell ⟨w.heap.size, 1, none⟩ (.int .i64 D) = WE at *
    refine bodyPost_ret (v := .tuple #[.agg #[.int .i64 U, .int .i64 D], .bool true]) (by simp [results, Try.results19, go_sem, r0, r1]) rfl ?_
    exact ⟨by rw [HFORM.out], HBX.out⟩
  · rw [pb_false hok] at HC
    rw [kinF_no hok, pb_false hok]
    clear hok
    go_enter Try.func19, Try.ntmps19
    go_wp2_with fail
    refine HC.out.mono ?_
    rintro e w1 ⟨rfl, hq⟩
    have HPF := Lib.hid (HPF.out.up (hq.below (B := ((w.alloc (.cells #[.int .i64 0, .int .i64 0] 28)).alloc (.cells #[.int .i64 i, .int .i64 j] 3)).heap.size)))
    clear hq HC
    have c0 := blk_cell HPF.out.box (i := 0) rfl
    have c1 := blk_cell HPF.out.box (i := 1) rfl
    have f0 := blk_frozen HPF.out.box 0
    have f1 := blk_frozen HPF.out.box 1
    go_wp2
    clear c0 c1 f0 f1
    have B1 := blk_set (blk_set HPF.out.box 0 (.int .i64 0)) 1 (.int .i64 0)
    have r0 := blk_cell B1 (i := 0) (v := .int .i64 0) rfl
    have r1 := blk_cell B1 (i := 1) (v := .int .i64 0) rfl
    have HBX := Lib.hid ((HPF.out.below.setCell (p := ⟨w.heap.size, 0, none⟩) (Nat.le_refl _) (.int .i64 0)).setCell (p := ⟨w.heap.size, 1, none⟩) (Nat.le_refl _) (.int .i64 0))
    clear B1 HPF
    generalize (w1.setCell ⟨w.heap.size, 0, none⟩ (.int .i64 0)).setCell ⟨w.heap.size, 1, none⟩ (.int .i64 0) = WE at *
    refine bodyPost_ret (v := .tuple #[.agg #[.int .i64 0, .int .i64 0], .bool false]) (by simp [results, Try.results19, go_sem, r0, r1]) rfl ?_
    exact ⟨rfl, HBX.out⟩
set_option maxRecDepth 100000 in
set_option maxHeartbeats 4000000 in
theorem InbredOf_impl (A : Option Addr) (n c : Nat) (f : List (List Int)) (i : Int) (w : World) (hx : IntRows w A n c f) (hi : Fit i) :
    Calls Try.prog 22 #[.slice A n c, .int .i64 i] w (Ret (.tuple #[inbF f i, .bool (pb (IOk f i))]) w) := by
  have hm := hx.max
  have HLN := Lib.hid hx.len
  have HPF0 := Lib.hid (PF.start w)
  have hb2 := below_alloc (w.alloc (.cells #[.int .i64 0, .int .i64 0] 28)) (.cells #[.int .i64 i] 3)
  have HPF := Lib.hid (HPF0.out.up hb2)
  have HXA := Lib.hid (hx.keep HPF.out.keep)
  have hnum := Ints.solo (w.alloc (.cells #[.int .i64 0, .int .i64 0] 28)) i hi
  rw [World.size_alloc] at hnum
  have HC := Lib.hid (areFolk_any A n c f _ 1 1 [i] _ HXA.out hnum)
  rw [pb_congr AF_one] at HC
  clear hx hi hb2 hnum HPF0
  by_cases hok : IOk f i
  · rw [pb_true hok] at HC
    have hv := hok.v
    obtain ⟨i, rfl, hi2⟩ := nat_of hok.i
    have HPO := Lib.hid (fun W h => peopleOf_any A n c f hv W h)
    have hin : i < n := by rw [← HLN.out]; exact hi2
    have hn6 : n ≤ 6 := by rw [← HLN.out]; exact hv.n6
    have HK := Lib.hid (fun g W h => inbredI_of (2 * i) g n f hv HLN.out (kinI_any g n f hv HLN.out (2 * i)) i hin (Nat.le_refl _) W h)
    rw [inbF_yes hok, pb_true hok]
    obtain ⟨U, D, hform⟩ := fK_form (bK f i)
    have HFORM := Lib.hid hform
    rw [hform] at HK
    have HPI : Hid (peV f i = .agg #[.int .i64 i, .int .i64 (g2 f i 0), .int .i64 (g2 f i 1)]) := Lib.hid rfl
    rw [HPI.out] at HK
    clear hform hok hv hi2 HPI
    go_enter Try.func22, Try.ntmps22
    go_wp2_with fail
    refine HC.out.mono ?_
    rintro e w1 ⟨rfl, hq⟩
    have hb := hq.below (B := ((w.alloc (.cells #[.int .i64 0, .int .i64 0] 28)).alloc (.cells #[.int .i64 i] 3)).heap.size)
    have HPF := Lib.hid (HPF.out.up hb)
    have HXA := Lib.hid (HXA.out.keep (Keep.below hb))
    clear hb hq HC
    go_wp2_with fail
    refine (HPO.out _ HXA.out).mono ?_
    rintro e w2 ⟨g, rfl, hpe, hb⟩
    have HPF := Lib.hid (HPF.out.up hb)
    have HPE := Lib.hid hpe
    have i0 := hpe.c0 i hin
    have i1 := hpe.c1 i hin
    have i2 := hpe.c2 i hin
    clear hb hpe HPO HXA
    generalize g2 f i 0 = x0 at *
    generalize g2 f i 1 = x1 at *
    go_wp2_with fail
    refine (HK.out _ _ HPE.out).mono ?_
    rintro e w4 ⟨rfl, hb⟩
    have HPF := Lib.hid (HPF.out.up hb)
    clear hb HK i0 i1 i2
    have c0 := blk_cell HPF.out.box (i := 0) rfl
    have c1 := blk_cell HPF.out.box (i := 1) rfl
    have f0 := blk_frozen HPF.out.box 0
    have f1 := blk_frozen HPF.out.box 1
    go_wp2
    clear c0 c1 f0 f1
    have B1 := blk_set (blk_set HPF.out.box 0 (.int .i64 U)) 1 (.int .i64 D)
    have r0 := blk_cell B1 (i := 0) (v := .int .i64 U) rfl
    have r1 := blk_cell B1 (i := 1) (v := .int .i64 D) rfl
    have HBX := Lib.hid ((HPF.out.below.setCell (p := ⟨w.heap.size, 0, none⟩) (Nat.le_refl _) (.int .i64 U)).setCell (p := ⟨w.heap.size, 1, none⟩) (Nat.le_refl _) (.int .i64 D))
    clear B1 HPF
    generalize (w4.setCell ⟨w.heap.size, 0, none⟩ (.int .i64 U)).setCell ⟨w.heap.size, 1, none⟩ (.int .i64 D) = WE at *
    refine bodyPost_ret (v := .tuple #[.agg #[.int .i64 U, .int .i64 D], .bool true]) (by simp [results, Try.results22, go_sem, r0, r1]) rfl ?_
    exact ⟨by rw [HFORM.out], HBX.out⟩
  · rw [pb_false hok] at HC
    rw [inbF_no hok, pb_false hok]
    clear hok
    go_enter Try.func22, Try.ntmps22
    go_wp2_with fail
    refine HC.out.mono ?_
    rintro e w1 ⟨rfl, hq⟩
    have HPF := Lib.hid (HPF.out.up (hq.below (B := ((w.alloc (.cells #[.int .i64 0, .int .i64 0] 28)).alloc (.cells #[.int .i64 i] 3)).heap.size)))
    clear hq HC
    have c0 := blk_cell HPF.out.box (i := 0) rfl
    have c1 := blk_cell HPF.out.box (i := 1) rfl
    have f0 := blk_frozen HPF.out.box 0
    have f1 := blk_frozen HPF.out.box 1
    go_wp2
    clear c0 c1 f0 f1
    have B1 := blk_set (blk_set HPF.out.box 0 (.int .i64 0)) 1 (.int .i64 0)
    have r0 := blk_cell B1 (i := 0) (v := .int .i64 0) rfl
    have r1 := blk_cell B1 (i := 1) (v := .int .i64 0) rfl
    have HBX := Lib.hid ((HPF.out.below.setCell (p := ⟨w.heap.size, 0, none⟩) (Nat.le_refl _) (.int .i64 0)).setCell (p := ⟨w.heap.size, 1, none⟩) (Nat.le_refl _) (.int .i64 0))
    clear B1 HPF
    generalize (w1.setCell ⟨w.heap.size, 0, none⟩ (.int .i64 0)).setCell ⟨w.heap.size, 1, none⟩ (.int .i64 0) = WE at *
    refine bodyPost_ret (v := .tuple #[.agg #[.int .i64 0, .int .i64 0], .bool false]) (by simp [results, Try.results22, go_sem, r0, r1]) rfl ?_
    exact ⟨rfl, HBX.out⟩

end Go.Proofs.Ytlfljcemcaphcaa

