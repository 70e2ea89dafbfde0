/- Texts merged: KQ4 KN6. -/
import Derived.Test.YtjmfkodbilknlaaQ13
import Derived.Lib.SliceRun
/- Rows of people of their own: a copy, and one person more. -/
namespace Go.Proofs.Ytjmfkodbilknlaa
open Go.RowKit

/-- The cells of a row of people. -/
def pcI (f : List (List Int)) : List Nat → List Int
  | [] => []
  | k :: r => (k : Int) :: g2 f k 0 :: g2 f k 1 :: pcI f r
theorem pcI_len (f : List (List Int)) : ∀ r, (pcI f r).length = r.length * 3
  | [] => rfl
  | k :: r => by rw [pcI, List.length_cons, List.length_cons, List.length_cons, pcI_len f r, List.length_cons]; omega
theorem pcI_app (f : List (List Int)) : ∀ r s, pcI f (r ++ s) = pcI f r ++ pcI f s
  | [], s => rfl
  | k :: r, s => by rw [List.cons_append, pcI, pcI, pcI_app f r s]; rfl
theorem pcI_at (f : List (List Int)) : ∀ (r : List Nat) (k : Nat), k < r.length → (pcI f r)[k * 3]? = some (r.getD k 0 : Int) ∧ (pcI f r)[k * 3 + 1]? = some (g2 f (r.getD k 0) 0) ∧ (pcI f r)[k * 3 + 2]? = some (g2 f (r.getD k 0) 1)
  | [], k, h => absurd h (by simp)
  | x :: r, 0, _ => ⟨rfl, rfl, rfl⟩
  | x :: r, k + 1, h => by
    have := pcI_at f r k (by simpa using h)
    have e : (k + 1) * 3 = k * 3 + 1 + 1 + 1 := by omega
    rw [e, pcI]
    exact this
/-- The cells lie there. -/
theorem Pers.flat {f W b o n c r} (h : Pers f W (some ⟨b, o, none⟩) n c r) (j : Nat) (u : Value) (hu : ((pcI f r).map iv)[j]? = some u) : W.cell? (Addr.add ⟨b, o, none⟩ j) = some u := by
  have hlt : j < ((pcI f r).map iv).length := (List.getElem?_eq_some_iff.1 hu).1
  rw [List.length_map, pcI_len, h.len] at hlt
  obtain ⟨b', o', e, hc⟩ := h.at_ (by omega)
  injection e with e
  injection e with e1 e2 _
  subst e1 e2
  obtain ⟨k, i, hi, rfl⟩ : ∃ k i, i < 3 ∧ j = k * 3 + i := ⟨j / 3, j % 3, by omega, by omega⟩
  have hk : k < n := by omega
  obtain ⟨c1, c2, c3⟩ := hc k hk
  obtain ⟨p1, p2, p3⟩ := pcI_at f r k (by rw [h.len]; exact hk)
  rw [List.getElem?_map] at hu
  have hadd : ∀ x, Addr.add ⟨b, o, none⟩ x = ⟨b, o + x, none⟩ := fun x => by simp [Addr.add]
  rw [hadd, ← Nat.add_assoc]
  match i, hi with
  | 0, _ => rw [Nat.add_zero, p1] at hu; injection hu with hu; subst hu; exact c1
  | 1, _ => rw [p2] at hu; injection hu with hu; subst hu; exact c2
  | 2, _ => rw [p3] at hu; injection hu with hu; subst hu; exact c3
theorem pc_one (f : List (List Int)) (r : List Nat) : ∀ u ∈ (pcI f r).map iv, u.oneCell' = true := by
  intro u hu
  obtain ⟨x, _, rfl⟩ := List.mem_map.1 hu
  rfl
/-- A row of people that an append made. -/
structure PerO (f : List (List Int)) (lo : Nat) (W : World) (v : Value) (r : List Nat) : Prop where
  own : W.ownsRow lo 65 3 v r.length ((pcI f r).map iv)
theorem PerO.pers {f lo W v r} (h : PerO f lo W v r) (hn : 0 < r.length) (hm : r.length ≤ 1000) : ∃ c g, v = .slice (some ⟨g, 0, none⟩) r.length c ∧ lo ≤ g ∧ Pers f W (some ⟨g, 0, none⟩) r.length c r := by
  rcases h.own.2 with ⟨rfl, h0⟩ | ⟨g, cap, cur, rfl, hb, hg, hnc, _, hcs, htake⟩
  · omega
  · refine ⟨cap, g, rfl, hb, ⟨rfl, hnc, hm, fun _ => ⟨g, 0, rfl, fun k hk => ?_⟩⟩⟩
    obtain ⟨p1, p2, p3⟩ := pcI_at f r k hk
    have key : ∀ i x, i < 3 → (pcI f r)[k * 3 + i]? = some x → W.cell? ⟨g, 0 + k * 3 + i, none⟩ = some (.int .i64 x) := fun i x hi hx => by
      have hx2 : ((pcI f r).map iv)[k * 3 + i]? = some (iv x) := by rw [List.getElem?_map, hx]; rfl
      rw [← htake, List.getElem?_take, if_pos (by omega)] at hx2
      rw [Nat.zero_add]
      have hx3 : cur[k * 3 + i]? = some (iv x) := by simpa using hx2
      simp [World.cell?, hg, hx3, iv]
    exact ⟨key 0 _ (by omega) p1, key 1 _ (by omega) p2, key 2 _ (by omega) p3⟩
theorem PerO.below {f lo W W' v r} (h : PerO f lo W v r) (k : Below W.heap.size W W') : PerO f lo W' v r := ⟨blk_kept h.own fun g hg => k.block g (h.own.lt g hg).2⟩
theorem Try.infoP : (Try.prog.info? 65).map (fun i => (i.zero, i.size, i.bytes)) = some (some (.agg #[.int .i64 0, .int .i64 0, .int .i64 0]), 3, 24) := by kernel_rfl
set_option maxRecDepth 100000 in
set_option maxHeartbeats 2000000 in
theorem cloneQ_any (f : List (List Int)) (A : Option Addr) (n c : Nat) (r : List Nat) (w : World) (hp : Pers f w A n c r) (hn : 0 < n) :
    Calls Try.prog 91 #[.slice A n c] w fun e w' => ∃ v, e = .returned v ∧ PerO f w.heap.size w' v r ∧ Below w.heap.size w w' := by
  have hm := hp.max
  obtain ⟨b, o, rfl, _⟩ := hp.at_ hn
  have hb := below_alloc w (.cells #[] 65)
  have HFL := Lib.hid ((hp.keep (Keep.below hb)).flat)
  have HLN := Lib.hid (show ((pcI f r).map iv).length = n * 3 by rw [List.length_map, pcI_len, hp.len])
  have HL := Lib.hid hp.len
  have HB := Lib.hid hb
  have HONE := Lib.hid (pc_one f r)
  have HOWN := Lib.hid (World.ownsRow_made (e := 65) (size := 3) (base := w.heap.size) w #[] 0 (Nat.le_refl _) (Nat.zero_le _) rfl)
  clear hp hb
  have qT : ∀ (w : World) (a : Option Addr) (n c n' c' : Nat), (binOp .eql 58 (.slice a n c) (.slice none n' c')).run Try.prog w = .ok (.bool a.isNone) w := fun w a n c n' c' => Lib.run_eql_slice_nil w _ _ a n c n' c' Try.underlying58
  obtain ⟨i0, hi0, hz0, hz1, hz2⟩ := info_parts Try.infoP
  obtain ⟨news, hnews⟩ : ∃ x, x = (pcI f r).map iv := ⟨_, rfl⟩
  rw [← hnews] at HFL HLN HONE
  have HNW := Lib.hid hnews
  clear hnews
  go_enter Try.func91, Try.ntmps91
  go_wp2_with (at_builtin; refine wpList_append_own_at _ rfl _ _ 58 rfl w.heap.size 65 i0 (.agg #[.int .i64 0, .int .i64 0, .int .i64 0]) 3 24 Try.underlying58 hi0 hz0 hz1 hz2 rfl (by decide) _ 0 [] rfl HOWN.out ⟨b, o, none⟩ n c news rfl HLN.out ?c1 ?c2 ?c3 ?c4 ?c5 ?_)
  case c1 => exact HFL.out
  case c2 => exact HONE.out
  case c3 => unfold maxLen; omega
  case c4 => omega
  case c5 => simp
  intro v' w8 hown' hgrow _ hat
  have HO := Lib.hid hown'
  have HG : Hid (Below w.heap.size w w8) := Lib.hid (HB.out.trans (by
    refine ⟨hgrow.os, hgrow.tape, hgrow.output, hgrow.size, fun k hk => hgrow.block k (by simp; omega) (fun e => ?_)⟩
    simp [Value.ownBlock] at e; omega))
  clear hown' hgrow hat HOWN
  go_wp2
  go_ret
  exact ⟨v', rfl, ⟨by rw [HL.out, ← HNW.out]; exact HO.out⟩, HG.out⟩
end Go.Proofs.Ytjmfkodbilknlaa

/- Parents and halves, by the program. -/
namespace Go.Proofs.Ytjmfkodbilknlaa
open Go.RowKit

/-- Both parents, in block h. -/
def P2 (w : World) (h : Nat) (f : List (List Int)) (p q : Nat) : Prop :=
  (w.cell? ⟨h, 0, none⟩ = some (.int .i64 p) ∧ w.cell? ⟨h, 1, none⟩ = some (.int .i64 (g2 f p 0)) ∧ w.cell? ⟨h, 2, none⟩ = some (.int .i64 (g2 f p 1))) ∧
  (w.cell? ⟨h, 3, none⟩ = some (.int .i64 q) ∧ w.cell? ⟨h, 4, none⟩ = some (.int .i64 (g2 f q 0)) ∧ w.cell? ⟨h, 5, none⟩ = some (.int .i64 (g2 f q 1)))
theorem P2.keep {w w' h f p q} (x : P2 w h f p q) (k : Keep w w') : P2 w' h f p q :=
  ⟨⟨k _ _ x.1.1, k _ _ x.1.2.1, k _ _ x.1.2.2⟩, ⟨k _ _ x.2.1, k _ _ x.2.2.1, k _ _ x.2.2.2⟩⟩
theorem P2.set {w h f p q a} (x : P2 w h f p q) (hne : h ≠ a) (k : Nat) (u : Value) : P2 (w.setCell ⟨a, k, none⟩ u) h f p q := by
  have o : ∀ j, (w.setCell ⟨a, k, none⟩ u).cell? ⟨h, j, none⟩ = w.cell? ⟨h, j, none⟩ := fun j => World.cell?_setCell_other w _ _ _ (fun e => by injection e with e _ _; first | exact hne e | exact hne e.symm)
  exact ⟨⟨by rw [o]; exact x.1.1, by rw [o]; exact x.1.2.1, by rw [o]; exact x.1.2.2⟩, ⟨by rw [o]; exact x.2.1, by rw [o]; exact x.2.2.1, by rw [o]; exact x.2.2.2⟩⟩
set_option maxRecDepth 100000 in
set_option maxHeartbeats 1600000 in
theorem parentsNone_any (S : Value) (f : List (List Int)) (i : Nat) (h : g2 f i 0 = -1) (w : World) :
    Calls Try.prog 74 #[S, peV f i] w (Ret (.slice none 0 0) w) := by
  unfold peV
  rw [h]
  generalize g2 f i 1 = y
  have HB := Lib.hid (below_alloc w (.cells #[.int .i64 i, .int .i64 (-1), .int .i64 y] 65))
  have b0 := blk_new w 65 #[.int .i64 i, .int .i64 (-1), .int .i64 y]
  have c1 := blk_cell b0 (i := 1) rfl
  clear b0 h
  go_enter Try.func74, Try.ntmps74
  go_wp2
  go_ret
  exact ⟨rfl, HB.out⟩
set_option maxRecDepth 100000 in
set_option maxHeartbeats 1600000 in
theorem parentsTwo_any (g n : Nat) (f : List (List Int)) (i p q : Nat) (hp : g2 f i 0 = p) (hq : g2 f i 1 = q) (hpn : p < n) (hqn : q < n) (w : World) (HE : PE w g n f) :
    Calls Try.prog 74 #[.slice (some ⟨g, 0, none⟩) n n, peV f i] w fun e w' => ∃ h, e = .returned (.slice (some ⟨h, 0, none⟩) 2 2) ∧ P2 w' h f p q ∧ w.heap.size ≤ h ∧ Below w.heap.size w w' := by
  unfold peV
  rw [hp, hq]
  have HB := Lib.hid (below_alloc w (.cells #[.int .i64 i, .int .i64 p, .int .i64 q] 65))
  have b0 := blk_new w 65 #[.int .i64 i, .int .i64 p, .int .i64 q]
  have c1 := blk_cell b0 (i := 1) rfl
  have c2 := blk_cell b0 (i := 2) rfl
  have HE1 := HE.keep (Keep.below HB.out)
  have p0 := HE1.c0 p hpn
  have p1 := HE1.c1 p hpn
  have p2 := HE1.c2 p hpn
  have q0 := HE1.c0 q hqn
  have q1 := HE1.c1 q hqn
  have q2 := HE1.c2 q hqn
  have HP2 := Lib.hid (fun (W : World) => show P2 (W.alloc (.cells #[.int .i64 p, .int .i64 (g2 f p 0), .int .i64 (g2 f p 1), .int .i64 q, .int .i64 (g2 f q 0), .int .i64 (g2 f q 1)] 65)) W.heap.size f p q from by
    have b := blk_new W 65 #[.int .i64 p, .int .i64 (g2 f p 0), .int .i64 (g2 f p 1), .int .i64 q, .int .i64 (g2 f q 0), .int .i64 (g2 f q 1)]
    exact ⟨⟨blk_cell b (i := 0) rfl, blk_cell b (i := 1) rfl, blk_cell b (i := 2) rfl⟩, ⟨blk_cell b (i := 3) rfl, blk_cell b (i := 4) rfl, blk_cell b (i := 5) rfl⟩⟩)
  have hne : ((p : Int) == -1) = false := by simp
  clear b0 HE HE1 hp hq
  generalize hx0 : g2 f p 0 = x0 at *
  generalize hx1 : g2 f p 1 = x1 at *
  generalize hy0 : g2 f q 0 = y0 at *
  generalize hy1 : g2 f q 1 = y1 at *
  clear hx0 hx1 hy0 hy1
  go_enter Try.func74, Try.ntmps74
  go_wp2
  generalize w.alloc (.cells #[.int .i64 i, .int .i64 p, .int .i64 q] 65) = w0 at *
  go_still_tail 10, (by kernel_rfl)
  have HB0 := Lib.hid (below_quiet HB.out (show Quiet w0 w0.drew from ⟨1, rfl⟩))
  change wpList _ _ _ _ _ w0.drew
  generalize w0.drew = w1 at *
  have HB2 := Lib.hid (below_up HB0.out (below_alloc w1 (.cells #[.int .i64 p, .int .i64 x0, .int .i64 x1, .int .i64 q, .int .i64 y0, .int .i64 y1] 65)))
  go_wp2
  go_ret
  exact ⟨_, rfl, HP2.out _, HB0.out.size, HB2.out⟩
/-- Two boxes of fractions, one behind the other: what was given, and the result's. -/
structure HX2 (w : World) (U D : Int) (W : World) : Prop where
  b0 : Blk W w.heap.size 25 #[.int .i64 U, .int .i64 D]
  b1 : Blk W (w.heap.size + 1) 25 #[.int .i64 0, .int .i64 0]
  up : Below w.heap.size w W
theorem HX2.start (w : World) (U D : Int) : HX2 w U D ((w.alloc (.cells #[.int .i64 U, .int .i64 D] 25)).alloc (.cells #[.int .i64 0, .int .i64 0] 25)) := by
  have b := blk_new (w.alloc (.cells #[.int .i64 U, .int .i64 D] 25)) 25 #[.int .i64 0, .int .i64 0]
  rw [World.size_alloc] at b
  exact ⟨blk_old (blk_new w _ _) _, b, below_up (below_alloc _ _) (below_alloc _ _)⟩
theorem HX2.next {w U D W W'} (h : HX2 w U D W) (k : Below W.heap.size W W') : HX2 w U D W' := ⟨blk_below h.b0 k, blk_below h.b1 k, below_up h.up k⟩
theorem pow2_bd {t : Nat} (h : t ≤ 11) : (1 : Int) ≤ 2 ^ t ∧ (2 : Int) ^ t ≤ 2048 := by
  rcases (show t = 0 ∨ t = 1 ∨ t = 2 ∨ t = 3 ∨ t = 4 ∨ t = 5 ∨ t = 6 ∨ t = 7 ∨ t = 8 ∨ t = 9 ∨ t = 10 ∨ t = 11 by omega) with rfl | rfl | rfl | rfl | rfl | rfl | rfl | rfl | rfl | rfl | rfl | rfl <;> decide
set_option maxRecDepth 100000 in
set_option maxHeartbeats 2000000 in
theorem halved_any (b : Int) (t : Nat) (hb : 0 ≤ b ∧ b ≤ 64) (ht : t ≤ 11) (w : World) :
    Calls Try.prog 47 #[fK b, .int .i64 t] w (Ret (frV (64 + b) (64 * 2 ^ t)) w) := by
  have hpw := pow2_bd ht
  obtain ⟨U, D, hform⟩ : ∃ U D, frV (64 + b) (64 * 2 ^ t) = .agg #[.int .i64 U, .int .i64 D] := ⟨_, _, rfl⟩
  have HFORM := Lib.hid hform
  obtain ⟨UB, DB, hfb⟩ := fK_form b
  have HFB := Lib.hid hfb
  have HF1 := Lib.hid (fun W => fracK_impl 1 1 64 W (by omega) (by omega) rfl)
  have HPL := Lib.hid (fun W => plusK_impl 64 b W (by omega) (by omega))
  have HF2 := Lib.hid (fun W => fracOf_any (2 ^ t) 1 W (by unfold Mid; omega) (by unfold Mid; omega) (by omega))
  have HOV := Lib.hid (fun W => overK_impl (64 + b) 64 (2 ^ t) 1 (64 + b) (64 * 2 ^ t) W (by omega) (by omega) (by omega) (by omega) (by omega) (by rw [Int.mul_one]))
  have HOV2 : Hid (∀ W, Calls Try.prog 73 #[fK (64 + b), frV (2 ^ t) 1] W (Ret (.agg #[.int .i64 U, .int .i64 D]) W)) := Lib.hid (fun W => by have := HOV.out W; rw [hform] at this; exact this)
  rw [hfb] at HPL ⊢
  rw [hform]
  have HSH : Hid (IntKind.i64.wrap (2 ^ t) = 2 ^ t) := Lib.hid (wrap_in64 (by omega))
  have HG := Lib.hid (HX2.start w UB DB)
  have c0 := blk_cell HG.out.b0 (i := 0) rfl
  have c1 := blk_cell HG.out.b0 (i := 1) rfl
  have hsh := HSH.out
  clear hform hfb hb hpw HOV
  go_enter Try.func47, Try.ntmps47
  go_wp2
  generalize (w.alloc (.cells #[.int .i64 UB, .int .i64 DB] 25)).alloc (.cells #[.int .i64 0, .int .i64 0] 25) = w0 at *
  go_region_law ((first
    | (go_simp; go_at_call 44; (with_reducible refine (HF1.out _).mono ?_); rintro e v1 ⟨rfl, hb⟩; have HG := Lib.hid ((HG.out.next (Quiet.below ⟨1, rfl⟩)).next hb); have c0 := blk_cell HG.out.b0 (i := 0) rfl; have c1 := blk_cell HG.out.b0 (i := 1) rfl; clear hb)
    | (go_simp; go_at_call 46; (with_reducible refine (HPL.out _).mono ?_); rintro e v2 ⟨rfl, hb⟩; have HG := Lib.hid (HG.out.next hb); clear hb)
    | (go_simp; go_at_call 44; (with_reducible refine (HF2.out _).mono ?_); rintro e v3 ⟨rfl, hb⟩; have HG := Lib.hid (HG.out.next hb); clear hb)
    | (go_simp; go_at_call 73; (with_reducible refine (HOV2.out _).mono ?_); rintro e v4 ⟨rfl, hb⟩; have HG := Lib.hid (HG.out.next hb); have d0 := blk_cell HG.out.b1 (i := 0) rfl; have d1 := blk_cell HG.out.b1 (i := 1) rfl; have f0 := blk_frozen HG.out.b1 0; have f1 := blk_frozen HG.out.b1 1; clear hb)
    | fail))
  all_goals
    have B1 := blk_set (blk_set HG.out.b1 0 (.int .i64 U)) 1 (.int .i64 D)
    have r0 := blk_cell B1 (i := 0) (v := .int .i64 U) rfl
    have r1 := blk_cell B1 (i := 1) (v := .int .i64 D) rfl
    have HBX := Lib.hid ((HG.out.up.setCell (p := ⟨w.heap.size + 1, 0, none⟩) (Nat.le_succ _) (.int .i64 U)).setCell (p := ⟨w.heap.size + 1, 1, none⟩) (Nat.le_succ _) (.int .i64 D))
    clear c0 c1 d0 d1 f0 f1 B1
    go_wp2
    generalize ((v4.setCell ⟨w.heap.size + 1, 0, none⟩ (.int .i64 U)).setCell ⟨w.heap.size + 1, 1, none⟩ (.int .i64 D)) = WE at *
    refine bodyPost_ret (v := .agg #[.int .i64 U, .int .i64 D]) (by simp [results, Try.results47, go_sem, r0, r1]) rfl ?_
    exact ⟨rfl, HBX.out⟩

end Go.Proofs.Ytjmfkodbilknlaa

