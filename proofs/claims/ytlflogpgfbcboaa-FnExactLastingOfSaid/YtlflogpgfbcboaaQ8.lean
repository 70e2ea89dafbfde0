/- Texts merged: C98 H1 C96. -/
import Derived.Test.YtlflogpgfbcboaaQ7
import Derived.Lib.SliceRun
import Derived.Deep.Upon
/- slices.DeleteFunc: the ways that do not lead to the root are struck out. -/
namespace Go.Proofs.Ytlflogpgfbcboaa
open Go.RowKit

/-- All cells but those of one block read as they did. -/
def KB (b : Nat) (w w' : World) : Prop := ∀ p u, p.block ≠ b → w.cell? p = some u → w'.cell? p = some u
theorem KB.refl (b : Nat) (w : World) : KB b w w := fun _ _ _ h => h
theorem KB.trans {b : Nat} {w w1 w2 : World} (h : KB b w w1) (k : KB b w1 w2) : KB b w w2 := fun p u hp e => k p u hp (h p u hp e)
theorem KB.keep {b : Nat} {w w' : World} (h : Keep w w') : KB b w w' := fun p u _ e => h p u e
theorem KB.of_heap {b : Nat} {w w' : World} (h : ∀ k, k < w.heap.size → k ≠ b → w'.heap[k]? = w.heap[k]?) : KB b w w' := fun p u hp e => by
  rw [World.cell?_of_block (w := w) (h _ (World.block_lt_of_cell? w p e) hp)]; exact e
theorem KB.set (b : Nat) (w : World) (i : Nat) (u : Value) : KB b w (w.setCell ⟨b, i, none⟩ u) := .of_heap fun _ _ hk => Below.heap_setCell _ _ _ _ hk
theorem KB.sets (b : Nat) (w : World) (o : Nat) (vs : List Value) : KB b w (w.setCells b o vs) := fun p u hp e => by
  rw [World.cell?_setCells_out _ _ _ _ _ (fun h _ => absurd h hp)]; exact e
theorem below_sets {B b : Nat} {a : World} (hb : B ≤ b) : ∀ (vs : List Value) (o : Nat) (w : World), Below B a w → Below B a (w.setCells b o vs)
  | [], _, _, h => h
  | v :: vs, o, _, h => below_sets hb vs (o + 1) _ (h.setCell (p := ⟨b, o, none⟩) hb v)
/-- Ints that do not lie in a block. -/
structure IntsN (b : Nat) (w : World) (A : Option Addr) (n c : Nat) (xs : List Int) : Prop where
  ints : Ints w A n c xs
  ne : ∀ p, A = some p → 0 < n → p.block ≠ b
theorem IntsN.kb {b w w' A n c xs} (h : IntsN b w A n c xs) (k : KB b w w') : IntsN b w' A n c xs :=
  ⟨⟨h.ints.len, h.ints.cap, h.ints.max, h.ints.wf, fun hn => let ⟨q, o, e, hc⟩ := h.ints.at_ hn; ⟨q, o, e, fun i hi => k _ _ (show q ≠ b from h.ne _ e hn) (hc i hi)⟩⟩, h.ne⟩
/-- Which are kept, of the first ones. -/
def kp (f : Nat → Bool) (j : Nat) : List Nat := (List.range j).filter f
theorem kq_le (f : Nat → Bool) (j : Nat) : (kp f j).length ≤ j := by have := List.length_filter_le f (List.range j); rw [List.length_range] at this; exact this
theorem kq_yes {f : Nat → Bool} {j : Nat} (h : f j = true) : kp f (j + 1) = kp f j ++ [j] := by simp [kp, List.range_succ, List.filter_append, h]
theorem kq_no {f : Nat → Bool} {j : Nat} (h : f j = false) : kp f (j + 1) = kp f j := by simp [kp, List.range_succ, List.filter_append, h]
theorem kq_all {f : Nat → Bool} {j : Nat} (h : ∀ k, k < j → f k = true) : kp f j = List.range j := List.filter_eq_self.2 fun k hk => h k (List.mem_range.1 hk)
theorem kq_lt {f : Nat → Bool} {j k : Nat} (h : k < (kp f j).length) : (kp f j).getD k 0 < j := by
  rw [List.getD_eq_getElem?_getD, List.getElem?_eq_getElem h]
  exact List.mem_range.1 (List.mem_filter.1 (List.getElem_mem h)).1
/-- What lies in a place when the first j have been looked at. -/
def curD (f : Nat → Bool) (V : Nat → Value) (j k : Nat) : Value := if k < (kp f j).length then V ((kp f j).getD k 0) else V k
theorem curD_at {f : Nat → Bool} {V : Nat → Value} {j k : Nat} (h : j ≤ k) : curD f V j k = V k := by
  have := kq_le f j
  rw [curD, if_neg (by omega)]
theorem curD_all {f : Nat → Bool} {V : Nat → Value} {j : Nat} (h : ∀ k, k < j → f k = true) (k : Nat) : curD f V j k = V k := by
  unfold curD; split
  · rename_i h1
    rw [kq_all h] at h1 ⊢
    rw [List.length_range] at h1
    rw [List.getD_eq_getElem?_getD, List.getElem?_range h1]; rfl
  · rfl
theorem curD_no {f : Nat → Bool} {V : Nat → Value} {j : Nat} (h : f j = false) (k : Nat) : curD f V (j + 1) k = curD f V j k := by unfold curD; rw [kq_no h]
theorem curD_yes {f : Nat → Bool} {V : Nat → Value} {j : Nat} (h : f j = true) (k : Nat) : curD f V (j + 1) k = if k = (kp f j).length then V j else curD f V j k := by
  unfold curD
  rw [kq_yes h, List.length_append, List.length_singleton]
  by_cases e : k = (kp f j).length
  · subst e
    rw [if_pos (by omega), if_pos rfl]
    simp [List.getD_eq_getElem?_getD]
  · rw [if_neg e]
    by_cases h1 : k < (kp f j).length
    · rw [if_pos (by omega), if_pos h1]
      rw [List.getD_eq_getElem?_getD, List.getElem?_append_left h1, List.getD_eq_getElem?_getD]
    · rw [if_neg (by omega), if_neg h1]
theorem filter_kp (p : List Int → Bool) (xss : List (List Int)) : xss.filter p = (kp (fun k => p (gr xss k)) xss.length).map (gr xss) := by
  have e : xss = (List.range xss.length).map (gr xss) := by
    apply List.ext_getElem
    · simp
    · intro i h1 h2; simp [gr_get h1]
  have : xss.filter p = ((List.range xss.length).map (gr xss)).filter p := by rw [← e]
  rw [this, List.filter_map]; rfl
theorem gr_map_kp {xss : List (List Int)} {l : List Nat} {k : Nat} (h : k < l.length) : gr (l.map (gr xss)) k = gr xss (l.getD k 0) := by
  rw [gr_get (by rw [List.length_map]; exact h), List.getElem_map, List.getD_eq_getElem?_getD, List.getElem?_eq_getElem h]; rfl

/-- Rows in one block's places, each elsewhere; the root in its box. -/
structure DFr (b N r px n : Nat) (V : Nat → Value) (xss : List (List Int)) (W : World) : Prop where
  ln : xss.length = N
  n64 : N ≤ 64
  n4 : n ≤ 4
  rows : ∀ k, k < N → ∃ R C, V k = .slice R n C ∧ IntsN b W R n C (gr xss k)
  ok : ∀ k, k < N → InB (gr xss k) ∧ nx (gr xss k) r = r
  box : W.cell? ⟨px, 0, none⟩ = some (.int .i64 r)
  pne : px ≠ b
theorem DFr.kb {b N r px n V xss W W'} (h : DFr b N r px n V xss W) (k : KB b W W') : DFr b N r px n V xss W' :=
  ⟨h.ln, h.n64, h.n4, fun i hi => let ⟨R, C, e, hh⟩ := h.rows i hi; ⟨R, C, e, hh.kb k⟩, h.ok, k _ _ h.pne h.box, h.pne⟩
/-- .. and what lies in the places now. -/
structure DFd (wb : World) (b N r px n : Nat) (V : Nat → Value) (xss : List (List Int)) (f : Nat → Bool) (j : Nat) (W : World) : Prop where
  st : DFr b N r px n V xss W
  up : Below wb.heap.size wb W
  lo : wb.heap.size ≤ b
  cell : ∀ k, k < N → W.cell? ⟨b, k, none⟩ = some (curD f V j k)
  frz : ∀ k, k < N → W.frozen? ⟨b, k, none⟩ = false
theorem DFd.next {wb b N r px n V xss f j W W'} (h : DFd wb b N r px n V xss f j W) (k : Below W.heap.size W W') : DFd wb b N r px n V xss f j W' :=
  ⟨h.st.kb (KB.keep (Keep.below k)), below_up h.up k, h.lo, fun i hi => Keep.below k _ _ (h.cell i hi), fun i hi => by
    rw [World.frozen?_of_block (w := W) (k.block b (World.block_lt_of_cell? W _ (h.cell i hi)))]; exact h.frz i hi⟩
theorem DFd.no {wb b N r px n V xss f j W} (h : DFd wb b N r px n V xss f j W) (hf : f j = false) : DFd wb b N r px n V xss f (j + 1) W :=
  ⟨h.st, h.up, h.lo, fun k hk => by rw [curD_no hf]; exact h.cell k hk, h.frz⟩
theorem DFd.yes {wb b N r px n V xss f j W} (h : DFd wb b N r px n V xss f j W) (hf : f j = true) (hj : j < N) : DFd wb b N r px n V xss f (j + 1) (W.setCell ⟨b, (kp f j).length, none⟩ (V j)) := by
  have hle := kq_le f j
  have hc := h.cell _ (show (kp f j).length < N by omega)
  refine ⟨h.st.kb (KB.set _ _ _ _), h.up.setCell (p := ⟨b, _, none⟩) h.lo _, h.lo, fun k hk => ?_, fun k hk => ?_⟩
  · rw [curD_yes hf]
    by_cases e : k = (kp f j).length
    · subst e; rw [if_pos rfl]; exact World.cell?_setCell_same _ _ _ hc
    · rw [if_neg e, World.cell?_setCell_other _ _ _ _ (by intro e2; injection e2 with _ e2 _; exact e e2.symm)]
      exact h.cell k hk
  · rw [World.frozen?_setCell]; exact h.frz k hk
/-- The rows that are kept. -/
def KeptR (wb : World) (yss : List (List Int)) (e : Ending) (w' : World) : Prop := ∃ A c, e = .returned (.slice A yss.length c) ∧ IntRows w' A yss.length c yss ∧ Below wb.heap.size wb w'

set_option maxRecDepth 100000 in
set_option maxHeartbeats 1600000 in
theorem IndexFunc_any (wb : World) (b N r px n cap : Nat) (V : Nat → Value) (xss : List (List Int)) (f : Nat → Bool) (W : World) (h : DFd wb b N r px n V xss f 0 W) (hf : ∀ k, k < N → f k = ldB (gr xss k) r) :
    Calls Try.prog 61 #[.slice (some ⟨b, 0, none⟩) N cap, .func (.func 51) #[] #[.pointer (some ⟨px, 0, none⟩)]] W fun e W' => (∃ v : Int, e = .returned (.int .i64 v) ∧ ((∃ i : Nat, i < N ∧ v = i ∧ f i = false ∧ ∀ k, k < i → f k = true) ∨ (v = -1 ∧ ∀ k, k < N → f k = true))) ∧ Below W.heap.size W W' := by
  have H := Lib.hid h
  have HF := Lib.hid hf
  have h64 := h.st.n64
  clear h hf
  go_enter Try.func61, Try.ntmps61
  go_wp2
  go_loopw [8] (fun i wr => ∃ k : Nat, k ≤ N ∧ i = .int .i64 k ∧ Hid (∀ j, j < k → f j = true) ∧ Hid (DFd wb b N r px n V xss f 0 wr) ∧ Hid (Below W.heap.size W wr)) (fun i _ => N - (intOf i).toNat)
  case atStart => exact ⟨0, Nat.zero_le _, rfl, Lib.hid (fun _ h => absurd h (by omega)), H, Lib.hid (Below.refl _ _)⟩
  case round =>
    clear H
    obtain ⟨k, hk, rfl, HALL, H, HB⟩ := hrel
    by_cases hlt : k < N
    · have c1 := H.out.cell k hlt
      obtain ⟨R, C, hV, hI⟩ := H.out.st.rows k hlt
      rw [curD_at (Nat.zero_le _), hV] at c1
      have HC := Lib.hid (treesTo1_any px r R n C (gr xss k) wr hI.ints (H.out.st.ok k hlt).1 H.out.st.n4 (H.out.st.ok k hlt).2 H.out.st.box)
      rw [← HF.out k hlt] at HC
      clear hI hV
      cases hfk : f k
      · rw [hfk] at HC
        have HFK := Lib.hid hfk
        clear hfk
        go_wp2_with fail
        refine HC.out.mono ?_
        rintro e w2 ⟨rfl, hb⟩
        have HB2 := Lib.hid (below_up HB.out hb)
        clear HC hb
        go_wp2
        go_ret
        exact ⟨⟨_, rfl, .inl ⟨k, hlt, rfl, HFK.out, HALL.out⟩⟩, HB2.out⟩
      · rw [hfk] at HC
        have HFK := Lib.hid hfk
        clear hfk
        go_wp2_with fail
        refine HC.out.mono ?_
        rintro e w2 ⟨rfl, hb⟩
        have HB2 := Lib.hid (below_up HB.out hb)
        have H2 := Lib.hid (H.out.next hb)
        clear HC hb H HB c1
        go_wp2
        go_roundw
        case rel => exact ⟨k + 1, by omega, by go_num, Lib.hid (fun j hj => by
          by_cases e : j = k
          · subst e; exact HFK.out
          · exact HALL.out j (by omega)), H2, HB2⟩
        case measure => simp [intOf]; omega
    · obtain rfl : k = N := by omega
      go_wp2
      go_ret
      exact ⟨⟨_, rfl, .inr ⟨rfl, HALL.out⟩⟩, HB.out⟩
theorem DFd.done {wb b N r px n V xss f W} (h : DFd wb b N r px n V xss f N W) (hf : ∀ k, k < N → f k = ldB (gr xss k) r) (cap : Nat) (hcap : N ≤ cap) (hN : 0 < N) :
    KeptR wb (xss.filter fun t => ldB t r) (.returned (.slice (some ⟨b, 0, none⟩) (kp f N).length cap)) (W.setCells b (kp f N).length (List.replicate (N - (kp f N).length) (.slice none 0 0))) := by
  have hle := kq_le f N
  have h64 := h.st.n64
  have e1 : xss.filter (fun t => ldB t r) = (kp f N).map (gr xss) := by
    rw [filter_kp, h.st.ln]
    congr 1
    exact List.filter_congr fun k hk => (hf k (List.mem_range.1 hk)).symm
  have el : (xss.filter fun t => ldB t r).length = (kp f N).length := by rw [e1, List.length_map]
  refine ⟨some ⟨b, 0, none⟩, cap, by rw [el], ?_, below_sets h.lo _ _ _ h.up⟩
  rw [el, e1]
  refine ⟨by rw [List.length_map], by omega, by omega, fun h0 => ⟨b, 0, rfl, fun k hk => ?_⟩⟩
  have hlt := kq_lt hk
  obtain ⟨R, C, hV, hI⟩ := h.st.rows _ hlt
  have hl : (gr xss ((kp f N).getD k 0)).length = n := hI.ints.len
  refine ⟨R, C, ?_, ?_⟩
  · rw [World.cell?_setCells_out _ _ _ _ _ (fun _ _ => .inl (by show 0 + k < _; omega)), Nat.zero_add, h.cell k (by omega), curD, if_pos hk, hV, gr_map_kp hk, hl]
  · rw [gr_map_kp hk, hl]
    exact (hI.kb (KB.sets _ _ _ _)).ints
theorem DFd.all {wb b N r px n V xss f W} (h : DFd wb b N r px n V xss f 0 W) (hf : ∀ k, k < N → f k = ldB (gr xss k) r) (ha : ∀ k, k < N → f k = true) (cap : Nat) (hcap : N ≤ cap) :
    KeptR wb (xss.filter fun t => ldB t r) (.returned (.slice (some ⟨b, 0, none⟩) N cap)) W := by
  have h64 := h.st.n64
  have e1 : xss.filter (fun t => ldB t r) = xss := by
    rw [List.filter_eq_self]
    intro t ht
    obtain ⟨k, hk, rfl⟩ := List.mem_iff_getElem.1 ht
    rw [← gr_get hk, ← hf k (by rw [← h.st.ln]; exact hk)]
    exact ha k (by rw [← h.st.ln]; exact hk)
  rw [e1]
  refine ⟨some ⟨b, 0, none⟩, cap, by rw [h.st.ln], ?_, h.up⟩
  rw [h.st.ln]
  refine ⟨h.st.ln, hcap, by omega, fun h0 => ⟨b, 0, rfl, fun k hk => ?_⟩⟩
  obtain ⟨R, C, hV, hI⟩ := h.st.rows _ hk
  have hl : (gr xss k).length = n := hI.ints.len
  refine ⟨R, C, ?_, by rw [hl]; exact hI.ints⟩
  rw [Nat.zero_add, h.cell k hk, curD_at (Nat.zero_le _), hV, hl]

theorem zero_rows : ∀ w, (zeroValue 27).run Try.prog w = .ok (.slice none 0 0) w := fun w => by
  obtain ⟨i0, hi0, hz0, _, _⟩ := info_parts Try.info27
  simp [zeroValue, typeInfo, hi0, hz0]

set_option maxRecDepth 100000 in
set_option maxHeartbeats 3200000 in
theorem DeleteFunc_any (wb : World) (b N r px n cap : Nat) (V : Nat → Value) (xss : List (List Int)) (f : Nat → Bool) (W : World) (h : DFd wb b N r px n V xss f 0 W) (hf : ∀ k, k < N → f k = ldB (gr xss k) r) (hcap : N ≤ cap) (hN : 0 < N) :
    Calls Try.prog 50 #[.slice (some ⟨b, 0, none⟩) N cap, .func (.func 51) #[] #[.pointer (some ⟨px, 0, none⟩)]] W (KeptR wb (xss.filter fun t => ldB t r)) := by
  have H := Lib.hid h
  have HF := Lib.hid hf
  have h64 := h.st.n64
  have HC := Lib.hid (IndexFunc_any wb b N r px n cap V xss f W h hf)
  clear h hf
  go_enter Try.func50, Try.ntmps50
  go_wp2_with fail
  refine HC.out.mono ?_
  rintro e w2 ⟨⟨v, rfl, hcase⟩, hb⟩
  have H2 := Lib.hid (H.out.next hb)
  clear HC H hb
  rcases hcase with ⟨i, hiN, rfl, hfi, hall⟩ | ⟨rfl, hall⟩
  · have HFI := Lib.hid hfi
    have HALL := Lib.hid hall
    have hni : ((i : Int) == -1) = false := by rw [beq_eq_false_iff_ne]; omega
    have HD := Lib.hid (show DFd wb b N r px n V xss f (i + 1) w2 from DFd.no ⟨H2.out.st, H2.out.up, H2.out.lo, fun k hk => by rw [curD_all HALL.out, ← curD_at (f := f) (V := V) (Nat.zero_le k)]; exact H2.out.cell k hk, H2.out.frz⟩ HFI.out)
    have HKL := Lib.hid (show (kp f (i + 1)).length = i by rw [kq_no HFI.out, kq_all HALL.out, List.length_range])
    clear hfi hall H2
    go_wp2
    go_loopw [5, 6] (fun a s wr => ∃ j : Nat, i < j ∧ j ≤ N ∧ s = .int .i64 j ∧ a = .int .i64 ((kp f j).length : Nat) ∧ Hid (DFd wb b N r px n V xss f j wr)) (fun _ s _ => N - (intOf s).toNat)
    case atStart => exact ⟨i + 1, by omega, by omega, by go_num, by rw [HKL.out], HD⟩
    case round =>
      clear HD
      obtain ⟨j, hij, hjN, rfl, rfl, HD⟩ := hrel
      have hle := kq_le f j
      by_cases hlt : j < N
      · have c1 := HD.out.cell j hlt
        obtain ⟨R, C, hV, hI⟩ := HD.out.st.rows j hlt
        rw [curD_at (Nat.le_refl _), hV] at c1
        have HC := Lib.hid (treesTo1_any px r R n C (gr xss j) wr hI.ints (HD.out.st.ok j hlt).1 HD.out.st.n4 (HD.out.st.ok j hlt).2 HD.out.st.box)
        rw [← HF.out j hlt] at HC
        have HV := Lib.hid hV
        clear hI hV
        cases hfk : f j
        · rw [hfk] at HC
          have HFK := Lib.hid hfk
          have HKN := Lib.hid (kq_no hfk)
          clear hfk
          go_wp2_with fail
          refine HC.out.mono ?_
          rintro e w3 ⟨rfl, hb⟩
          have HD2 := Lib.hid ((HD.out.next hb).no HFK.out)
          clear HC hb HD c1
          go_wp2
          go_roundw
          case rel => exact ⟨j + 1, by omega, by omega, by go_num, by rw [HKN.out], HD2⟩
          case measure => simp [intOf]; omega
        · rw [hfk] at HC
          have HFK := Lib.hid hfk
          have HKN := Lib.hid (show (kp f (j + 1)).length = (kp f j).length + 1 by rw [kq_yes hfk, List.length_append]; rfl)
          clear hfk
          go_wp2_with fail
          refine HC.out.mono ?_
          rintro e w3 ⟨rfl, hb⟩
          have HD1 := Lib.hid (HD.out.next hb)
          have HD2 := Lib.hid (HD1.out.yes HFK.out hlt)
          rw [HV.out] at HD2
          have c2 := HD1.out.cell _ (show (kp f j).length < N by omega)
          have c3 := HD1.out.frz _ (show (kp f j).length < N by omega)
          clear HC hb HD c1 HD1
          generalize (kp f j).length = q at *
          generalize curD f V j q = u at *
          go_wp2
          clear c2 c3
          go_roundw
          case rel => exact ⟨j + 1, by omega, by omega, by go_num, by rw [HKN.out]; go_num, HD2⟩
          case measure => simp [intOf]; omega
      · obtain rfl : j = N := by omega
        have hkj : (kp f j).length < j := by
          have h1 : ∀ d, i + 1 + d ≤ j → (kp f (i + 1 + d)).length < i + 1 + d := by
            intro d
            induction d with
            | zero => intro _; rw [Nat.add_zero, HKL.out]; omega
            | succ d ih =>
              intro hd
              have := ih (by omega)
              rw [← Nat.add_assoc]
              cases hfd : f (i + 1 + d)
              · rw [kq_no hfd]; omega
              · rw [kq_yes hfd, List.length_append, List.length_singleton]; omega
          have := h1 (j - (i + 1)) (by omega)
          rw [show i + 1 + (j - (i + 1)) = j by omega] at this
          exact this
        have HDN := Lib.hid (HD.out.done HF.out cap hcap (by omega))
        have hcl : ∀ ty, (Builtin.clear_ #[22] ty #[.slice (some ⟨b, (kp f j).length, none⟩) (j - (kp f j).length) (cap - (kp f j).length)]).run Try.prog wr = .ok (.tuple #[]) (wr.setCells b (kp f j).length (List.replicate (j - (kp f j).length) (.slice none 0 0))) :=
          fun ty => Lib.run_clear_slice wr _ _ ty _ Try.underlying22 zero_rows rfl rfl b (kp f j).length _ _ (by omega) (fun t ht => by rw [HD.out.cell _ (by omega)]; rfl) (fun t ht => HD.out.frz _ (by omega))
        clear HD
        generalize (kp f j).length = q at *
        go_wp2
        clear hcl
        go_ret
        exact HDN.out
  · have HA := Lib.hid (H2.out.all HF.out hall cap hcap)
    go_wp2
    go_ret
    exact HA.out
end Go.Proofs.Ytlflogpgfbcboaa

/- A row under way: its numbers may be set; shares drawn. -/
namespace Go.Proofs.Ytlflogpgfbcboaa
open Go.RowKit

theorem BldI.set {lo hi w v xs} (h : BldI lo hi w v xs) {j : Nat} (hj : j < xs.length) (x : Int) :
    ∃ b c, v = .slice (some ⟨b, 0, none⟩) xs.length c ∧ lo ≤ b ∧ b < hi ∧ w.cell? ⟨b, j, none⟩ = some (.int .i64 (gi xs j)) ∧ w.frozen? ⟨b, j, none⟩ = false ∧
      BldI lo hi (w.setCell ⟨b, j, none⟩ (.int .i64 x)) v (xs.set j x) := by
  have hh := h.hi_
  rcases h.own.2 with ⟨_, h0⟩ | ⟨g, cap, cur, rfl, hb, hg, hnc, hcm, hcs, htake⟩
  · omega
  · rw [Nat.mul_one] at htake hcs
    have hB : Blk w g 3 cur := hg
    have hc : cur[j]? = some (.int .i64 (gi xs j)) := by
      rw [← getElem_iv hj, ← htake, List.getElem?_take, if_pos hj]; simp
    refine ⟨g, cap, rfl, hb, hh g rfl, blk_cell hB hc, blk_frozen hB j, ⟨⟨by simp, .inr ⟨g, cap, cur.setIfInBounds j (.int .i64 x), by rw [List.length_set], hb, blk_set hB j _, by rw [List.length_set]; exact hnc, hcm, by simp [hcs], ?_⟩⟩, hh⟩⟩
    rw [List.length_set, Nat.mul_one, Array.toList_setIfInBounds, List.take_set, htake, List.map_set]
    rfl

/-- A row by itself, begun behind the world wb. -/
def SH (w0 wb : World) (g : Nat) (A : Option Addr) (l c p : Nat) (u : Value) (ys : List Int) (w : World) : Prop := TI w0 wb g A l c p wb.heap.size (.slice none 0 0) [] [] u ys w
theorem SH.start {w0 wb g A l c p} (h : Rdr w0 wb g A l c p) : SH w0 wb g A l c p (.slice (some ⟨wb.heap.size, 0, none⟩) 0 0) [] (wb.alloc (.cells #[] 3)) :=
  ⟨h.below_ (below_alloc _ _), Bld.nil _ _ _, by rw [World.size_alloc]; exact BldI.make (Nat.le_refl _), blk_lt h.box, Nat.le_refl _, by simp, grown_of_below (below_alloc _ _)⟩
theorem SH.below {w0 wb g A l c p u ys w w'} (h : SH w0 wb g A l c p u ys w) (k : Below w.heap.size w w') : SH w0 wb g A l c p u ys w' :=
  ⟨h.rd.below_ k, Bld.nil _ _ _, (h.bi.below k).mono k.size, h.gl, h.lh, Nat.le_trans h.hs k.size, grown_below h.up k⟩
theorem SH.one {w0 wb g A l c p p' u ys w w'} (h : SH w0 wb g A l c p u ys w) (hr : Rdr w0 w' g A l c p') (ho : One g w w') : SH w0 wb g A l c p' u ys w' := TI.one h hr ho
theorem SH.set {w0 wb g A l c p u ys w} (h : SH w0 wb g A l c p u ys w) {j : Nat} (hj : j < ys.length) (x : Int) :
    ∃ b cc, u = .slice (some ⟨b, 0, none⟩) ys.length cc ∧ w.cell? ⟨b, j, none⟩ = some (.int .i64 (gi ys j)) ∧ w.frozen? ⟨b, j, none⟩ = false ∧ SH w0 wb g A l c p u (ys.set j x) (w.setCell ⟨b, j, none⟩ (.int .i64 x)) := by
  obtain ⟨b, cc, e, h1, h2, h3, h4, h5⟩ := h.bi.set hj x
  have hgl := h.gl
  have hs : (w.setCell ⟨b, j, none⟩ (.int .i64 x)).heap.size = w.heap.size := by simp [World.setCell]
  refine ⟨b, cc, e, h3, h4, ⟨⟨blk_other h.rd.box (by show g ≠ b; omega) _, h.rd.bytes, h.rd.below.setCell (by show w0.heap.size ≤ b; have := h.rd.lt; omega) _, h.rd.lt, h.rd.small⟩, Bld.nil _ _ _, by rw [hs]; exact h5, h.gl, h.lh, by rw [hs]; exact h.hs, ?_⟩⟩
  exact ⟨h.up.os, h.up.tape, h.up.output, by rw [hs]; exact h.up.size, fun k hk hne => (Below.heap_setCell _ _ _ _ (by show k ≠ b; omega)).trans (h.up.block k hk hne)⟩
def SharesOut (w0 wb : World) (g : Nat) (A : Option Addr) (l c p n : Nat) (e : Ending) (w' : World) : Prop :=
  ∃ Av cv ys p', e = .returned (.slice Av ys.length cv) ∧ ys.length ≤ n + 1 ∧ (∀ x ∈ ys, -1 ≤ x ∧ x ≤ 1001) ∧ SH w0 wb g A l c p' (.slice Av ys.length cv) ys w' ∧ p' ≤ p + 3 * n + 3

end Go.Proofs.Ytlflogpgfbcboaa

/- Trees that are tried, by the model. -/
namespace Go.Proofs.Ytlflogpgfbcboaa
open Go.RowKit

theorem tmodN (a n : Nat) : ((a : Nat) : Int).tmod (n : Int) = ((a % n : Nat) : Int) := by rw [Int.tmod_eq_emod_of_nonneg (by omega)]; simp
theorem tdivN (a n : Nat) : ((a : Nat) : Int).tdiv (n : Int) = ((a / n : Nat) : Int) := by rw [Int.tdiv_eq_ediv_of_nonneg (by omega)]; simp
noncomputable def TF (c : List (List Int)) (root : Int) : Int := if (pb (VC c) && pb (Blw c.length root)) = true then bw c c.length root.toNat (c.length ^ c.length) else -1

set_option maxRecDepth 100000 in
set_option maxHeartbeats 3200000 in
theorem leads_any (A : Option Addr) (n c : Nat) (t : List Int) (r : Nat) (w : World) (hx : Ints w A n c t) (hb : InB t) (hn : n ≤ 4) :
    Calls Try.prog 33 #[.slice A n c, .int .i64 r] w fun e w' => e = .returned (.bool (pb (Ld t r))) ∧ w = w' := by
  have HL := Lib.hid hx.len
  have HX := Lib.hid hx
  have HB := Lib.hid hb
  clear hx hb
  go_enter Try.func33, Try.ntmps33
  go_wp2
  go_loopw [5] (fun i wr => ∃ k : Nat, k ≤ n ∧ i = .int .i64 k ∧ Hid (∀ i : Nat, i < k → orS t r i n = r) ∧ w = wr) (fun i _ => n - (intOf i).toNat)
  case atStart => exact ⟨0, Nat.zero_le _, rfl, Lib.hid (fun _ h => absurd h (by omega)), rfl⟩
  case round =>
    obtain ⟨k, hk, rfl, HALL, rfl⟩ := hrel
    by_cases hlt : k < n
    · go_wp2
      go_loopw [6, 7] (fun a s wi => ∃ m : Nat, m ≤ n ∧ s = .int .i64 m ∧ a = .int .i64 (orS t r k m) ∧ w = wi) (fun _ s _ => n - (intOf s).toNat)
      case atStart => exact ⟨0, Nat.zero_le _, rfl, rfl, rfl⟩
      case round =>
        obtain ⟨m, hm, rfl, rfl, rfl⟩ := hrel
        have ho := orS_in HB.out (r := r) (x := (k : Int)) (by omega) (by rw [HL.out]; omega) m
        rw [HL.out] at ho
        by_cases hr : orS t r k m = r
        · have HN := Lib.hid (show orS t r k n = r by obtain ⟨d, rfl⟩ : ∃ d, n = m + d := ⟨n - m, by omega⟩; exact orS_root hr d)
          rw [hr]
          have hr0 : ((r : Int) != (r : Int)) = false := by simp
          clear hr ho
          by_cases hml : m < n
          · go_wp2
            go_roundw
            case rel => exact ⟨k + 1, by omega, by go_num, Lib.hid (fun i hi => by
              by_cases hik : i = k
              · subst hik; exact HN.out
              · exact HALL.out i (by omega)), by first | exact rfl | trivial⟩
            case measure => simp [intOf]; omega
          · go_wp2
            go_roundw
            case rel => exact ⟨k + 1, by omega, by go_num, Lib.hid (fun i hi => by
              by_cases hik : i = k
              · subst hik; exact HN.out
              · exact HALL.out i (by omega)), by first | exact rfl | trivial⟩
            case measure => simp [intOf]; omega
        · have hr0 : (orS t r k m != (r : Int)) = true := by simp [hr]
          by_cases hml : m < n
          · have HS := Lib.hid (orS_step hr)
            obtain ⟨j, hj⟩ : ∃ j : Nat, orS t r k m = j := ⟨(orS t r k m).toNat, by omega⟩
            rw [hj] at ho hr0 HS ⊢
            obtain ⟨b, o, rfl, hc⟩ := HX.out.at_ (by omega)
            have c1 := hc j (by omega)
            have HG : Hid (nx t (j : Int) = gi t j) := Lib.hid (by unfold nx; simp)
            have hjn : j < n := by omega
            clear hc hr hj
            go_wp2
            go_roundw
            case rel => exact ⟨m + 1, by omega, by go_num, congrArg (Value.int .i64) (by rw [HS.out, HG.out]), by first | exact rfl | trivial⟩
            case measure => simp [intOf]; omega
          · obtain rfl : m = n := by omega
            have HV := Lib.hid (Ld_no (t := t) (r := r) (i := k) (by rw [HL.out]; omega) (by rw [HL.out]; exact hr))
            generalize orS t r k m = q at *
            clear hr
            go_wp2
            go_ret
            exact ⟨ret_bool HV.out.symm, by first | exact rfl | trivial⟩
    · obtain rfl : k = n := by omega
      have HV := Lib.hid (pb_true (p := Ld t r) (fun i hi => by rw [HL.out] at hi ⊢; exact HALL.out i hi))
      go_wp2
      go_ret
      exact ⟨ret_bool HV.out.symm, by first | exact rfl | trivial⟩
/-- What the loop knows: the costs lie still, the list of ways under way. -/
structure TW (w : World) (A : Option Addr) (n c : Nat) (a : List (List Int)) (W : World) : Prop where
  rows : IntRows W A n c a
  below : Below w.heap.size w W
theorem TW.up {w A n c a W W'} (h : TW w A n c a W) (k : Below W.heap.size W W') : TW w A n c a W' := ⟨h.rows.keep (Keep.below k), below_up h.below k⟩

set_option maxRecDepth 100000 in
set_option maxHeartbeats 6400000 in
theorem TreeTried_spec (A : Option Addr) (n c : Nat) (a : List (List Int)) (root : Int) (w : World) (hx : IntRows w A n c a) (hf : Fit root) :
    Calls Try.prog 12 #[.slice A n c, .int .i64 root] w (Ret (.int .i64 (TF a root)) w) := by
  have HX := Lib.hid hx
  have HL := Lib.hid hx.len
  have HF := Lib.hid hf
  have hmx := hx.max
  clear hx hf
  by_cases hv : VC a
  · have HC := Lib.hid (pb_true hv ▸ validCosts_any A n c a w HX.out)
    have h1 := hv.n1
    have h4 := hv.n4
    rw [HL.out] at h1 h4
    have HV := Lib.hid hv
    by_cases hr : InR root 0 ((n : Int) - 1)
    · have QR := Lib.hid (fun W => pb_true hr ▸ inRange_any root 0 ((n : Int) - 1) W)
      have HP := Lib.hid (show TF a root = bw a n root.toNat (n ^ n) by rw [TF, pb_true hv, pb_true (p := Blw a.length root) ⟨hr.1, by have := hr.2; rw [HL.out]; omega⟩, HL.out]; rfl)
      unfold InR at hr
      obtain ⟨r, rfl⟩ : ∃ r : Nat, root = r := ⟨root.toNat, by omega⟩
      have hrn : r < n := by omega
      simp only [Int.toNat_natCast] at HP
      clear hv hr HF
      have HZ : Hid (∀ k, k ≤ n → n ^ k ≤ 256) := Lib.hid (fun k hk => by
        have e1 : n ^ k ≤ 4 ^ k := Nat.pow_le_pow_left h4 k
        have e2 : 4 ^ k ≤ 4 ^ 4 := Nat.pow_le_pow_right (by omega) (by omega)
        omega)
      have HZ0 : Hid (∀ k, 0 < n ^ k) := Lib.hid (fun k => Nat.pow_pos (by omega))
      go_enter Try.func12, Try.ntmps12
      go_wp2_with fail
      refine HC.out.mono ?_
      rintro e w1 ⟨rfl, hq⟩
      have HT := Lib.hid (TW.mk (HX.out.keep (Keep.quiet hq)) (Quiet.below (B := w.heap.size) hq))
      clear hq HC HX
      go_wp2_with fail
      refine (QR.out _).mono ?_
      rintro e w2 ⟨rfl, rfl⟩
      clear QR
      go_wp2
      go_loopw [7, 8] (fun p i wr => ∃ k : Nat, k ≤ n ∧ i = .int .i64 k ∧ p = .int .i64 ((n ^ k : Nat) : Int) ∧ w1 = wr) (fun _ i _ => n - (intOf i).toNat)
      case atStart => exact ⟨0, Nat.zero_le _, rfl, by simp, rfl⟩
      case round =>
        obtain ⟨k, hk, rfl, rfl, rfl⟩ := hrel
        by_cases hkn : k < n
        · have hp := HZ.out k hk
          have hp2 := HZ.out (k + 1) hkn
          have HE : Hid (n ^ (k + 1) = n ^ k * n) := Lib.hid (Nat.pow_succ ..)
          rw [HE.out] at hp2
          have hb : (0 : Int) ≤ ((n ^ k : Nat) : Int) * (n : Int) ∧ ((n ^ k : Nat) : Int) * (n : Int) ≤ 256 := by rw [← Int.natCast_mul]; omega
          generalize n ^ k = P at *
          go_wp2
          go_roundw
          case rel => exact ⟨k + 1, by omega, by go_num, congrArg (Value.int .i64) (by rw [HE.out]; simp), by first | exact rfl | trivial⟩
          case measure => simp [intOf]; omega
        · obtain rfl : k = n := by omega
          have hp := HZ.out k hk
          have HPW : Hid (k ^ k = k ^ k) := Lib.hid rfl
          generalize hPW : k ^ k = P at HP hp HPW ⊢
          have HPP := Lib.hid hPW
          clear hPW HPW
          go_wp2
          go_loopw [5, 9] (fun b s wr => ∃ m : Nat, m ≤ P ∧ s = .int .i64 m ∧ b = .int .i64 (bw a k r m) ∧ Hid (TW w A k c a wr)) (fun _ s _ => P - (intOf s).toNat)
          case atStart => exact ⟨0, Nat.zero_le _, rfl, rfl, HT⟩
          case round =>
            clear HT
            obtain ⟨m, hm, rfl, rfl, HT⟩ := hrel
            have hbw := bw_bd HV.out HL.out hrn m
            by_cases hmp : m < P
            · obtain ⟨wA, hwA⟩ : ∃ wA, wA = wr := ⟨_, rfl⟩
              subst hwA
              have HU0 := Lib.hid (IU.start wA)
              go_wp2
              go_loopw [10, 11, 12] (fun v i x wi => ∃ q : Nat, q ≤ k ∧ i = .int .i64 q ∧ x = .int .i64 ((m / k ^ q : Nat) : Int) ∧ Hid (IU wA v (digI k m q) wi)) (fun _ i _ _ => k - (intOf i).toNat)
              case atStart => exact ⟨0, Nat.zero_le _, rfl, by simp, HU0⟩
              case round =>
                clear HU0
                obtain ⟨q, hq, rfl, rfl, HU⟩ := hrel
                obtain ⟨Av, cv, hform⟩ := HU.out.bi.form
                by_cases hqk : q < k
                · have HS1 : Hid (digI k m (q + 1) = digI k m q ++ [((m / k ^ q % k : Nat) : Int)]) := Lib.hid rfl
                  have HS2 : Hid (m / k ^ (q + 1) = m / k ^ q / k) := Lib.hid (by rw [Nat.pow_succ, Nat.div_div_eq_div_mul])
                  have hdl : m / k ^ q ≤ 256 := Nat.le_trans (Nat.div_le_self ..) (by omega)
                  have HLD := Lib.hid (digI_len k m q)
                  generalize m / k ^ q = D at *
                  have t1 := tmodN D k
                  have t2 := tdivN D k
                  have t3 : (D : Int) / (k : Int) = ((D / k : Nat) : Int) := by simp
                  have hml := Nat.mod_lt D (show 0 < k by omega)
                  have hdd := Nat.div_le_self D k
                  generalize D % k = M at *
                  generalize D / k = Q at *
                  have hk0 : ((k : Int) == 0) = false := by simp; omega
                  have hk0' : ¬ (k : Int) = 0 := by omega
                  have hb := below_alloc wr (.cells #[iv (M : Int)] 3)
                  have HB4 := Lib.hid (HU.out.bi.below hb).own
                  have HN := Lib.hid (cell_one_new wr (iv (M : Int)) 3)
                  have hwz := HU.out.up.size
                  clear hb
                  subst hform
                  generalize digI k m q = ys at *
                  obtain ⟨i0, hi0, hz0, hz1, hz2⟩ := info_parts Try.info_int
                  go_wp2_with (at_builtin; refine wpList_append_own_at _ rfl _ _ 27 rfl wA.heap.size 3 i0 (.int .i64 0) 1 8 Try.underlying27 hi0 hz0 hz1 hz2 rfl (by decide) _ ys.length (ys.map iv) rfl HB4.out ⟨wr.heap.size, 0, none⟩ 1 1 [iv (M : Int)] rfl rfl ?c1 ?c2 ?c3 ?c4 ?c5 ?_)
                  case c1 => exact HN.out
                  case c2 => intro u hu; simp at hu; subst hu; rfl
                  case c3 => have := HLD.out; unfold maxLen; omega
                  case c4 => have := HLD.out; omega
                  case c5 => simp; omega
                  intro v' w5 hown' hgrow _ hat
                  have HU5 := Lib.hid (HU.out.push hown' hgrow (by simpa using hat))
                  clear HB4 HN hown' hgrow hat HU
                  go_wp2
                  go_roundw
                  case rel => exact ⟨q + 1, by omega, by go_num, congrArg (Value.int .i64) (by rw [HS2.out]), Lib.hid (by rw [HS1.out]; exact HU5.out)⟩
                  case measure => simp [intOf]; omega
                · obtain rfl : q = k := by omega
                  have HLD := Lib.hid (digI_len q m q)
                  obtain ⟨b, c2, e, hb1, hb2, hc1, hf1, hset⟩ := HU.out.bi.set (j := r) (by rw [HLD.out]; exact hrn) (r : Int)
                  clear hform
                  subst e
                  rw [HLD.out] at hset ⊢
                  have HIS := Lib.hid (show IU wA (.slice (some ⟨b, 0, none⟩) q c2) (toI q r m) (wr.setCell ⟨b, r, none⟩ (.int .i64 r)) from
                    ⟨by rw [show (wr.setCell ⟨b, r, none⟩ (.int .i64 r)).heap.size = wr.heap.size by simp [World.setCell]]; exact hset, HU.out.up.setCell (p := ⟨b, r, none⟩) hb1 _⟩)
                  have HTL := Lib.hid (toI_len q r m)
                  have HTI := Lib.hid (toI_in (w := m) (show 0 < q by omega) hrn)
                  have HT2 := Lib.hid (HT.out.up HU.out.up)
                  have HBW : Hid (bw a q r (m + 1) = if ldB (toI q r m) r = true then (if bw a q r m < 0 ∨ cs a r (toI q r m) q < bw a q r m then cs a r (toI q r m) q else bw a q r m) else bw a q r m) := Lib.hid rfl
                  have HT3 := Lib.hid (show TW w A q c a (wr.setCell ⟨b, r, none⟩ (.int .i64 r)) from HT.out.up HIS.out.up)
                  have HCB := Lib.hid (cs_bd HV.out (r := r) (t := toI q r m) (by rw [HTL.out, HL.out]) HTI.out)
                  rw [HL.out] at HCB
                  clear HU hset HT HT2
                  generalize toI q r m = to at *
                  go_wp2_with fail
                  clear hc1 hf1
                  generalize wr.setCell ⟨b, r, none⟩ (.int .i64 r) = w4 at *
                  have HI4 := Lib.hid (show Ints w4 (some ⟨b, 0, none⟩) q c2 to from by
                    have h := IU.ints (ys := to) (A := some ⟨b, 0, none⟩) (c := c2) (wb := wA) (w := w4) (by rw [HTL.out]; exact HIS.out) (by rw [HTL.out]; omega) (fun y hy => by
                      obtain ⟨j, hj, e⟩ := List.mem_iff_getElem.1 hy
                      rw [← e, ← gi_get hj]
                      have := HTI.out.bd j hj
                      rw [HTL.out] at this; omega)
                    rw [HTL.out] at h; exact h)
                  have HLC := Lib.hid (leads_any _ q c2 to r w4 HI4.out HTI.out h4)
                  by_cases hld : Ld to r
                  · have HLC2 := Lib.hid (pb_true hld ▸ HLC.out)
                    rw [if_pos (ldB_iff.2 hld)] at HBW
                    clear hld HLC
                    go_wp2_with fail
                    refine HLC2.out.mono ?_
                    rintro e w5 ⟨rfl, rfl⟩
                    clear HLC2
                    go_wp2
                    go_loopw [13, 14] (fun s i wr => ∃ x : Nat, x ≤ q ∧ i = .int .i64 x ∧ s = .int .i64 (cs a r to x) ∧ Quiet w4 wr) (fun _ i _ => q - (intOf i).toNat)
                    case atStart => exact ⟨0, Nat.zero_le _, rfl, rfl, Quiet.refl _⟩
                    case round =>
                      obtain ⟨x, hxq, rfl, rfl, hqq⟩ := hrel
                      have hcb := HCB.out x hxq
                      by_cases hxl : x < q
                      · have HCS : Hid (cs a r to (x + 1) = if x = r then cs a r to x else cs a r to x + g2 a x (gi to x).toNat) := Lib.hid rfl
                        have hcb2 := HCB.out (x + 1) hxl
                        rw [HCS.out] at hcb2
                        by_cases hxr : x = r
                        · rw [if_pos hxr] at HCS hcb2
                          have hxr' : ((x : Int) != (r : Int)) = false := by simp [hxr]
                          clear hxr
                          generalize cs a r to x = S at *
                          go_wp2
                          go_roundw
                          case rel => exact ⟨x + 1, by omega, by go_num, congrArg (Value.int .i64) (by rw [HCS.out]), hqq⟩
                          case measure => simp [intOf]; omega
                        · rw [if_neg hxr] at HCS hcb2
                          have hxr' : ((x : Int) != (r : Int)) = true := by simp; omega
                          have hd := HTI.out.bd x (by rw [HTL.out]; exact hxl)
                          rw [HTL.out] at hd
                          have HT5 := Lib.hid ((HT3.out.up hqq.below).rows)
                          have HI5 := Lib.hid (HI4.out.keep (Keep.quiet hqq))
                          obtain ⟨bA, oA, hAa, hcA⟩ := HT5.out.at_ (by omega)
                          obtain ⟨R1, cc1, r1, hR1⟩ := hcA x hxl
                          have hrl := (HV.out.rows x (by rw [HL.out]; exact hxl)).1
                          rw [HL.out] at hrl
                          rw [hrl] at r1 hR1
                          obtain ⟨bR, oR, rfl, hcR⟩ := hR1.at_ (by omega)
                          obtain ⟨bT, oT, hT, hcT⟩ := HI5.out.at_ (by omega)
                          injection hT with hT
                          injection hT with hT1 hT2 _
                          subst hT1
                          subst hT2
                          simp only [Nat.zero_add] at hcT
                          have c1 := hcT x hxl
                          obtain ⟨d, hdd⟩ : ∃ d : Nat, gi to x = d := ⟨(gi to x).toNat, by omega⟩
                          rw [hdd] at c1 hd hcb2 HCS
                          simp only [Int.toNat_natCast] at hcb2 HCS
                          have hdq : d < q := by omega
                          have c2 := hcR d hdq
                          have HG : Hid (g2 a x d = gi (gr a x) d) := Lib.hid rfl
                          rw [HG.out] at hcb2
                          subst hAa
                          clear hcA hcR hcT hxr hdd
                          generalize gi (gr a x) d = G at *
                          generalize cs a r to x = S at *
                          go_wp2
                          go_quiet (fail)
                          go_wp2
                          go_roundw
                          case rel => exact ⟨x + 1, by omega, by go_num, congrArg (Value.int .i64) (by rw [HCS.out, HG.out]), hqq.trans ⟨_, rfl⟩⟩
                          case measure => simp [intOf]; omega
                      · obtain rfl : x = q := by omega
                        have HT6 := Lib.hid (HT3.out.up hqq.below)
                        generalize cs a r to x = S at *
                        generalize bw a x r m = Bm at *
                        by_cases hb0 : Bm < 0
                        · rw [if_pos (.inl hb0)] at HBW
                          have hb0' : decide (Bm < 0) = true := decide_eq_true hb0
                          go_wp2
                          go_roundw
                          case rel => exact ⟨m + 1, by omega, by go_num, congrArg (Value.int .i64) HBW.out.symm, HT6⟩
                          case measure => simp [intOf]; omega
                        · have hb0' : decide (Bm < 0) = false := decide_eq_false hb0
                          by_cases hs0 : S < Bm
                          · rw [if_pos (.inr hs0)] at HBW
                            have hs0' : decide (S < Bm) = true := decide_eq_true hs0
                            go_wp2
                            go_roundw
                            case rel => exact ⟨m + 1, by omega, by go_num, congrArg (Value.int .i64) HBW.out.symm, HT6⟩
                            case measure => simp [intOf]; omega
                          · rw [if_neg (by omega)] at HBW
                            have hs0' : decide (S < Bm) = false := decide_eq_false hs0
                            go_wp2
                            go_roundw
                            case rel => exact ⟨m + 1, by omega, by go_num, congrArg (Value.int .i64) HBW.out.symm, HT6⟩
                            case measure => simp [intOf]; omega
                  · have HLC2 := Lib.hid (pb_false hld ▸ HLC.out)
                    rw [if_neg (fun h => hld (ldB_iff.1 h))] at HBW
                    clear hld HLC
                    go_wp2_with fail
                    refine HLC2.out.mono ?_
                    rintro e w5 ⟨rfl, rfl⟩
                    clear HLC2
                    go_wp2
                    go_roundw
                    case rel => exact ⟨m + 1, by omega, by go_num, congrArg (Value.int .i64) HBW.out.symm, HT3⟩
                    case measure => simp [intOf]; omega
            · obtain rfl : m = P := by omega
              have HE := Lib.hid (show bw a k r m = TF a r by rw [HP.out])
              generalize bw a k r m = Bm at *
              go_wp2
              go_ret
              exact ⟨ret_int HE.out, HT.out.below⟩
    · have QR := Lib.hid (fun W => pb_false hr ▸ inRange_any root 0 ((n : Int) - 1) W)
      have HP := Lib.hid (show TF a root = -1 by rw [TF, pb_false (p := Blw a.length root) (fun h => hr ⟨h.1, by have := h.2; rw [HL.out] at this; omega⟩), Bool.and_false]; rfl)
      clear hv hr
      go_enter Try.func12, Try.ntmps12
      go_wp2_with fail
      refine HC.out.mono ?_
      rintro e w1 ⟨rfl, hq⟩
      have HB := Lib.hid (Quiet.below (B := w.heap.size) hq)
      clear hq HC
      go_wp2_with fail
      refine (QR.out _).mono ?_
      rintro e w2 ⟨rfl, rfl⟩
      clear QR
      go_wp2
      go_ret
      exact ⟨ret_int HP.out.symm, HB.out⟩
  · have HC := Lib.hid (pb_false hv ▸ validCosts_any A n c a w HX.out)
    have HP := Lib.hid (show TF a root = -1 by rw [TF, pb_false hv, Bool.false_and]; rfl)
    clear hv
    go_enter Try.func12, Try.ntmps12
    go_wp2_with fail
    refine HC.out.mono ?_
    rintro e w1 ⟨rfl, hq⟩
    have HB := Lib.hid (Quiet.below (B := w.heap.size) hq)
    clear hq HC
    go_wp2
    go_ret
    exact ⟨ret_int HP.out.symm, HB.out⟩
end Go.Proofs.Ytlflogpgfbcboaa

