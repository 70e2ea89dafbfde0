/- Texts merged: C98 H1 C96. -/
import Derived.Test.YtidoahicgiaodaaQ7
import Derived.Lib.SliceRun
import Derived.Deep.Upon
/- slices.DeleteFunc: the ways that do not lead to the root are struck out. -/
namespace Go.Proofs.Ytidoahicgiaodaa
open Go.RowKit

/-- All cells but those of one block read as they did. -/
def KB (b : Nat) (w w' : World) : Prop := ∀ p u, p.block ≠ b → w.cell? p = some u → w'.cell? p = some u
theorem KB.refl (b : Nat) (w : World) : KB b w w := fun _ _ _ h => h
theorem KB.trans {b : Nat} {w w1 w2 : World} (h : KB b w w1) (k : KB b w1 w2) : KB b w w2 := fun p u hp e => k p u hp (h p u hp e)
theorem KB.keep {b : Nat} {w w' : World} (h : Keep w w') : KB b w w' := fun p u _ e => h p u e
theorem KB.of_heap {b : Nat} {w w' : World} (h : ∀ k, k < w.heap.size → k ≠ b → w'.heap[k]? = w.heap[k]?) : KB b w w' := fun p u hp e => by
  rw [World.cell?_of_block (w := w) (h _ (World.block_lt_of_cell? w p e) hp)]; exact e
theorem KB.set (b : Nat) (w : World) (i : Nat) (u : Value) : KB b w (w.setCell ⟨b, i, none⟩ u) := .of_heap fun _ _ hk => Below.heap_setCell _ _ _ _ hk
theorem KB.sets (b : Nat) (w : World) (o : Nat) (vs : List Value) : KB b w (w.setCells b o vs) := fun p u hp e => by
  rw [World.cell?_setCells_out _ _ _ _ _ (fun h _ => absurd h hp)]; exact e
theorem below_sets {B b : Nat} {a : World} (hb : B ≤ b) : ∀ (vs : List Value) (o : Nat) (w : World), Below B a w → Below B a (w.setCells b o vs)
  | [], _, _, h => h
  | v :: vs, o, _, h => below_sets hb vs (o + 1) _ (h.setCell (p := ⟨b, o, none⟩) hb v)
/-- Ints that do not lie in a block. -/
structure IntsN (b : Nat) (w : World) (A : Option Addr) (n c : Nat) (xs : List Int) : Prop where
  ints : Ints w A n c xs
  ne : ∀ p, A = some p → 0 < n → p.block ≠ b
theorem IntsN.kb {b w w' A n c xs} (h : IntsN b w A n c xs) (k : KB b w w') : IntsN b w' A n c xs :=
  ⟨⟨h.ints.len, h.ints.cap, h.ints.max, h.ints.wf, fun hn => let ⟨q, o, e, hc⟩ := h.ints.at_ hn; ⟨q, o, e, fun i hi => k _ _ (show q ≠ b from h.ne _ e hn) (hc i hi)⟩⟩, h.ne⟩
/-- Which are kept, of the first ones. -/
def kp (f : Nat → Bool) (j : Nat) : List Nat := (List.range j).filter f
theorem kq_le (f : Nat → Bool) (j : Nat) : (kp f j).length ≤ j := by have := List.length_filter_le f (List.range j); rw [List.length_range] at this; exact this
theorem kq_yes {f : Nat → Bool} {j : Nat} (h : f j = true) : kp f (j + 1) = kp f j ++ [j] := by simp [kp, List.range_succ, List.filter_append, h]
theorem kq_no {f : Nat → Bool} {j : Nat} (h : f j = false) : kp f (j + 1) = kp f j := by simp [kp, List.range_succ, List.filter_append, h]
theorem kq_all {f : Nat → Bool} {j : Nat} (h : ∀ k, k < j → f k = true) : kp f j = List.range j := List.filter_eq_self.2 fun k hk => h k (List.mem_range.1 hk)
theorem kq_lt {f : Nat → Bool} {j k : Nat} (h : k < (kp f j).length) : (kp f j).getD k 0 < j := by
  rw [List.getD_eq_getElem?_getD, List.getElem?_eq_getElem h]
  exact List.mem_range.1 (List.mem_filter.1 (List.getElem_mem h)).1
/-- What lies in a place when the first j have been looked at. -/
def curD (f : Nat → Bool) (V : Nat → Value) (j k : Nat) : Value := if k < (kp f j).length then V ((kp f j).getD k 0) else V k
theorem curD_at {f : Nat → Bool} {V : Nat → Value} {j k : Nat} (h : j ≤ k) : curD f V j k = V k := by
  have := kq_le f j
  rw [curD, if_neg (by omega)]
theorem curD_all {f : Nat → Bool} {V : Nat → Value} {j : Nat} (h : ∀ k, k < j → f k = true) (k : Nat) : curD f V j k = V k := by
  unfold curD; split
  · rename_i h1
    rw [kq_all h] at h1 ⊢
    rw [List.length_range] at h1
    rw [List.getD_eq_getElem?_getD, List.getElem?_range h1]; rfl
  · rfl
theorem curD_no {f : Nat → Bool} {V : Nat → Value} {j : Nat} (h : f j = false) (k : Nat) : curD f V (j + 1) k = curD f V j k := by unfold curD; rw [kq_no h]
theorem curD_yes {f : Nat → Bool} {V : Nat → Value} {j : Nat} (h : f j = true) (k : Nat) : curD f V (j + 1) k = if k = (kp f j).length then V j else curD f V j k := by
  unfold curD
  rw [kq_yes h, List.length_append, List.length_singleton]
  by_cases e : k = (kp f j).length
  · subst e
    rw [if_pos (by omega), if_pos rfl]
    simp [List.getD_eq_getElem?_getD]
  · rw [if_neg e]
    by_cases h1 : k < (kp f j).length
    · rw [if_pos (by omega), if_pos h1]
      rw [List.getD_eq_getElem?_getD, List.getElem?_append_left h1, List.getD_eq_getElem?_getD]
    · rw [if_neg (by omega), if_neg h1]
theorem filter_kp (p : List Int → Bool) (xss : List (List Int)) : xss.filter p = (kp (fun k => p (gr xss k)) xss.length).map (gr xss) := by
  have e : xss = (List.range xss.length).map (gr xss) := by
    apply List.ext_getElem
    · simp
    · intro i h1 h2; simp [gr_get h1]
  have : xss.filter p = ((List.range xss.length).map (gr xss)).filter p := by rw [← e]
  rw [this, List.filter_map]; rfl
theorem gr_map_kp {xss : List (List Int)} {l : List Nat} {k : Nat} (h : k < l.length) : gr (l.map (gr xss)) k = gr xss (l.getD k 0) := by
  rw [gr_get (by rw [List.length_map]; exact h), List.getElem_map, List.getD_eq_getElem?_getD, List.getElem?_eq_getElem h]; rfl

/-- Rows in one block's places, each elsewhere; the root in its box. -/
structure DFr (b N r px n : Nat) (V : Nat → Value) (xss : List (List Int)) (W : World) : Prop where
  ln : xss.length = N
  n64 : N ≤ 64
  n4 : n ≤ 4
  rows : ∀ k, k < N → ∃ R C, V k = .slice R n C ∧ IntsN b W R n C (gr xss k)
  ok : ∀ k, k < N → InB (gr xss k) ∧ nx (gr xss k) r = r
  box : W.cell? ⟨px, 0, none⟩ = some (.int .i64 r)
  pne : px ≠ b
theorem DFr.kb {b N r px n V xss W W'} (h : DFr b N r px n V xss W) (k : KB b W W') : DFr b N r px n V xss W' :=
  ⟨h.ln, h.n64, h.n4, fun i hi => let ⟨R, C, e, hh⟩ := h.rows i hi; ⟨R, C, e, hh.kb k⟩, h.ok, k _ _ h.pne h.box, h.pne⟩
/-- .. and what lies in the places now. -/
structure DFd (wb : World) (b N r px n : Nat) (V : Nat → Value) (xss : List (List Int)) (f : Nat → Bool) (j : Nat) (W : World) : Prop where
  st : DFr b N r px n V xss W
  up : Below wb.heap.size wb W
  lo : wb.heap.size ≤ b
  cell : ∀ k, k < N → W.cell? ⟨b, k, none⟩ = some (curD f V j k)
  frz : ∀ k, k < N → W.frozen? ⟨b, k, none⟩ = false
theorem DFd.next {wb b N r px n V xss f j W W'} (h : DFd wb b N r px n V xss f j W) (k : Below W.heap.size W W') : DFd wb b N r px n V xss f j W' :=
  ⟨h.st.kb (KB.keep (Keep.below k)), below_up h.up k, h.lo, fun i hi => Keep.below k _ _ (h.cell i hi), fun i hi => by
    rw [World.frozen?_of_block (w := W) (k.block b (World.block_lt_of_cell? W _ (h.cell i hi)))]; exact h.frz i hi⟩
theorem DFd.no {wb b N r px n V xss f j W} (h : DFd wb b N r px n V xss f j W) (hf : f j = false) : DFd wb b N r px n V xss f (j + 1) W :=
  ⟨h.st, h.up, h.lo, fun k hk => by rw [curD_no hf]; exact h.cell k hk, h.frz⟩
theorem DFd.yes {wb b N r px n V xss f j W} (h : DFd wb b N r px n V xss f j W) (hf : f j = true) (hj : j < N) : DFd wb b N r px n V xss f (j + 1) (W.setCell ⟨b, (kp f j).length, none⟩ (V j)) := by
  have hle := kq_le f j
  have hc := h.cell _ (show (kp f j).length < N by omega)
  refine ⟨h.st.kb (KB.set _ _ _ _), h.up.setCell (p := ⟨b, _, none⟩) h.lo _, h.lo, fun k hk => ?_, fun k hk => ?_⟩
  · rw [curD_yes hf]
    by_cases e : k = (kp f j).length
    · subst e; rw [if_pos rfl]; exact World.cell?_setCell_same _ _ _ hc
    · rw [if_neg e, World.cell?_setCell_other _ _ _ _ (by intro e2; injection e2 with _ e2 _; exact e e2.symm)]
      exact h.cell k hk
  · rw [World.frozen?_setCell]; exact h.frz k hk
/-- The rows that are kept. -/
def KeptR (wb : World) (yss : List (List Int)) (e : Ending) (w' : World) : Prop := ∃ A c, e = .returned (.slice A yss.length c) ∧ IntRows w' A yss.length c yss ∧ Below wb.heap.size wb w'

set_option maxRecDepth 100000 in
set_option maxHeartbeats 1600000 in
theorem IndexFunc_any (wb : World) (b N r px n cap : Nat) (V : Nat → Value) (xss : List (List Int)) (f : Nat → Bool) (W : World) (h : DFd wb b N r px n V xss f 0 W) (hf : ∀ k, k < N → f k = ldB (gr xss k) r) :
    Calls Try.prog 128 #[.slice (some ⟨b, 0, none⟩) N cap, .func (.func 111) #[] #[.pointer (some ⟨px, 0, none⟩)]] W fun e W' => (∃ v : Int, e = .returned (.int .i64 v) ∧ ((∃ i : Nat, i < N ∧ v = i ∧ f i = false ∧ ∀ k, k < i → f k = true) ∨ (v = -1 ∧ ∀ k, k < N → f k = true))) ∧ Below W.heap.size W W' := by
  have H := Lib.hid h
  have HF := Lib.hid hf
  have h64 := h.st.n64
  clear h hf
  go_enter Try.func128, Try.ntmps128
  go_wp2
  go_loopw [8] (fun i wr => ∃ k : Nat, k ≤ N ∧ i = .int .i64 k ∧ Hid (∀ j, j < k → f j = true) ∧ Hid (DFd wb b N r px n V xss f 0 wr) ∧ Hid (Below W.heap.size W wr)) (fun i _ => N - (intOf i).toNat)
  case atStart => exact ⟨0, Nat.zero_le _, rfl, Lib.hid (fun _ h => absurd h (by omega)), H, Lib.hid (Below.refl _ _)⟩
  case round =>
    clear H
    obtain ⟨k, hk, rfl, HALL, H, HB⟩ := hrel
    by_cases hlt : k < N
    · have c1 := H.out.cell k hlt
      obtain ⟨R, C, hV, hI⟩ := H.out.st.rows k hlt
      rw [curD_at (Nat.zero_le _), hV] at c1
      have HC := Lib.hid (treesTo1_any px r R n C (gr xss k) wr hI.ints (H.out.st.ok k hlt).1 H.out.st.n4 (H.out.st.ok k hlt).2 H.out.st.box)
      rw [← HF.out k hlt] at HC
      clear hI hV
      cases hfk : f k
      · rw [hfk] at HC
        have HFK := Lib.hid hfk
        clear hfk
        go_wp2_with fail
        refine HC.out.mono ?_
        rintro e w2 ⟨rfl, hb⟩
        have HB2 := Lib.hid (below_up HB.out hb)
        clear HC hb
        go_wp2
        go_ret
        exact ⟨⟨_, rfl, .inl ⟨k, hlt, rfl, HFK.out, HALL.out⟩⟩, HB2.out⟩
      · rw [hfk] at HC
        have HFK := Lib.hid hfk
        clear hfk
        go_wp2_with fail
        refine HC.out.mono ?_
        rintro e w2 ⟨rfl, hb⟩
        have HB2 := Lib.hid (below_up HB.out hb)
        have H2 := Lib.hid (H.out.next hb)
        clear HC hb H HB c1
        go_wp2
        go_roundw
        case rel => exact ⟨k + 1, by omega, by go_num, Lib.hid (fun j hj => by
          by_cases e : j = k
          · subst e; exact HFK.out
          · exact HALL.out j (by omega)), H2, HB2⟩
        case measure => simp [intOf]; omega
    · obtain rfl : k = N := by omega
      go_wp2
      go_ret
      exact ⟨⟨_, rfl, .inr ⟨rfl, HALL.out⟩⟩, HB.out⟩
theorem DFd.done {wb b N r px n V xss f W} (h : DFd wb b N r px n V xss f N W) (hf : ∀ k, k < N → f k = ldB (gr xss k) r) (cap : Nat) (hcap : N ≤ cap) (hN : 0 < N) :
    KeptR wb (xss.filter fun t => ldB t r) (.returned (.slice (some ⟨b, 0, none⟩) (kp f N).length cap)) (W.setCells b (kp f N).length (List.replicate (N - (kp f N).length) (.slice none 0 0))) := by
  have hle := kq_le f N
  have h64 := h.st.n64
  have e1 : xss.filter (fun t => ldB t r) = (kp f N).map (gr xss) := by
    rw [filter_kp, h.st.ln]
    congr 1
    exact List.filter_congr fun k hk => (hf k (List.mem_range.1 hk)).symm
  have el : (xss.filter fun t => ldB t r).length = (kp f N).length := by rw [e1, List.length_map]
  refine ⟨some ⟨b, 0, none⟩, cap, by rw [el], ?_, below_sets h.lo _ _ _ h.up⟩
  rw [el, e1]
  refine ⟨by rw [List.length_map], by omega, by omega, fun h0 => ⟨b, 0, rfl, fun k hk => ?_⟩⟩
  have hlt := kq_lt hk
  obtain ⟨R, C, hV, hI⟩ := h.st.rows _ hlt
  have hl : (gr xss ((kp f N).getD k 0)).length = n := hI.ints.len
  refine ⟨R, C, ?_, ?_⟩
  · rw [World.cell?_setCells_out _ _ _ _ _ (fun _ _ => .inl (by show 0 + k < _; omega)), Nat.zero_add, h.cell k (by omega), curD, if_pos hk, hV, gr_map_kp hk, hl]
  · rw [gr_map_kp hk, hl]
    exact (hI.kb (KB.sets _ _ _ _)).ints
theorem DFd.all {wb b N r px n V xss f W} (h : DFd wb b N r px n V xss f 0 W) (hf : ∀ k, k < N → f k = ldB (gr xss k) r) (ha : ∀ k, k < N → f k = true) (cap : Nat) (hcap : N ≤ cap) :
    KeptR wb (xss.filter fun t => ldB t r) (.returned (.slice (some ⟨b, 0, none⟩) N cap)) W := by
  have h64 := h.st.n64
  have e1 : xss.filter (fun t => ldB t r) = xss := by
    rw [List.filter_eq_self]
    intro t ht
    obtain ⟨k, hk, rfl⟩ := List.mem_iff_getElem.1 ht
    rw [← gr_get hk, ← hf k (by rw [← h.st.ln]; exact hk)]
    exact ha k (by rw [← h.st.ln]; exact hk)
  rw [e1]
  refine ⟨some ⟨b, 0, none⟩, cap, by rw [h.st.ln], ?_, h.up⟩
  rw [h.st.ln]
  refine ⟨h.st.ln, hcap, by omega, fun h0 => ⟨b, 0, rfl, fun k hk => ?_⟩⟩
  obtain ⟨R, C, hV, hI⟩ := h.st.rows _ hk
  have hl : (gr xss k).length = n := hI.ints.len
  refine ⟨R, C, ?_, by rw [hl]; exact hI.ints⟩
  rw [Nat.zero_add, h.cell k hk, curD_at (Nat.zero_le _), hV, hl]

theorem zero_rows : ∀ w, (zeroValue 36).run Try.prog w = .ok (.slice none 0 0) w := fun w => by
  obtain ⟨i0, hi0, hz0, _, _⟩ := info_parts Try.info36
  simp [zeroValue, typeInfo, hi0, hz0]

set_option maxRecDepth 100000 in
set_option maxHeartbeats 3200000 in
theorem DeleteFunc_any (wb : World) (b N r px n cap : Nat) (V : Nat → Value) (xss : List (List Int)) (f : Nat → Bool) (W : World) (h : DFd wb b N r px n V xss f 0 W) (hf : ∀ k, k < N → f k = ldB (gr xss k) r) (hcap : N ≤ cap) (hN : 0 < N) :
    Calls Try.prog 110 #[.slice (some ⟨b, 0, none⟩) N cap, .func (.func 111) #[] #[.pointer (some ⟨px, 0, none⟩)]] W (KeptR wb (xss.filter fun t => ldB t r)) := by
  have H := Lib.hid h
  have HF := Lib.hid hf
  have h64 := h.st.n64
  have HC := Lib.hid (IndexFunc_any wb b N r px n cap V xss f W h hf)
  clear h hf
  go_enter Try.func110, Try.ntmps110
  go_wp2_with fail
  refine HC.out.mono ?_
  rintro e w2 ⟨⟨v, rfl, hcase⟩, hb⟩
  have H2 := Lib.hid (H.out.next hb)
  clear HC H hb
  rcases hcase with ⟨i, hiN, rfl, hfi, hall⟩ | ⟨rfl, hall⟩
  · have HFI := Lib.hid hfi
    have HALL := Lib.hid hall
    have hni : ((i : Int) == -1) = false := by rw [beq_eq_false_iff_ne]; omega
    have HD := Lib.hid (show DFd wb b N r px n V xss f (i + 1) w2 from DFd.no ⟨H2.out.st, H2.out.up, H2.out.lo, fun k hk => by rw [curD_all HALL.out, ← curD_at (f := f) (V := V) (Nat.zero_le k)]; exact H2.out.cell k hk, H2.out.frz⟩ HFI.out)
    have HKL := Lib.hid (show (kp f (i + 1)).length = i by rw [kq_no HFI.out, kq_all HALL.out, List.length_range])
    clear hfi hall H2
    go_wp2
    go_loopw [5, 6] (fun a s wr => ∃ j : Nat, i < j ∧ j ≤ N ∧ s = .int .i64 j ∧ a = .int .i64 ((kp f j).length : Nat) ∧ Hid (DFd wb b N r px n V xss f j wr)) (fun _ s _ => N - (intOf s).toNat)
    case atStart => exact ⟨i + 1, by omega, by omega, by go_num, by rw [HKL.out], HD⟩
    case round =>
      clear HD
      obtain ⟨j, hij, hjN, rfl, rfl, HD⟩ := hrel
      have hle := kq_le f j
      by_cases hlt : j < N
      · have c1 := HD.out.cell j hlt
        obtain ⟨R, C, hV, hI⟩ := HD.out.st.rows j hlt
        rw [curD_at (Nat.le_refl _), hV] at c1
        have HC := Lib.hid (treesTo1_any px r R n C (gr xss j) wr hI.ints (HD.out.st.ok j hlt).1 HD.out.st.n4 (HD.out.st.ok j hlt).2 HD.out.st.box)
        rw [← HF.out j hlt] at HC
        have HV := Lib.hid hV
        clear hI hV
        cases hfk : f j
        · rw [hfk] at HC
          have HFK := Lib.hid hfk
          have HKN := Lib.hid (kq_no hfk)
          clear hfk
          go_wp2_with fail
          refine HC.out.mono ?_
          rintro e w3 ⟨rfl, hb⟩
          have HD2 := Lib.hid ((HD.out.next hb).no HFK.out)
          clear HC hb HD c1
          go_wp2
          go_roundw
          case rel => exact ⟨j + 1, by omega, by omega, by go_num, by rw [HKN.out], HD2⟩
          case measure => simp [intOf]; omega
        · rw [hfk] at HC
          have HFK := Lib.hid hfk
          have HKN := Lib.hid (show (kp f (j + 1)).length = (kp f j).length + 1 by rw [kq_yes hfk, List.length_append]; rfl)
          clear hfk
          go_wp2_with fail
          refine HC.out.mono ?_
          rintro e w3 ⟨rfl, hb⟩
          have HD1 := Lib.hid (HD.out.next hb)
          have HD2 := Lib.hid (HD1.out.yes HFK.out hlt)
          rw [HV.out] at HD2
          have c2 := HD1.out.cell _ (show (kp f j).length < N by omega)
          have c3 := HD1.out.frz _ (show (kp f j).length < N by omega)
          clear HC hb HD c1 HD1
          generalize (kp f j).length = q at *
          generalize curD f V j q = u at *
          go_wp2
          clear c2 c3
          go_roundw
          case rel => exact ⟨j + 1, by omega, by omega, by go_num, by rw [HKN.out]; go_num, HD2⟩
          case measure => simp [intOf]; omega
      · obtain rfl : j = N := by omega
        have hkj : (kp f j).length < j := by
          have h1 : ∀ d, i + 1 + d ≤ j → (kp f (i + 1 + d)).length < i + 1 + d := by
            intro d
            induction d with
            | zero => intro _; rw [Nat.add_zero, HKL.out]; omega
            | succ d ih =>
              intro hd
              have := ih (by omega)
              rw [← Nat.add_assoc]
              cases hfd : f (i + 1 + d)
              · rw [kq_no hfd]; omega
              · rw [kq_yes hfd, List.length_append, List.length_singleton]; omega
          have := h1 (j - (i + 1)) (by omega)
          rw [show i + 1 + (j - (i + 1)) = j by omega] at this
          exact this
        have HDN := Lib.hid (HD.out.done HF.out cap hcap (by omega))
        have hcl : ∀ ty, (Builtin.clear_ #[22] ty #[.slice (some ⟨b, (kp f j).length, none⟩) (j - (kp f j).length) (cap - (kp f j).length)]).run Try.prog wr = .ok (.tuple #[]) (wr.setCells b (kp f j).length (List.replicate (j - (kp f j).length) (.slice none 0 0))) :=
          fun ty => Lib.run_clear_slice wr _ _ ty _ Try.underlying22 zero_rows rfl rfl b (kp f j).length _ _ (by omega) (fun t ht => by rw [HD.out.cell _ (by omega)]; rfl) (fun t ht => HD.out.frz _ (by omega))
        clear HD
        generalize (kp f j).length = q at *
        go_wp2
        clear hcl
        go_ret
        exact HDN.out
  · have HA := Lib.hid (H2.out.all HF.out hall cap hcap)
    go_wp2
    go_ret
    exact HA.out
end Go.Proofs.Ytidoahicgiaodaa

/- A row under way: its numbers may be set; shares drawn. -/
namespace Go.Proofs.Ytidoahicgiaodaa
open Go.RowKit

theorem BldI.set {lo hi w v xs} (h : BldI lo hi w v xs) {j : Nat} (hj : j < xs.length) (x : Int) :
    ∃ b c, v = .slice (some ⟨b, 0, none⟩) xs.length c ∧ lo ≤ b ∧ b < hi ∧ w.cell? ⟨b, j, none⟩ = some (.int .i64 (gi xs j)) ∧ w.frozen? ⟨b, j, none⟩ = false ∧
      BldI lo hi (w.setCell ⟨b, j, none⟩ (.int .i64 x)) v (xs.set j x) := by
  have hh := h.hi_
  rcases h.own.2 with ⟨_, h0⟩ | ⟨g, cap, cur, rfl, hb, hg, hnc, hcm, hcs, htake⟩
  · omega
  · rw [Nat.mul_one] at htake hcs
    have hB : Blk w g 3 cur := hg
    have hc : cur[j]? = some (.int .i64 (gi xs j)) := by
      rw [← getElem_iv hj, ← htake, List.getElem?_take, if_pos hj]; simp
    refine ⟨g, cap, rfl, hb, hh g rfl, blk_cell hB hc, blk_frozen hB j, ⟨⟨by simp, .inr ⟨g, cap, cur.setIfInBounds j (.int .i64 x), by rw [List.length_set], hb, blk_set hB j _, by rw [List.length_set]; exact hnc, hcm, by simp [hcs], ?_⟩⟩, hh⟩⟩
    rw [List.length_set, Nat.mul_one, Array.toList_setIfInBounds, List.take_set, htake, List.map_set]
    rfl

/-- A row by itself, begun behind the world wb. -/
def SH (w0 wb : World) (g : Nat) (A : Option Addr) (l c p : Nat) (u : Value) (ys : List Int) (w : World) : Prop := TI w0 wb g A l c p wb.heap.size (.slice none 0 0) [] [] u ys w
theorem SH.start {w0 wb g A l c p} (h : Rdr w0 wb g A l c p) : SH w0 wb g A l c p (.slice (some ⟨wb.heap.size, 0, none⟩) 0 0) [] (wb.alloc (.cells #[] 3)) :=
  ⟨h.below_ (below_alloc _ _), Bld.nil _ _ _, by rw [World.size_alloc]; exact BldI.make (Nat.le_refl _), blk_lt h.box, Nat.le_refl _, by simp, grown_of_below (below_alloc _ _)⟩
theorem SH.below {w0 wb g A l c p u ys w w'} (h : SH w0 wb g A l c p u ys w) (k : Below w.heap.size w w') : SH w0 wb g A l c p u ys w' :=
  ⟨h.rd.below_ k, Bld.nil _ _ _, (h.bi.below k).mono k.size, h.gl, h.lh, Nat.le_trans h.hs k.size, grown_below h.up k⟩
theorem SH.one {w0 wb g A l c p p' u ys w w'} (h : SH w0 wb g A l c p u ys w) (hr : Rdr w0 w' g A l c p') (ho : One g w w') : SH w0 wb g A l c p' u ys w' := TI.one h hr ho
theorem SH.set {w0 wb g A l c p u ys w} (h : SH w0 wb g A l c p u ys w) {j : Nat} (hj : j < ys.length) (x : Int) :
    ∃ b cc, u = .slice (some ⟨b, 0, none⟩) ys.length cc ∧ w.cell? ⟨b, j, none⟩ = some (.int .i64 (gi ys j)) ∧ w.frozen? ⟨b, j, none⟩ = false ∧ SH w0 wb g A l c p u (ys.set j x) (w.setCell ⟨b, j, none⟩ (.int .i64 x)) := by
  obtain ⟨b, cc, e, h1, h2, h3, h4, h5⟩ := h.bi.set hj x
  have hgl := h.gl
  have hs : (w.setCell ⟨b, j, none⟩ (.int .i64 x)).heap.size = w.heap.size := by simp [World.setCell]
  refine ⟨b, cc, e, h3, h4, ⟨⟨blk_other h.rd.box (by show g ≠ b; omega) _, h.rd.bytes, h.rd.below.setCell (by show w0.heap.size ≤ b; have := h.rd.lt; omega) _, h.rd.lt, h.rd.small⟩, Bld.nil _ _ _, by rw [hs]; exact h5, h.gl, h.lh, by rw [hs]; exact h.hs, ?_⟩⟩
  exact ⟨h.up.os, h.up.tape, h.up.output, by rw [hs]; exact h.up.size, fun k hk hne => (Below.heap_setCell _ _ _ _ (by show k ≠ b; omega)).trans (h.up.block k hk hne)⟩
def SharesOut (w0 wb : World) (g : Nat) (A : Option Addr) (l c p n : Nat) (e : Ending) (w' : World) : Prop :=
  ∃ Av cv ys p', e = .returned (.slice Av ys.length cv) ∧ ys.length ≤ n + 1 ∧ (∀ x ∈ ys, -1 ≤ x ∧ x ≤ 1001) ∧ SH w0 wb g A l c p' (.slice Av ys.length cv) ys w' ∧ p' ≤ p + 3 * n + 3

end Go.Proofs.Ytidoahicgiaodaa

/- Trees that are tried, by the model. -/
namespace Go.Proofs.Ytidoahicgiaodaa
open Go.RowKit

theorem tmodN (a n : Nat) : ((a : Nat) : Int).tmod (n : Int) = ((a % n : Nat) : Int) := by rw [Int.tmod_eq_emod_of_nonneg (by omega)]; simp
theorem tdivN (a n : Nat) : ((a : Nat) : Int).tdiv (n : Int) = ((a / n : Nat) : Int) := by rw [Int.tdiv_eq_ediv_of_nonneg (by omega)]; simp
noncomputable def TF (c : List (List Int)) (root : Int) : Int := if (pb (VC c) && pb (Blw c.length root)) = true then bw c c.length root.toNat (c.length ^ c.length) else -1

end Go.Proofs.Ytidoahicgiaodaa

