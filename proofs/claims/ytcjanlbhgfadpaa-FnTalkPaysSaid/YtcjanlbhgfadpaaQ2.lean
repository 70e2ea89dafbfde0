/- Texts merged: A4 A5 A6 TK1 Math1 TK0 B1 Math3 S1 IP B2 Tab C1 B3. -/
import Derived.Test.YtcjanlbhgfadpaaQ1
import Derived.Deep.RegionHeld3
/- What an exact law on a game knows at each step. -/
namespace Go.Proofs.Ytcjanlbhgfadpaa
open Go.RowKit

end Go.Proofs.Ytcjanlbhgfadpaa

/- The harness of the exact laws: every cell marked by a number of its own, and looked at again. -/
namespace Go.Proofs.Ytcjanlbhgfadpaa
open Go.RowKit

def seqI (k : Int) (n : Nat) : List Int := (List.range n).map fun (i : Nat) => k + (i : Int)
theorem seqI_len (k : Int) (n : Nat) : (seqI k n).length = n := by simp [seqI]
theorem gi_seqI {k : Int} {n i : Nat} (h : i < n) : gi (seqI k n) i = k + i := by rw [gi_get (by rw [seqI_len]; exact h)]; simp [seqI]
theorem gi_set_eq {xs : List Int} {i : Nat} {v : Int} (h : i < xs.length) : gi (xs.set i v) i = v := by rw [gi_get (by simpa using h)]; simp
theorem gi_set_ne {xs : List Int} {i j : Nat} {v : Int} (h : j < xs.length) (hne : j ≠ i) : gi (xs.set i v) j = gi xs j := by
  rw [gi_get (by simpa using h), gi_get h, List.getElem_set]; simp [Ne.symm hne]

/-- Only block b has turned. -/
structure One (b : Nat) (w w' : World) : Prop where
  os : w'.os = w.os
  tape : w'.tape = w.tape
  output : w'.output = w.output
  size : w'.heap.size = w.heap.size
  block : ∀ g, g ≠ b → w'.heap[g]? = w.heap[g]?
theorem One.refl (b : Nat) (w : World) : One b w w := ⟨rfl, rfl, rfl, rfl, fun _ _ => rfl⟩
theorem One.set {b : Nat} {a w : World} (h : One b a w) (i : Nat) (u : Value) : One b a (w.setCell ⟨b, i, none⟩ u) :=
  ⟨h.os, h.tape, h.output, by simpa [World.setCell] using h.size, fun g hg => (Below.heap_setCell _ _ _ _ hg).trans (h.block g hg)⟩
theorem One.touch {b lo hi : Nat} {w w' : World} (h : One b w w') (h1 : lo ≤ b) (h2 : b < hi) : Touch lo hi w w' := ⟨h.os, h.tape, h.output, h.size, fun k hk => h.block k (by omega)⟩

theorem OwnI.set {lo hi w b o n c xs} (h : OwnI lo hi w b (some ⟨b, o, none⟩) n c xs) {i : Nat} (hi' : i < n) {v : Int} (hv : -9223372036854775808 ≤ v ∧ v ≤ 9223372036854775807) :
    OwnI lo hi (w.setCell ⟨b, o + i, none⟩ (.int .i64 v)) b (some ⟨b, o, none⟩) n c (xs.set i v) := by
  have hl := h.ints.len
  obtain ⟨o', e, h1, h2, hf⟩ := h.own (by omega)
  injection e with e
  injection e with _ e _
  subst e
  obtain ⟨b', o', e, hc⟩ := h.ints.at_ (by omega)
  injection e with e
  injection e with e1 e2 _
  subst e1
  subst e2
  refine ⟨⟨by rw [List.length_set]; exact hl, h.ints.cap, h.ints.max, fun x hx => ?_, fun _ => ⟨b, o, rfl, fun k hk => ?_⟩⟩, fun _ => ⟨o, rfl, h1, h2, fun k hk => ?_⟩⟩
  · rcases List.mem_or_eq_of_mem_set hx with hx | rfl
    · exact h.ints.wf x hx
    · exact hv
  · by_cases e : k = i
    · subst e
      rw [gi_set_eq (by omega), World.cell?_setCell_same w _ _ (hc k hk)]
    · rw [gi_set_ne (by omega) e, World.cell?_setCell_other w _ _ _ (fun e' => by injection e' with _ e' _; omega)]
      exact hc k hk
  · rw [World.frozen?_setCell]; exact hf k hk

def MarkedI (lo hi : Nat) (w : World) (b : Nat) (A : Option Addr) (n c : Nat) (k : Int) (e : Ending) (w' : World) : Prop :=
  e = .returned (.int .i64 (k + n)) ∧ OwnI lo hi w' b A n c (seqI k n) ∧ (n = 0 → w = w') ∧ One b w w'

set_option maxHeartbeats 400000 in
theorem markIntS_any (lo hi b : Nat) (A : Option Addr) (n c : Nat) (xs : List Int) (k : Int) (w : World) (hx : OwnI lo hi w b A n c xs) (h0 : 0 ≤ k) (h1 : k + n ≤ 4611686018427387904) :
    Calls Try.prog 38 #[.slice A n c, .int .i64 k] w (MarkedI lo hi w b A n c k) := by
  have HX := Lib.hid hx
  have mx := hx.ints.max
  clear hx
  go_enter Try.func38, Try.ntmps38
  go_wp2
  go_loopw [1, 5] (fun z i wr => ∃ (j : Nat) (ys : List Int), j ≤ n ∧ i = .int .i64 j ∧ z = .int .i64 (k + j) ∧ Hid (∀ l, l < j → gi ys l = k + l) ∧ Hid (OwnI lo hi wr b A n c ys) ∧ Hid (One b w wr) ∧ Hid (n = 0 → w = wr)) (fun _ i _ => n - (intOf i).toNat)
  case atStart => exact ⟨0, xs, Nat.zero_le _, rfl, by simp, Lib.hid (fun _ h => absurd h (by omega)), HX, Lib.hid (One.refl _ _), Lib.hid (fun _ => rfl)⟩
  case round =>
    obtain ⟨j, ys, hj, rfl, rfl, HA, HO, H1, H0⟩ := hrel
    by_cases hlt : j < n
    · obtain ⟨o, rfl, _, _, hf⟩ := HO.out.own (by omega)
      obtain ⟨b', o', e, hc⟩ := HO.out.ints.at_ (by omega)
      injection e with e
      injection e with e1 e2 _
      subst e1
      subst e2
      have c1 := hc j hlt
      have f1 := hf j hlt
      have HO2 := Lib.hid (HO.out.set hlt (v := k + j) (by omega))
      have H12 := Lib.hid (H1.out.set (o + j) (.int .i64 (k + j)))
      have HL := Lib.hid HO.out.ints.len
      clear hc hf HO H1
      go_wp2
      go_roundw
      case rel => exact ⟨j + 1, _, by omega, by go_num, by congr 1; omega, Lib.hid (fun l hl => by
        by_cases e : l = j
        · subst e; exact gi_set_eq (by rw [HL.out]; exact hlt)
        · rw [gi_set_ne (by rw [HL.out]; omega) e]; exact HA.out l (by omega)), HO2, H12, Lib.hid (fun e => absurd e (by omega))⟩
      case measure => simp [intOf]; omega
    · obtain rfl : j = n := by omega
      have e : ys = seqI k j := gi_ext (by rw [HO.out.ints.len, seqI_len]) fun l hl => by
        rw [HO.out.ints.len] at hl
        rw [HA.out l hl, gi_seqI hl]
      have HO2 := Lib.hid (e ▸ HO.out)
      clear e HO
      go_wp2
      go_ret
      exact ⟨rfl, HO2.out, H0.out, H1.out⟩

set_option maxHeartbeats 400000 in
theorem heldIntS_any (A : Option Addr) (n c : Nat) (k : Int) (w : World) (hx : Ints w A n c (seqI k n)) (h0 : 0 ≤ k) (h1 : k + n ≤ 4611686018427387904) :
    Calls Try.prog 39 #[.slice A n c, .int .i64 k] w fun e w' => e = .returned (.int .i64 (k + n)) ∧ Quiet w w' := by
  have mx := hx.max
  have HX := Lib.hid hx
  clear hx
  go_enter Try.func39, Try.ntmps39
  go_wp2
  go_loopw [1, 5] (fun z i wr => ∃ (j : Nat), j ≤ n ∧ i = .int .i64 j ∧ z = .int .i64 (k + j) ∧ Quiet w wr) (fun _ i _ => n - (intOf i).toNat)
  case atStart => exact ⟨0, Nat.zero_le _, rfl, by simp, Quiet.refl _⟩
  case round =>
    obtain ⟨j, hj, rfl, rfl, q, rfl⟩ := hrel
    by_cases hlt : j < n
    · obtain ⟨b, o, rfl, hc⟩ := HX.out.at_ (by omega)
      have c1 := hc j hlt
      rw [gi_seqI hlt] at c1
      clear hc
      go_wp2
      go_roundw
      case rel => exact ⟨j + 1, by omega, by go_num, by congr 1; omega, ⟨_, rfl⟩⟩
      case measure => simp [intOf]; omega
    · obtain rfl : j = n := by omega
      go_wp2
      go_ret
      exact ⟨rfl, ⟨_, rfl⟩⟩

/-- How many numbers stand ahead of row j; the rows as they are marked. -/
def offs (xss : List (List Int)) : Nat → Int
  | 0 => 0
  | j + 1 => offs xss j + (gr xss j).length
theorem offs_ge (xss : List (List Int)) : ∀ j, 0 ≤ offs xss j
  | 0 => Int.le_refl _
  | j + 1 => by have := offs_ge xss j; simp only [offs]; omega
theorem offs_mono (xss : List (List Int)) {i j : Nat} (h : i ≤ j) : offs xss i ≤ offs xss j := by
  induction j with
  | zero => obtain rfl : i = 0 := by omega
            exact Int.le_refl _
  | succ j ih =>
    by_cases e : i = j + 1
    · subst e; exact Int.le_refl _
    · have := ih (by omega); simp only [offs]; omega
def mkR (k : Int) (xss : List (List Int)) : List (List Int) := (List.range xss.length).map fun j => seqI (k + offs xss j) (gr xss j).length
theorem mkR_len (k : Int) (xss : List (List Int)) : (mkR k xss).length = xss.length := by simp [mkR]
theorem gr_mkR {k : Int} {xss : List (List Int)} {j : Nat} (h : j < xss.length) : gr (mkR k xss) j = seqI (k + offs xss j) (gr xss j).length := by
  rw [gr_get (by rw [mkR_len]; exact h)]; simp [mkR]

theorem gr_set_eq {xs : List (List Int)} {i : Nat} {v : List Int} (h : i < xs.length) : gr (xs.set i v) i = v := by rw [gr_get (by simpa using h)]; simp
theorem gr_set_ne {xs : List (List Int)} {i j : Nat} {v : List Int} (hne : j ≠ i) : gr (xs.set i v) j = gr xs j := by
  unfold gr; rw [List.getD_eq_getElem?_getD, List.getD_eq_getElem?_getD, List.getElem?_set_ne (Ne.symm hne)]

/-- A row of its own, and what comes of the rows when it alone is written. -/
theorem OwnR.at_row {lo hi w b A n c xss} (h : OwnR lo hi w b A n c xss) {i : Nat} (hi' : i < n) :
    ∃ o g R cc, A = some ⟨b, o, none⟩ ∧ w.cell? ⟨b, o + i, none⟩ = some (.slice R (gr xss i).length cc) ∧ OwnI lo hi w g R (gr xss i).length cc (gr xss i) ∧
      ∀ w' r, r.length = (gr xss i).length → OwnI lo hi w' g R (gr xss i).length cc r → ((gr xss i).length = 0 → w = w') → One g w w' → OwnR lo hi w' b A n c (xss.set i r) ∧ Touch lo hi w w' := by
  obtain ⟨o, G, R, C, rfl, h1, h2, hr, hd⟩ := h.at_ (by omega)
  have hl := h.len
  refine ⟨o, G i, R i, C i, rfl, (hr i hi').2.1, (hr i hi').2.2.1, fun w' r hrl hown h0 hone => ?_⟩
  have hsame : ∀ g, (0 < (gr xss i).length → g ≠ G i) → w'.heap[g]? = w.heap[g]? := fun g hg => by
    by_cases e : 0 < (gr xss i).length
    · exact hone.block g (hg e)
    · rw [h0 (by omega)]
  refine ⟨⟨by rw [List.length_set]; exact hl, h.cap, h.max, fun _ => ⟨o, G, R, C, rfl, h1, h2, fun k hk => ?_, fun j k hjk hk hj0 hk0 => ?_⟩⟩, ?_⟩
  · have eb := hsame b (fun hp => (Ne.symm ((hr i hi').2.2.2 hp)))
    have el : (gr (xss.set i r) k).length = (gr xss k).length := by
      by_cases e : k = i
      · subst e; rw [gr_set_eq (by omega), hrl]
      · rw [gr_set_ne e]
    rw [el]
    refine ⟨by rw [World.frozen?_of_block (w := w) eb]; exact (hr k hk).1, by rw [World.cell?_of_block (w := w) eb]; exact (hr k hk).2.1, ?_, (hr k hk).2.2.2⟩
    by_cases e : k = i
    · subst e; rw [gr_set_eq (by omega)]; exact hown
    · rw [gr_set_ne e]
      exact (hr k hk).2.2.1.of_block fun hp => hsame _ fun hp' => by
        rcases Nat.lt_or_gt_of_ne e with h | h
        · exact hd k i h hi' hp hp'
        · exact Ne.symm (hd i k h hk hp' hp)
  · have el : ∀ k, (gr (xss.set i r) k).length = (gr xss k).length := fun k => by
      by_cases e : k = i
      · subst e; rw [gr_set_eq (by omega), hrl]
      · rw [gr_set_ne e]
    rw [el] at hj0 hk0
    exact hd j k hjk hk hj0 hk0
  · by_cases e : 0 < (gr xss i).length
    · obtain ⟨_, _, q1, q2, _⟩ := (hr i hi').2.2.1.own e
      exact hone.touch q1 q2
    · rw [h0 (by omega)]; exact Touch.refl _ _ _

def MarkedR (lo hi : Nat) (w : World) (b : Nat) (A : Option Addr) (n c : Nat) (xss : List (List Int)) (k : Int) (e : Ending) (w' : World) : Prop :=
  e = .returned (.int .i64 (k + offs xss n)) ∧ OwnR lo hi w' b A n c (mkR k xss) ∧ Touch lo hi w w'

set_option maxHeartbeats 1000000 in
theorem markIntSS_any (lo hi b : Nat) (A : Option Addr) (n c : Nat) (xss : List (List Int)) (k : Int) (w : World) (hx : OwnR lo hi w b A n c xss) (h0 : 0 ≤ k) (h1 : k + offs xss n ≤ 4611686018427387904) :
    Calls Try.prog 41 #[.slice A n c, .int .i64 k] w (MarkedR lo hi w b A n c xss k) := by
  have HX := Lib.hid hx
  have mx := hx.max
  have HL := Lib.hid hx.len
  clear hx
  go_enter Try.func41, Try.ntmps41
  go_wp2
  go_loopw [1, 5] (fun z i wr => ∃ (j : Nat) (yss : List (List Int)), j ≤ n ∧ i = .int .i64 j ∧ z = .int .i64 (k + offs xss j) ∧ Hid (∀ l, l < j → gr yss l = seqI (k + offs xss l) (gr xss l).length) ∧ Hid (∀ l, j ≤ l → gr yss l = gr xss l) ∧ Hid (OwnR lo hi wr b A n c yss) ∧ Hid (Touch lo hi w wr)) (fun _ i _ => n - (intOf i).toNat)
  case atStart => exact ⟨0, xss, Nat.zero_le _, rfl, by simp [offs], Lib.hid (fun _ h => absurd h (by omega)), Lib.hid (fun _ _ => rfl), HX, Lib.hid (Touch.refl _ _ _)⟩
  case round =>
    obtain ⟨j, yss, hj, rfl, rfl, HA, HB, HO, HT⟩ := hrel
    by_cases hlt : j < n
    · obtain ⟨o, g, R, cc, rfl, c1, hI, hset⟩ := HO.out.at_row hlt
      rw [HB.out j (Nat.le_refl _)] at c1 hI hset
      have hge := offs_ge xss j
      have hmono := offs_mono xss (i := j + 1) (j := n) hlt
      have HOF := Lib.hid (show offs xss (j + 1) = offs xss j + (gr xss j).length from rfl)
      have HC := Lib.hid (markIntS_any lo hi g R _ cc _ (k + offs xss j) _ hI (by omega) (by have := HOF.out; omega))
      have HS := Lib.hid hset
      clear hI hset hge hmono
      go_wp2_with fail
      refine HC.out.mono ?_
      rintro e w2 ⟨rfl, hown, h0', hone⟩
      obtain ⟨hR, hT⟩ := HS.out w2 _ (seqI_len _ _) hown h0' hone
      have HR := Lib.hid hR
      have HT2 := Lib.hid (HT.out.trans hT)
      have HYL := Lib.hid HO.out.len
      clear hown h0' hone hR hT HS HC HT c1 HO
      go_wp2
      go_roundw
      case rel => exact ⟨j + 1, _, by omega, by go_num, by rw [HOF.out]; congr 1; omega, Lib.hid (fun l hl => by
        by_cases e : l = j
        · subst e; exact gr_set_eq (by rw [HYL.out]; exact hlt)
        · rw [gr_set_ne e]; exact HA.out l (by omega)), Lib.hid (fun l hl => by rw [gr_set_ne (by omega)]; exact HB.out l (by omega)), HR, HT2⟩
      case measure => simp [intOf]; omega
    · obtain rfl : j = n := by omega
      have e : yss = mkR k xss := gr_ext (by rw [HO.out.len, mkR_len, HL.out]) fun l hl => by
        rw [HO.out.len] at hl
        rw [HA.out l hl, gr_mkR (by rw [HL.out]; exact hl)]
      have HO2 := Lib.hid (e ▸ HO.out)
      clear e HO
      go_wp2
      go_ret
      exact ⟨rfl, HO2.out, HT.out⟩

set_option maxHeartbeats 1000000 in
theorem heldIntSS_any (A : Option Addr) (n c : Nat) (xss : List (List Int)) (k : Int) (w : World) (hx : IntRows w A n c (mkR k xss)) (h0 : 0 ≤ k) (h1 : k + offs xss n ≤ 4611686018427387904) :
    Calls Try.prog 42 #[.slice A n c, .int .i64 k] w fun e w' => e = .returned (.int .i64 (k + offs xss n)) ∧ Quiet w w' := by
  have HX := Lib.hid hx
  have mx := hx.max
  have hl := hx.len
  rw [mkR_len] at hl
  have HL := Lib.hid hl
  clear hx hl
  go_enter Try.func42, Try.ntmps42
  go_wp2
  go_loopw [1, 5] (fun z i wr => ∃ (j : Nat), j ≤ n ∧ i = .int .i64 j ∧ z = .int .i64 (k + offs xss j) ∧ Quiet w wr) (fun _ i _ => n - (intOf i).toNat)
  case atStart => exact ⟨0, Nat.zero_le _, rfl, by simp [offs], Quiet.refl _⟩
  case round =>
    obtain ⟨j, hj, rfl, rfl, q, rfl⟩ := hrel
    by_cases hlt : j < n
    · obtain ⟨b, o, rfl, hc⟩ := HX.out.at_ (by omega)
      obtain ⟨R, cc, c1, hI⟩ := hc j hlt
      rw [gr_mkR (by rw [HL.out]; exact hlt), seqI_len] at c1 hI
      have hge := offs_ge xss j
      have hmono := offs_mono xss (i := j + 1) (j := n) hlt
      have HOF := Lib.hid (show offs xss (j + 1) = offs xss j + (gr xss j).length from rfl)
      have HC := Lib.hid (heldIntS_any R _ cc (k + offs xss j) (w.drewN q) (hI.keep (Keep.quiet ⟨_, rfl⟩)) (by omega) (by have := HOF.out; omega))
      clear hI hc hmono
      go_wp2_with fail
      refine HC.out.mono ?_
      rintro e w2 ⟨rfl, q2, rfl⟩
      clear HC
      go_wp2
      go_roundw
      case rel => exact ⟨j + 1, by omega, by go_num, by rw [HOF.out]; congr 1; omega, by first | exact ⟨_, rfl⟩ | exact Quiet.two _ _ _⟩
      case measure => simp [intOf]; omega
    · obtain rfl : j = n := by omega
      go_wp2
      go_ret
      exact ⟨rfl, ⟨_, rfl⟩⟩
end Go.Proofs.Ytcjanlbhgfadpaa

/- The harness of the exact laws: a copy of a game marked; how many numbers it has. -/
namespace Go.Proofs.Ytcjanlbhgfadpaa
open Go.RowKit

theorem szR_offs (left : Int) (xs : List (List Int)) (h : 0 ≤ szR left xs) : szR left xs = left - offs xs xs.length := by
  have key : ∀ (xs : List (List Int)) (left : Int), 0 ≤ szR left xs → szR left xs = left - ((xs.map List.length).sum : Nat) := by
    intro xs
    induction xs with
    | nil => intro left _; simp [szR]
    | cons x xs ih =>
      intro left h
      by_cases hn : szI left x.length < 0
      · rw [szR_neg hn] at h; omega
      · rw [szR_pos hn] at h ⊢
        rw [ih _ h]
        have : szI left x.length = left - x.length := by unfold szI at hn ⊢; split <;> simp_all
        rw [this]
        simp
        omega
  have key2 : ∀ k, k ≤ xs.length → offs xs k = (((xs.take k).map List.length).sum : Nat) := by
    intro k
    induction k with
    | zero => intro _; simp [offs]
    | succ k ih =>
      intro hk
      rw [offs, ih (by omega), List.take_succ_eq_append_getElem (by omega), List.map_append, List.sum_append, gr_get (by omega)]
      simp
  rw [key xs left h, key2 _ (Nat.le_refl _), List.take_length]
theorem szRR_offs {left : Int} {xs : List (List Int)} (h : ¬ szRR left xs < 0) : offs xs xs.length ≤ left := by
  unfold szRR at h
  split at h
  · omega
  · rename_i hn
    have := szR_offs _ _ (by omega : 0 ≤ szR (szI left xs.length) xs)
    have h2 : szI left xs.length ≤ left := by unfold szI at hn ⊢; split <;> simp_all; omega
    omega
theorem szG_offs {left : Int} {xs ys : List (List Int)} (h : ¬ szG left xs ys < 0) (h0 : 0 ≤ left) (h1 : left ≤ 1048576) : offs xs xs.length ≤ 1048576 ∧ offs ys ys.length ≤ 1048576 := by
  unfold szG at h
  split at h
  · omega
  · rename_i hn
    split at h
    · omega
    · rename_i hn2
      have := szRR_offs hn
      have := szRR_offs hn2
      have := szRR_le left xs h0 h1
      omega

/-- A game marked: only its own rows have turned, and new blocks are there. -/
def MarkedG (lo hi : Nat) (w : World) (xs ys : List (List Int)) (k : Int) (e : Ending) (w' : World) : Prop :=
  e = .returned (.int .i64 (k + offs xs xs.length + offs ys ys.length)) ∧ ∃ w1, Below w.heap.size w w1 ∧ Touch lo hi w1 w'

def MarkedP (lo hi : Nat) (w : World) (xs ys : List (List Int)) (k : Int) (n m : Nat) (e : Ending) (w' : World) : Prop :=
  e = .returned (.int .i64 (k + offs xs n + offs ys m)) ∧ ∃ w1, Below w.heap.size w w1 ∧ Touch lo hi w1 w'

theorem offs_le {xss : List (List Int)} (h : ∀ r ∈ xss, r.length ≤ 3) : ∀ k, k ≤ xss.length → offs xss k ≤ 3 * k
  | 0, _ => by simp [offs]
  | k + 1, hk => by
    have h1 := offs_le h k (by omega)
    have h2 := h _ (gr_mem (xs := xss) (k := k) (by omega))
    simp only [offs]
    omega

end Go.Proofs.Ytcjanlbhgfadpaa

/- The harness of the exact laws: talks. -/
namespace Go.Proofs.Ytcjanlbhgfadpaa
open Go.RowKit

/-- A talk's fields as lists. -/
structure TkR (w : World) (A1 A2 A3 A4 : Option Addr) (n1 c1 n2 c2 n3 c3 n4 c4 : Nat) (xs : List Int) (ss hs ks : List (List Int)) : Prop where
  r1 : Ints w A1 n1 c1 xs
  r2 : IntRows w A2 n2 c2 ss
  r3 : IntRows w A3 n3 c3 hs
  r4 : IntRows w A4 n4 c4 ks
theorem TkR.keep {w w' A1 A2 A3 A4 n1 c1 n2 c2 n3 c3 n4 c4 xs ss hs ks} (h : TkR w A1 A2 A3 A4 n1 c1 n2 c2 n3 c3 n4 c4 xs ss hs ks) (k : Keep w w') : TkR w' A1 A2 A3 A4 n1 c1 n2 c2 n3 c3 n4 c4 xs ss hs ks := ⟨h.r1.keep k, h.r2.keep k, h.r3.keep k, h.r4.keep k⟩
/-- A talk in a box g. -/
structure TLX (w : World) (g : Nat) (t : TypeId) (A1 A2 A3 A4 : Option Addr) (n1 c1 n2 c2 n3 c3 n4 c4 : Nat) (xs : List Int) (ss hs ks : List (List Int)) : Prop where
  box : Blk w g t #[.slice A1 n1 c1, .slice A2 n2 c2, .slice A3 n3 c3, .slice A4 n4 c4]
  r : TkR w A1 A2 A3 A4 n1 c1 n2 c2 n3 c3 n4 c4 xs ss hs ks
theorem TLX.up {w w' g t A1 A2 A3 A4 n1 c1 n2 c2 n3 c3 n4 c4 xs ss hs ks} (h : TLX w g t A1 A2 A3 A4 n1 c1 n2 c2 n3 c3 n4 c4 xs ss hs ks) (k : Below w.heap.size w w') : TLX w' g t A1 A2 A3 A4 n1 c1 n2 c2 n3 c3 n4 c4 xs ss hs ks := ⟨blk_below h.box k, h.r.keep (Keep.below k)⟩
theorem TLX.keep {w w' g t A1 A2 A3 A4 n1 c1 n2 c2 n3 c3 n4 c4 xs ss hs ks} (h : TLX w g t A1 A2 A3 A4 n1 c1 n2 c2 n3 c3 n4 c4 xs ss hs ks) (k : Below w.heap.size w w') : TLX w' g t A1 A2 A3 A4 n1 c1 n2 c2 n3 c3 n4 c4 xs ss hs ks := h.up k
theorem TLX.c0 {w g t A1 A2 A3 A4 n1 c1 n2 c2 n3 c3 n4 c4 xs ss hs ks} (h : TLX w g t A1 A2 A3 A4 n1 c1 n2 c2 n3 c3 n4 c4 xs ss hs ks) : w.cell? ⟨g, 0, none⟩ = some (.slice A1 n1 c1) := blk_cell h.box rfl
theorem TLX.c1 {w g t A1 A2 A3 A4 n1 c1 n2 c2 n3 c3 n4 c4 xs ss hs ks} (h : TLX w g t A1 A2 A3 A4 n1 c1 n2 c2 n3 c3 n4 c4 xs ss hs ks) : w.cell? ⟨g, 1, none⟩ = some (.slice A2 n2 c2) := blk_cell h.box rfl
theorem TLX.c2 {w g t A1 A2 A3 A4 n1 c1 n2 c2 n3 c3 n4 c4 xs ss hs ks} (h : TLX w g t A1 A2 A3 A4 n1 c1 n2 c2 n3 c3 n4 c4 xs ss hs ks) : w.cell? ⟨g, 2, none⟩ = some (.slice A3 n3 c3) := blk_cell h.box rfl
theorem TLX.c3 {w g t A1 A2 A3 A4 n1 c1 n2 c2 n3 c3 n4 c4 xs ss hs ks} (h : TLX w g t A1 A2 A3 A4 n1 c1 n2 c2 n3 c3 n4 c4 xs ss hs ks) : w.cell? ⟨g, 3, none⟩ = some (.slice A4 n4 c4) := blk_cell h.box rfl
theorem TLX.start {w : World} {A1 A2 A3 A4 n1 c1 n2 c2 n3 c3 n4 c4 xs ss hs ks} (t : TypeId) (h : TkR w A1 A2 A3 A4 n1 c1 n2 c2 n3 c3 n4 c4 xs ss hs ks) : TLX (w.alloc (.cells #[.slice A1 n1 c1, .slice A2 n2 c2, .slice A3 n3 c3, .slice A4 n4 c4] t)) w.heap.size t A1 A2 A3 A4 n1 c1 n2 c2 n3 c3 n4 c4 xs ss hs ks := ⟨blk_new _ _ _, h.keep (Keep.below (below_alloc _ _))⟩

/-- A copy of its own. -/
structure TkO (lo hi : Nat) (w : World) (g1 g2 g3 g4 n1 n2 n3 n4 : Nat) (xs : List Int) (ss hs ks : List (List Int)) : Prop where
  o1 : OwnI lo g2 w g1 (some ⟨g1, 0, none⟩) n1 n1 xs
  o2 : OwnR g2 g3 w g2 (some ⟨g2, 0, none⟩) n2 n2 ss
  o3 : OwnR g3 g4 w g3 (some ⟨g3, 0, none⟩) n3 n3 hs
  o4 : OwnR g4 hi w g4 (some ⟨g4, 0, none⟩) n4 n4 ks
  l2 : lo ≤ g2
  l3 : g2 ≤ g3
  l4 : g3 ≤ g4
  l5 : g4 ≤ hi
theorem TkO.below {lo hi w w' g1 g2 g3 g4 n1 n2 n3 n4 xs ss hs ks} (h : TkO lo hi w g1 g2 g3 g4 n1 n2 n3 n4 xs ss hs ks) (k : Below w.heap.size w w') : TkO lo hi w' g1 g2 g3 g4 n1 n2 n3 n4 xs ss hs ks :=
  ⟨h.o1.below k, h.o2.below k, h.o3.below k, h.o4.below k, h.l2, h.l3, h.l4, h.l5⟩
theorem TkO.r {lo hi w g1 g2 g3 g4 n1 n2 n3 n4 xs ss hs ks} (h : TkO lo hi w g1 g2 g3 g4 n1 n2 n3 n4 xs ss hs ks) :
    TkR w (some ⟨g1, 0, none⟩) (some ⟨g2, 0, none⟩) (some ⟨g3, 0, none⟩) (some ⟨g4, 0, none⟩) n1 n1 n2 n2 n3 n3 n4 n4 xs ss hs ks := ⟨h.o1.ints, h.o2.rows, h.o3.rows, h.o4.rows⟩
/-- .. in a box g behind it. -/
structure TLO (lo hi : Nat) (w : World) (g g1 g2 g3 g4 n1 n2 n3 n4 : Nat) (xs : List Int) (ss hs ks : List (List Int)) : Prop where
  box : Blk w g 26 #[.slice (some ⟨g1, 0, none⟩) n1 n1, .slice (some ⟨g2, 0, none⟩) n2 n2, .slice (some ⟨g3, 0, none⟩) n3 n3, .slice (some ⟨g4, 0, none⟩) n4 n4]
  o : TkO lo hi w g1 g2 g3 g4 n1 n2 n3 n4 xs ss hs ks
  le : hi ≤ w.heap.size
  lt : hi ≤ g
theorem TLO.up {lo hi w w' g g1 g2 g3 g4 n1 n2 n3 n4 xs ss hs ks} (h : TLO lo hi w g g1 g2 g3 g4 n1 n2 n3 n4 xs ss hs ks) (k : Below w.heap.size w w') : TLO lo hi w' g g1 g2 g3 g4 n1 n2 n3 n4 xs ss hs ks :=
  ⟨blk_below h.box k, h.o.below k, Nat.le_trans h.le k.size, h.lt⟩
theorem TLO.tx {lo hi w g g1 g2 g3 g4 n1 n2 n3 n4 xs ss hs ks} (h : TLO lo hi w g g1 g2 g3 g4 n1 n2 n3 n4 xs ss hs ks) :
    TLX w g 26 (some ⟨g1, 0, none⟩) (some ⟨g2, 0, none⟩) (some ⟨g3, 0, none⟩) (some ⟨g4, 0, none⟩) n1 n1 n2 n2 n3 n3 n4 n4 xs ss hs ks := ⟨h.box, h.o.r⟩
theorem TLO.start {lo hi : Nat} {w : World} {g1 g2 g3 g4 n1 n2 n3 n4 : Nat} {xs : List Int} {ss hs ks : List (List Int)} (h : TkO lo hi w g1 g2 g3 g4 n1 n2 n3 n4 xs ss hs ks) (hle : hi ≤ w.heap.size) :
    TLO lo hi (w.alloc (.cells #[.slice (some ⟨g1, 0, none⟩) n1 n1, .slice (some ⟨g2, 0, none⟩) n2 n2, .slice (some ⟨g3, 0, none⟩) n3 n3, .slice (some ⟨g4, 0, none⟩) n4 n4] 26)) w.heap.size g1 g2 g3 g4 n1 n2 n3 n4 xs ss hs ks :=
  ⟨blk_new _ _ _, h.below (below_alloc _ _), by rw [World.size_alloc]; omega, hle⟩

def szT (left : Int) (n : Nat) (ss hs ks : List (List Int)) : Int :=
  if szI left n < 0 then -1 else if szRR (szI left n) ss < 0 then -1 else if szRR (szRR (szI left n) ss) hs < 0 then -1 else if szRR (szRR (szRR (szI left n) ss) hs) ks < 0 then -1 else szRR (szRR (szRR (szI left n) ss) hs) ks
theorem szT_offs {left : Int} {n : Nat} {ss hs ks : List (List Int)} (h : ¬ szT left n ss hs ks < 0) (h0 : 0 ≤ left) (h1 : left ≤ 1048576) :
    (n : Int) ≤ 1048576 ∧ offs ss ss.length ≤ 1048576 ∧ offs hs hs.length ≤ 1048576 ∧ offs ks ks.length ≤ 1048576 := by
  unfold szT at h
  split at h
  · omega
  rename_i e1
  split at h
  · omega
  rename_i e2
  split at h
  · omega
  rename_i e3
  split at h
  · omega
  rename_i e4
  have b1 := szI_le left n h0 h1
  have b2 := szRR_le (szI left n) ss (by omega) b1.2
  have b3 := szRR_le (szRR (szI left n) ss) hs (by omega) b2.2
  have q2 := szRR_offs e2
  have q3 := szRR_offs e3
  have q4 := szRR_offs e4
  have h3 : (n : Int) ≤ left := by unfold szI at e1; split at e1 <;> omega
  omega
set_option maxHeartbeats 800000 in
theorem szTalk_any (A1 A2 A3 A4 : Option Addr) (n1 c1 n2 c2 n3 c3 n4 c4 : Nat) (xs : List Int) (ss hs ks : List (List Int)) (left : Int) (w : World) (h : TkR w A1 A2 A3 A4 n1 c1 n2 c2 n3 c3 n4 c4 xs ss hs ks) (h0 : 0 ≤ left) (h1 : left ≤ 1048576) :
    Calls Try.prog 33 #[.agg #[.slice A1 n1 c1, .slice A2 n2 c2, .slice A3 n3 c3, .slice A4 n4 c4], .int .i64 left] w fun e w' => e = .returned (.int .i64 (szT left n1 ss hs ks)) ∧ Below w.heap.size w w' := by
  have hmx := h.r1.max
  have HT := Lib.hid (TLX.start 40 h)
  have HB := Lib.hid (below_alloc w (.cells #[.slice A1 n1 c1, .slice A2 n2 c2, .slice A3 n3 c3, .slice A4 n4 c4] 40))
  clear h
  have b0 := szI_le left n1 h0 h1
  by_cases e0 : szI left n1 < 0
  · have HS := Lib.hid (show szT left n1 ss hs ks = -1 by unfold szT; rw [if_pos e0])
    go_enter Try.func33, Try.ntmps33
    go_wp2_with fail
    generalize w.alloc (.cells #[.slice A1 n1 c1, .slice A2 n2 c2, .slice A3 n3 c3, .slice A4 n4 c4] 40) = W0 at *
    refine (szIntS_any _ _ _ _ _ hmx h0 h1).mono ?_
    rintro e w1 ⟨rfl, rfl⟩
    go_wp2
    go_ret
    exact ⟨ret_int HS.out.symm, HB.out⟩
  have b1 := szRR_le (szI left n1) ss (by omega) b0.2
  by_cases e1 : szRR (szI left n1) ss < 0
  · have HS := Lib.hid (show szT left n1 ss hs ks = -1 by unfold szT; rw [if_neg e0, if_pos e1])
    go_enter Try.func33, Try.ntmps33
    go_wp2_with fail
    generalize w.alloc (.cells #[.slice A1 n1 c1, .slice A2 n2 c2, .slice A3 n3 c3, .slice A4 n4 c4] 40) = W0 at *
    refine (szIntS_any _ _ _ _ _ hmx h0 h1).mono ?_
    rintro e w1 ⟨rfl, rfl⟩
    have q1 := HT.out.c1
    go_wp2_with fail
    clear q1
    refine (szIntSS_any _ _ _ _ _ _ HT.out.r.r2 (by omega) (by omega)).mono ?_
    rintro e v1 ⟨rfl, hq⟩
    have HT1 := Lib.hid (HT.out.up hq.below)
    have HB1 := Lib.hid (below_quiet HB.out hq)
    clear hq HT HB
    go_wp2
    go_ret
    exact ⟨ret_int HS.out.symm, HB1.out⟩
  have b2 := szRR_le (szRR (szI left n1) ss) hs (by omega) b1.2
  by_cases e2 : szRR (szRR (szI left n1) ss) hs < 0
  · have HS := Lib.hid (show szT left n1 ss hs ks = -1 by unfold szT; rw [if_neg e0, if_neg e1, if_pos e2])
    go_enter Try.func33, Try.ntmps33
    go_wp2_with fail
    generalize w.alloc (.cells #[.slice A1 n1 c1, .slice A2 n2 c2, .slice A3 n3 c3, .slice A4 n4 c4] 40) = W0 at *
    refine (szIntS_any _ _ _ _ _ hmx h0 h1).mono ?_
    rintro e w1 ⟨rfl, rfl⟩
    have q1 := HT.out.c1
    go_wp2_with fail
    clear q1
    refine (szIntSS_any _ _ _ _ _ _ HT.out.r.r2 (by omega) (by omega)).mono ?_
    rintro e v1 ⟨rfl, hq⟩
    have HT1 := Lib.hid (HT.out.up hq.below)
    have HB1 := Lib.hid (below_quiet HB.out hq)
    clear hq HT HB
    have q2 := HT1.out.c2
    go_wp2_with fail
    clear q2
    refine (szIntSS_any _ _ _ _ _ _ HT1.out.r.r3 (by omega) (by omega)).mono ?_
    rintro e v2 ⟨rfl, hq⟩
    have HT2 := Lib.hid (HT1.out.up hq.below)
    have HB2 := Lib.hid (below_quiet HB1.out hq)
    clear hq HT1 HB1
    go_wp2
    go_ret
    exact ⟨ret_int HS.out.symm, HB2.out⟩
  have b3 := szRR_le (szRR (szRR (szI left n1) ss) hs) ks (by omega) b2.2
  by_cases e3 : szRR (szRR (szRR (szI left n1) ss) hs) ks < 0
  · have HS := Lib.hid (show szT left n1 ss hs ks = -1 by unfold szT; rw [if_neg e0, if_neg e1, if_neg e2, if_pos e3])
    go_enter Try.func33, Try.ntmps33
    go_wp2_with fail
    generalize w.alloc (.cells #[.slice A1 n1 c1, .slice A2 n2 c2, .slice A3 n3 c3, .slice A4 n4 c4] 40) = W0 at *
    refine (szIntS_any _ _ _ _ _ hmx h0 h1).mono ?_
    rintro e w1 ⟨rfl, rfl⟩
    have q1 := HT.out.c1
    go_wp2_with fail
    clear q1
    refine (szIntSS_any _ _ _ _ _ _ HT.out.r.r2 (by omega) (by omega)).mono ?_
    rintro e v1 ⟨rfl, hq⟩
    have HT1 := Lib.hid (HT.out.up hq.below)
    have HB1 := Lib.hid (below_quiet HB.out hq)
    clear hq HT HB
    have q2 := HT1.out.c2
    go_wp2_with fail
    clear q2
    refine (szIntSS_any _ _ _ _ _ _ HT1.out.r.r3 (by omega) (by omega)).mono ?_
    rintro e v2 ⟨rfl, hq⟩
    have HT2 := Lib.hid (HT1.out.up hq.below)
    have HB2 := Lib.hid (below_quiet HB1.out hq)
    clear hq HT1 HB1
    have q3 := HT2.out.c3
    go_wp2_with fail
    clear q3
    refine (szIntSS_any _ _ _ _ _ _ HT2.out.r.r4 (by omega) (by omega)).mono ?_
    rintro e v3 ⟨rfl, hq⟩
    have HT3 := Lib.hid (HT2.out.up hq.below)
    have HB3 := Lib.hid (below_quiet HB2.out hq)
    clear hq HT2 HB2
    go_wp2
    go_ret
    exact ⟨ret_int HS.out.symm, HB3.out⟩
  have HS := Lib.hid (show szT left n1 ss hs ks = szRR (szRR (szRR (szI left n1) ss) hs) ks by unfold szT; rw [if_neg e0, if_neg e1, if_neg e2, if_neg e3])
  go_enter Try.func33, Try.ntmps33
  go_wp2_with fail
  generalize w.alloc (.cells #[.slice A1 n1 c1, .slice A2 n2 c2, .slice A3 n3 c3, .slice A4 n4 c4] 40) = W0 at *
  refine (szIntS_any _ _ _ _ _ hmx h0 h1).mono ?_
  rintro e w1 ⟨rfl, rfl⟩
  have q1 := HT.out.c1
  go_wp2_with fail
  clear q1
  refine (szIntSS_any _ _ _ _ _ _ HT.out.r.r2 (by omega) (by omega)).mono ?_
  rintro e v1 ⟨rfl, hq⟩
  have HT1 := Lib.hid (HT.out.up hq.below)
  have HB1 := Lib.hid (below_quiet HB.out hq)
  clear hq HT HB
  have q2 := HT1.out.c2
  go_wp2_with fail
  clear q2
  refine (szIntSS_any _ _ _ _ _ _ HT1.out.r.r3 (by omega) (by omega)).mono ?_
  rintro e v2 ⟨rfl, hq⟩
  have HT2 := Lib.hid (HT1.out.up hq.below)
  have HB2 := Lib.hid (below_quiet HB1.out hq)
  clear hq HT1 HB1
  have q3 := HT2.out.c3
  go_wp2_with fail
  clear q3
  refine (szIntSS_any _ _ _ _ _ _ HT2.out.r.r4 (by omega) (by omega)).mono ?_
  rintro e v3 ⟨rfl, hq⟩
  have HT3 := Lib.hid (HT2.out.up hq.below)
  have HB3 := Lib.hid (below_quiet HB2.out hq)
  clear hq HT2 HB2
  go_wp2
  go_ret
  exact ⟨ret_int HS.out.symm, HB3.out⟩

def MadeTk (w : World) (n1 n2 n3 n4 : Nat) (xs : List Int) (ss hs ks : List (List Int)) (e : Ending) (w' : World) : Prop :=
  ∃ g1 g2 g3 g4, e = .returned (.agg #[.slice (some ⟨g1, 0, none⟩) n1 n1, .slice (some ⟨g2, 0, none⟩) n2 n2, .slice (some ⟨g3, 0, none⟩) n3 n3, .slice (some ⟨g4, 0, none⟩) n4 n4]) ∧ TkO w.heap.size w'.heap.size w' g1 g2 g3 g4 n1 n2 n3 n4 xs ss hs ks ∧ Below w.heap.size w w'
set_option maxHeartbeats 1600000 in
theorem toTalk_any (A1 A2 A3 A4 : Option Addr) (n1 c1 n2 c2 n3 c3 n4 c4 : Nat) (xs : List Int) (ss hs ks : List (List Int)) (w : World) (h : TkR w A1 A2 A3 A4 n1 c1 n2 c2 n3 c3 n4 c4 xs ss hs ks) :
    Calls Try.prog 34 #[.agg #[.slice A1 n1 c1, .slice A2 n2 c2, .slice A3 n3 c3, .slice A4 n4 c4]] w (MadeTk w n1 n2 n3 n4 xs ss hs ks) := by
  have HX := Lib.hid h
  clear h
  go_enter Try.func34, Try.ntmps34
  go_wp2_with fail
  have b0 := blk_old (blk_old (blk_new w 40 #[.slice A1 n1 c1, .slice A2 n2 c2, .slice A3 n3 c3, .slice A4 n4 c4]) (.cells #[.slice none 0 0, .slice none 0 0, .slice none 0 0, .slice none 0 0] 26)) (.cells #[.slice none 0 0, .slice none 0 0, .slice none 0 0, .slice none 0 0] 26)
  have b1 := blk_old (blk_new (w.alloc (.cells #[.slice A1 n1 c1, .slice A2 n2 c2, .slice A3 n3 c3, .slice A4 n4 c4] 40)) 26 #[.slice none 0 0, .slice none 0 0, .slice none 0 0, .slice none 0 0]) (.cells #[.slice none 0 0, .slice none 0 0, .slice none 0 0, .slice none 0 0] 26)
  have b2 := blk_new ((w.alloc (.cells #[.slice A1 n1 c1, .slice A2 n2 c2, .slice A3 n3 c3, .slice A4 n4 c4] 40)).alloc (.cells #[.slice none 0 0, .slice none 0 0, .slice none 0 0, .slice none 0 0] 26)) 26 #[.slice none 0 0, .slice none 0 0, .slice none 0 0, .slice none 0 0]
  have hb0 := below_up (below_up (below_alloc w (.cells #[.slice A1 n1 c1, .slice A2 n2 c2, .slice A3 n3 c3, .slice A4 n4 c4] 40)) (below_alloc _ (.cells #[.slice none 0 0, .slice none 0 0, .slice none 0 0, .slice none 0 0] 26))) (below_alloc _ (.cells #[.slice none 0 0, .slice none 0 0, .slice none 0 0, .slice none 0 0] 26))
  simp only [World.size_alloc] at b0 b1 b2
  have HZ := Lib.hid (show w.heap.size + 3 ≤ (((w.alloc (.cells #[.slice A1 n1 c1, .slice A2 n2 c2, .slice A3 n3 c3, .slice A4 n4 c4] 40)).alloc (.cells #[.slice none 0 0, .slice none 0 0, .slice none 0 0, .slice none 0 0] 26)).alloc (.cells #[.slice none 0 0, .slice none 0 0, .slice none 0 0, .slice none 0 0] 26)).heap.size by simp)
  generalize ((w.alloc (.cells #[.slice A1 n1 c1, .slice A2 n2 c2, .slice A3 n3 c3, .slice A4 n4 c4] 40)).alloc (.cells #[.slice none 0 0, .slice none 0 0, .slice none 0 0, .slice none 0 0] 26)).alloc (.cells #[.slice none 0 0, .slice none 0 0, .slice none 0 0, .slice none 0 0] 26) = W1 at *
  have HB := Lib.hid hb0
  have K0 := Lib.hid b0
  have K1 := Lib.hid b1
  have K2 := Lib.hid b2
  clear hb0 b0 b1 b2
  refine (toIntS_any _ _ _ _ _ (HX.out.r1.keep (Keep.below HB.out))).mono ?_
  rintro e v1 ⟨rfl, hown, hb, hsz⟩
  have O1 := Lib.hid (show OwnI W1.heap.size v1.heap.size v1 W1.heap.size (some ⟨W1.heap.size, 0, none⟩) n1 n1 xs from hown.mono (Nat.le_refl _) (by omega))
  have HZ2 := Lib.hid (show W1.heap.size ≤ v1.heap.size from hb.size)
  clear hsz hown
  replace K0 := Lib.hid (blk_below K0.out hb)
  replace K1 := Lib.hid (blk_below K1.out hb)
  replace K2 := Lib.hid (blk_below K2.out hb)
  replace HB := Lib.hid (below_up HB.out hb)
  clear hb
  generalize W1.heap.size = g1 at *
  have q1 := blk_cell K2.out (i := 0) rfl
  have q2 := blk_frozen K2.out 0
  have q3 := blk_cell K0.out (i := 1) rfl
  have hT := (Touch.refl w.heap.size (w.heap.size + 3) v1).set (p := ⟨w.heap.size + 1 + 1, 0, none⟩) (by show w.heap.size ≤ w.heap.size + 1 + 1; omega) (by show w.heap.size + 1 + 1 < w.heap.size + 3; omega) (.slice (some ⟨g1, 0, none⟩) n1 n1)
  have HT := Lib.hid hT
  have HS := Lib.hid hT.size
  clear hT
  replace O1 := Lib.hid (O1.out.touch HT.out (.inr (by have := HZ.out; omega)))
  replace HB := Lib.hid (Touch.below HB.out HT.out (Nat.le_refl _))
  have K0n := Lib.hid (blk_other K0.out (p := ⟨w.heap.size + 1 + 1, 0, none⟩) (show w.heap.size ≠ w.heap.size + 1 + 1 by omega) (.slice (some ⟨g1, 0, none⟩) n1 n1))
  have K1n := Lib.hid (blk_other K1.out (p := ⟨w.heap.size + 1 + 1, 0, none⟩) (show w.heap.size + 1 ≠ w.heap.size + 1 + 1 by omega) (.slice (some ⟨g1, 0, none⟩) n1 n1))
  have K2n := Lib.hid (blk_set K2.out 0 (.slice (some ⟨g1, 0, none⟩) n1 n1))
  have K2m := Lib.hid (show Blk _ _ _ #[.slice (some ⟨g1, 0, none⟩) n1 n1, .slice none 0 0, .slice none 0 0, .slice none 0 0] from K2n.out)
  go_wp2_with fail
  clear q1 q2 q3 K0 K1 K2 K2n HT
  have K0 := K0n
  clear K0n
  have K1 := K1n
  clear K1n
  have K2 := K2m
  clear K2m
  have HZ3 := Lib.hid (show g1 ≤ (v1.setCell ⟨w.heap.size + 1 + 1, 0, none⟩ (.slice (some ⟨g1, 0, none⟩) n1 n1)).heap.size by rw [HS.out]; exact HZ2.out)
  replace O1 := Lib.hid (O1.out.mono (Nat.le_refl _) (Nat.le_of_eq HS.out.symm))
  clear HS HZ2
  generalize v1.setCell ⟨w.heap.size + 1 + 1, 0, none⟩ (.slice (some ⟨g1, 0, none⟩) n1 n1) = W2 at *
  have L1 := HZ3
  clear HZ3
  have q0 := blk_cell K0.out (i := 1) rfl
  go_wp2_with fail
  clear q0
  refine (toIntSS_any _ _ _ _ _ (HX.out.r2.keep (Keep.below HB.out))).mono ?_
  rintro e v2 ⟨rfl, hown, hb, hsz⟩
  have O2 := Lib.hid (show OwnR W2.heap.size v2.heap.size v2 W2.heap.size (some ⟨W2.heap.size, 0, none⟩) n2 n2 ss from hown.mono (Nat.le_refl _) (by omega))
  have HZ2 := Lib.hid (show W2.heap.size ≤ v2.heap.size from hb.size)
  clear hsz hown
  replace O1 := Lib.hid (O1.out.below hb)
  replace K0 := Lib.hid (blk_below K0.out hb)
  replace K1 := Lib.hid (blk_below K1.out hb)
  replace K2 := Lib.hid (blk_below K2.out hb)
  replace HB := Lib.hid (below_up HB.out hb)
  clear hb
  generalize W2.heap.size = g2 at *
  have q1 := blk_cell K2.out (i := 1) rfl
  have q2 := blk_frozen K2.out 1
  have q3 := blk_cell K0.out (i := 2) rfl
  have hT := (Touch.refl w.heap.size (w.heap.size + 3) v2).set (p := ⟨w.heap.size + 1 + 1, 1, none⟩) (by show w.heap.size ≤ w.heap.size + 1 + 1; omega) (by show w.heap.size + 1 + 1 < w.heap.size + 3; omega) (.slice (some ⟨g2, 0, none⟩) n2 n2)
  have HT := Lib.hid hT
  have HS := Lib.hid hT.size
  clear hT
  replace O1 := Lib.hid (O1.out.touch HT.out (.inr (by have := HZ.out; have := L1.out; omega)))
  replace O2 := Lib.hid (O2.out.touch HT.out (.inr (by have := HZ.out; have := L1.out; omega)))
  replace HB := Lib.hid (Touch.below HB.out HT.out (Nat.le_refl _))
  have K0n := Lib.hid (blk_other K0.out (p := ⟨w.heap.size + 1 + 1, 1, none⟩) (show w.heap.size ≠ w.heap.size + 1 + 1 by omega) (.slice (some ⟨g2, 0, none⟩) n2 n2))
  have K1n := Lib.hid (blk_other K1.out (p := ⟨w.heap.size + 1 + 1, 1, none⟩) (show w.heap.size + 1 ≠ w.heap.size + 1 + 1 by omega) (.slice (some ⟨g2, 0, none⟩) n2 n2))
  have K2n := Lib.hid (blk_set K2.out 1 (.slice (some ⟨g2, 0, none⟩) n2 n2))
  have K2m := Lib.hid (show Blk _ _ _ #[.slice (some ⟨g1, 0, none⟩) n1 n1, .slice (some ⟨g2, 0, none⟩) n2 n2, .slice none 0 0, .slice none 0 0] from K2n.out)
  go_wp2_with fail
  clear q1 q2 q3 K0 K1 K2 K2n HT
  have K0 := K0n
  clear K0n
  have K1 := K1n
  clear K1n
  have K2 := K2m
  clear K2m
  have HZ3 := Lib.hid (show g2 ≤ (v2.setCell ⟨w.heap.size + 1 + 1, 1, none⟩ (.slice (some ⟨g2, 0, none⟩) n2 n2)).heap.size by rw [HS.out]; exact HZ2.out)
  replace O2 := Lib.hid (O2.out.mono (Nat.le_refl _) (Nat.le_of_eq HS.out.symm))
  clear HS HZ2
  generalize v2.setCell ⟨w.heap.size + 1 + 1, 1, none⟩ (.slice (some ⟨g2, 0, none⟩) n2 n2) = W3 at *
  have L2 := HZ3
  clear HZ3
  have q0 := blk_cell K0.out (i := 2) rfl
  go_wp2_with fail
  clear q0
  refine (toIntSS_any _ _ _ _ _ (HX.out.r3.keep (Keep.below HB.out))).mono ?_
  rintro e v3 ⟨rfl, hown, hb, hsz⟩
  have O3 := Lib.hid (show OwnR W3.heap.size v3.heap.size v3 W3.heap.size (some ⟨W3.heap.size, 0, none⟩) n3 n3 hs from hown.mono (Nat.le_refl _) (by omega))
  have HZ2 := Lib.hid (show W3.heap.size ≤ v3.heap.size from hb.size)
  clear hsz hown
  replace O1 := Lib.hid (O1.out.below hb)
  replace O2 := Lib.hid (O2.out.below hb)
  replace K0 := Lib.hid (blk_below K0.out hb)
  replace K1 := Lib.hid (blk_below K1.out hb)
  replace K2 := Lib.hid (blk_below K2.out hb)
  replace HB := Lib.hid (below_up HB.out hb)
  clear hb
  generalize W3.heap.size = g3 at *
  have q1 := blk_cell K2.out (i := 2) rfl
  have q2 := blk_frozen K2.out 2
  have q3 := blk_cell K0.out (i := 3) rfl
  have hT := (Touch.refl w.heap.size (w.heap.size + 3) v3).set (p := ⟨w.heap.size + 1 + 1, 2, none⟩) (by show w.heap.size ≤ w.heap.size + 1 + 1; omega) (by show w.heap.size + 1 + 1 < w.heap.size + 3; omega) (.slice (some ⟨g3, 0, none⟩) n3 n3)
  have HT := Lib.hid hT
  have HS := Lib.hid hT.size
  clear hT
  replace O1 := Lib.hid (O1.out.touch HT.out (.inr (by have := HZ.out; have := L1.out; have := L2.out; omega)))
  replace O2 := Lib.hid (O2.out.touch HT.out (.inr (by have := HZ.out; have := L1.out; have := L2.out; omega)))
  replace O3 := Lib.hid (O3.out.touch HT.out (.inr (by have := HZ.out; have := L1.out; have := L2.out; omega)))
  replace HB := Lib.hid (Touch.below HB.out HT.out (Nat.le_refl _))
  have K0n := Lib.hid (blk_other K0.out (p := ⟨w.heap.size + 1 + 1, 2, none⟩) (show w.heap.size ≠ w.heap.size + 1 + 1 by omega) (.slice (some ⟨g3, 0, none⟩) n3 n3))
  have K1n := Lib.hid (blk_other K1.out (p := ⟨w.heap.size + 1 + 1, 2, none⟩) (show w.heap.size + 1 ≠ w.heap.size + 1 + 1 by omega) (.slice (some ⟨g3, 0, none⟩) n3 n3))
  have K2n := Lib.hid (blk_set K2.out 2 (.slice (some ⟨g3, 0, none⟩) n3 n3))
  have K2m := Lib.hid (show Blk _ _ _ #[.slice (some ⟨g1, 0, none⟩) n1 n1, .slice (some ⟨g2, 0, none⟩) n2 n2, .slice (some ⟨g3, 0, none⟩) n3 n3, .slice none 0 0] from K2n.out)
  go_wp2_with fail
  clear q1 q2 q3 K0 K1 K2 K2n HT
  have K0 := K0n
  clear K0n
  have K1 := K1n
  clear K1n
  have K2 := K2m
  clear K2m
  have HZ3 := Lib.hid (show g3 ≤ (v3.setCell ⟨w.heap.size + 1 + 1, 2, none⟩ (.slice (some ⟨g3, 0, none⟩) n3 n3)).heap.size by rw [HS.out]; exact HZ2.out)
  replace O3 := Lib.hid (O3.out.mono (Nat.le_refl _) (Nat.le_of_eq HS.out.symm))
  clear HS HZ2
  generalize v3.setCell ⟨w.heap.size + 1 + 1, 2, none⟩ (.slice (some ⟨g3, 0, none⟩) n3 n3) = W4 at *
  have L3 := HZ3
  clear HZ3
  have q0 := blk_cell K0.out (i := 3) rfl
  go_wp2_with fail
  clear q0
  refine (toIntSS_any _ _ _ _ _ (HX.out.r4.keep (Keep.below HB.out))).mono ?_
  rintro e v4 ⟨rfl, hown, hb, hsz⟩
  have O4 := Lib.hid (show OwnR W4.heap.size v4.heap.size v4 W4.heap.size (some ⟨W4.heap.size, 0, none⟩) n4 n4 ks from hown.mono (Nat.le_refl _) (by omega))
  have HZ2 := Lib.hid (show W4.heap.size ≤ v4.heap.size from hb.size)
  clear hsz hown
  replace O1 := Lib.hid (O1.out.below hb)
  replace O2 := Lib.hid (O2.out.below hb)
  replace O3 := Lib.hid (O3.out.below hb)
  replace K0 := Lib.hid (blk_below K0.out hb)
  replace K1 := Lib.hid (blk_below K1.out hb)
  replace K2 := Lib.hid (blk_below K2.out hb)
  replace HB := Lib.hid (below_up HB.out hb)
  clear hb
  generalize W4.heap.size = g4 at *
  have L4 := HZ2
  clear HZ2
  have d0 := blk_cell K2.out (i := 0) rfl
  have e0 := blk_cell K1.out (i := 0) rfl
  have f0 := blk_frozen K1.out 0
  have d1 := blk_cell K2.out (i := 1) rfl
  have e1 := blk_cell K1.out (i := 1) rfl
  have f1 := blk_frozen K1.out 1
  have d2 := blk_cell K2.out (i := 2) rfl
  have e2 := blk_cell K1.out (i := 2) rfl
  have f2 := blk_frozen K1.out 2
  have d3 := blk_cell K2.out (i := 3) rfl
  have e3 := blk_cell K1.out (i := 3) rfl
  have f3 := blk_frozen K1.out 3
  have f4 := blk_frozen K2.out 3
  go_wp2
  clear d0 e0 f0 d1 e1 f1 d2 e2 f2 d3 e3 f3 f4
  have HT := Lib.hid ((((((Touch.refl w.heap.size (w.heap.size + 3) v4).set (p := ⟨w.heap.size + 1 + 1, 3, none⟩) (by show w.heap.size ≤ w.heap.size + 1 + 1; omega) (by show w.heap.size + 1 + 1 < w.heap.size + 3; omega) (.slice (some ⟨g4, 0, none⟩) n4 n4)).set (p := ⟨w.heap.size + 1, 0, none⟩) (by show w.heap.size ≤ w.heap.size + 1; omega) (by show w.heap.size + 1 < w.heap.size + 3; omega) (.slice (some ⟨g1, 0, none⟩) n1 n1)).set (p := ⟨w.heap.size + 1, 1, none⟩) (by show w.heap.size ≤ w.heap.size + 1; omega) (by show w.heap.size + 1 < w.heap.size + 3; omega) (.slice (some ⟨g2, 0, none⟩) n2 n2)).set (p := ⟨w.heap.size + 1, 2, none⟩) (by show w.heap.size ≤ w.heap.size + 1; omega) (by show w.heap.size + 1 < w.heap.size + 3; omega) (.slice (some ⟨g3, 0, none⟩) n3 n3)).set (p := ⟨w.heap.size + 1, 3, none⟩) (by show w.heap.size ≤ w.heap.size + 1; omega) (by show w.heap.size + 1 < w.heap.size + 3; omega) (.slice (some ⟨g4, 0, none⟩) n4 n4))
  have KR := Lib.hid (show Blk _ _ _ #[.slice (some ⟨g1, 0, none⟩) n1 n1, .slice (some ⟨g2, 0, none⟩) n2 n2, .slice (some ⟨g3, 0, none⟩) n3 n3, .slice (some ⟨g4, 0, none⟩) n4 n4] from (blk_set (blk_set (blk_set (blk_set (blk_other K1.out (p := ⟨w.heap.size + 1 + 1, 3, none⟩) (show w.heap.size + 1 ≠ w.heap.size + 1 + 1 by omega) (.slice (some ⟨g4, 0, none⟩) n4 n4)) 0 (.slice (some ⟨g1, 0, none⟩) n1 n1)) 1 (.slice (some ⟨g2, 0, none⟩) n2 n2)) 2 (.slice (some ⟨g3, 0, none⟩) n3 n3)) 3 (.slice (some ⟨g4, 0, none⟩) n4 n4)))
  generalize (((((v4.setCell ⟨w.heap.size + 1 + 1, 3, none⟩ (.slice (some ⟨g4, 0, none⟩) n4 n4)).setCell ⟨w.heap.size + 1, 0, none⟩ (.slice (some ⟨g1, 0, none⟩) n1 n1)).setCell ⟨w.heap.size + 1, 1, none⟩ (.slice (some ⟨g2, 0, none⟩) n2 n2)).setCell ⟨w.heap.size + 1, 2, none⟩ (.slice (some ⟨g3, 0, none⟩) n3 n3)).setCell ⟨w.heap.size + 1, 3, none⟩ (.slice (some ⟨g4, 0, none⟩) n4 n4)) = WE at *
  have k0 : WE.cell? ⟨w.heap.size + 1, 0, none⟩ = some (.slice (some ⟨g1, 0, none⟩) n1 n1) := blk_cell KR.out rfl
  have k1 : WE.cell? ⟨w.heap.size + 1, 1, none⟩ = some (.slice (some ⟨g2, 0, none⟩) n2 n2) := blk_cell KR.out rfl
  have k2 : WE.cell? ⟨w.heap.size + 1, 2, none⟩ = some (.slice (some ⟨g3, 0, none⟩) n3 n3) := blk_cell KR.out rfl
  have k3 : WE.cell? ⟨w.heap.size + 1, 3, none⟩ = some (.slice (some ⟨g4, 0, none⟩) n4 n4) := blk_cell KR.out rfl
  refine bodyPost_ret (v := .agg #[.slice (some ⟨g1, 0, none⟩) n1 n1, .slice (some ⟨g2, 0, none⟩) n2 n2, .slice (some ⟨g3, 0, none⟩) n3 n3, .slice (some ⟨g4, 0, none⟩) n4 n4]) (by simp [results, Try.results34, go_sem, k0, k1, k2, k3]) rfl ?_
  have hsz := HT.out.size
  have z := HZ.out
  have l1 := L1.out
  have l2 := L2.out
  have l3 := L3.out
  have l4 := L4.out
  exact ⟨g1, g2, g3, g4, rfl, ⟨(O1.out.touch HT.out (.inr (by omega))).mono (by omega) (by omega), O2.out.touch HT.out (.inr (by omega)), O3.out.touch HT.out (.inr (by omega)), (O4.out.touch HT.out (.inr (by omega))).mono (by omega) (by omega), by omega, by omega, by omega, by omega⟩, Touch.below HB.out HT.out (Nat.le_refl _)⟩

set_option maxHeartbeats 800000 in
theorem eqTalk_same (A1 A2 A3 A4 : Option Addr) (n1 c1 n2 c2 n3 c3 n4 c4 : Nat) (xs : List Int) (ss hs ks : List (List Int)) (B1 B2 B3 B4 : Option Addr) (m1 d1 m2 d2 m3 d3 m4 d4 : Nat) (w : World) (h : TkR w A1 A2 A3 A4 n1 c1 n2 c2 n3 c3 n4 c4 xs ss hs ks) (k : TkR w B1 B2 B3 B4 m1 d1 m2 d2 m3 d3 m4 d4 xs ss hs ks) :
    Calls Try.prog 35 #[.agg #[.slice A1 n1 c1, .slice A2 n2 c2, .slice A3 n3 c3, .slice A4 n4 c4], .agg #[.slice B1 m1 d1, .slice B2 m2 d2, .slice B3 m3 d3, .slice B4 m4 d4]] w fun e w' => e = .returned (.bool true) ∧ Below w.heap.size w w' := by
  have HA0 := Lib.hid (TLX.start 26 h)
  have hal := below_alloc (w.alloc (.cells #[.slice A1 n1 c1, .slice A2 n2 c2, .slice A3 n3 c3, .slice A4 n4 c4] 26)) (.cells #[.slice B1 m1 d1, .slice B2 m2 d2, .slice B3 m3 d3, .slice B4 m4 d4] 26)
  have HA := Lib.hid (HA0.out.up hal)
  have HC0 := Lib.hid (TLX.start (w := w.alloc (.cells #[.slice A1 n1 c1, .slice A2 n2 c2, .slice A3 n3 c3, .slice A4 n4 c4] 26)) 26 (k.keep (Keep.below (below_alloc _ _))))
  have HC := Lib.hid (show TLX ((w.alloc (.cells #[.slice A1 n1 c1, .slice A2 n2 c2, .slice A3 n3 c3, .slice A4 n4 c4] 26)).alloc (.cells #[.slice B1 m1 d1, .slice B2 m2 d2, .slice B3 m3 d3, .slice B4 m4 d4] 26)) (w.heap.size + 1) 26 B1 B2 B3 B4 m1 d1 m2 d2 m3 d3 m4 d4 xs ss hs ks by have := HC0.out; rw [World.size_alloc] at this; exact this)
  have HB := Lib.hid (below_up (below_alloc w (.cells #[.slice A1 n1 c1, .slice A2 n2 c2, .slice A3 n3 c3, .slice A4 n4 c4] 26)) hal)
  have e1 : eqI xs xs = true := by simp [eqI]
  have e2 : ∀ ys : List (List Int), eqRR ys ys = true := fun ys => by simp [eqRR]
  have E1 := Lib.hid e1
  have E2 := Lib.hid e2
  clear h k hal HA0 HC0 e1 e2
  go_enter Try.func35, Try.ntmps35
  go_wp2_with fail
  generalize (w.alloc (.cells #[.slice A1 n1 c1, .slice A2 n2 c2, .slice A3 n3 c3, .slice A4 n4 c4] 26)).alloc (.cells #[.slice B1 m1 d1, .slice B2 m2 d2, .slice B3 m3 d3, .slice B4 m4 d4] 26) = W0 at *
  refine (E1.out ▸ eqIntS_any _ _ _ _ _ _ _ _ _ HA.out.r.r1 HC.out.r.r1).mono ?_
  rintro e v0 ⟨rfl, hq⟩
  replace HA := Lib.hid (HA.out.up hq.below)
  replace HC := Lib.hid (HC.out.up hq.below)
  replace HB := Lib.hid (below_quiet HB.out hq)
  clear hq
  have q0 := HA.out.c1
  have q1 := HC.out.c1
  go_wp2_with fail
  clear q0 q1
  refine (E2.out ss ▸ eqIntSS_any _ _ _ _ _ _ _ _ _ HA.out.r.r2 HC.out.r.r2).mono ?_
  rintro e v1 ⟨rfl, hq⟩
  replace HA := Lib.hid (HA.out.up hq.below)
  replace HC := Lib.hid (HC.out.up hq.below)
  replace HB := Lib.hid (below_quiet HB.out hq)
  clear hq
  have q0 := HA.out.c2
  have q1 := HC.out.c2
  go_wp2_with fail
  clear q0 q1
  refine (E2.out hs ▸ eqIntSS_any _ _ _ _ _ _ _ _ _ HA.out.r.r3 HC.out.r.r3).mono ?_
  rintro e v2 ⟨rfl, hq⟩
  replace HA := Lib.hid (HA.out.up hq.below)
  replace HC := Lib.hid (HC.out.up hq.below)
  replace HB := Lib.hid (below_quiet HB.out hq)
  clear hq
  have q0 := HA.out.c3
  have q1 := HC.out.c3
  go_wp2_with fail
  clear q0 q1
  refine (E2.out ks ▸ eqIntSS_any _ _ _ _ _ _ _ _ _ HA.out.r.r4 HC.out.r.r4).mono ?_
  rintro e v3 ⟨rfl, hq⟩
  replace HA := Lib.hid (HA.out.up hq.below)
  replace HC := Lib.hid (HC.out.up hq.below)
  replace HB := Lib.hid (below_quiet HB.out hq)
  clear hq
  go_wp2
  go_ret
  exact ⟨rfl, HB.out⟩

theorem mark_touch {lo hi b A n c} {xs : List Int} {w w' : World} (h : OwnI lo hi w b A n c xs) (h0 : n = 0 → w = w') (k : One b w w') : Touch lo hi w w' := by
  by_cases e : n = 0
  · rw [h0 e]; exact Touch.refl _ _ _
  · obtain ⟨_, _, h1, h2, _⟩ := h.own (by omega)
    exact k.touch h1 h2
/-- A talk marked: only its own rows have turned, and new blocks are there. -/
def MarkedT (lo hi : Nat) (w : World) (n1 n2 n3 n4 : Nat) (ss hs ks : List (List Int)) (k : Int) (e : Ending) (w' : World) : Prop :=
  e = .returned (.int .i64 (k + n1 + offs ss n2 + offs hs n3 + offs ks n4)) ∧ ∃ w1, Below w.heap.size w w1 ∧ Touch lo hi w1 w'
set_option maxHeartbeats 1600000 in
theorem markTalk_any (lo hi g g1 g2 g3 g4 n1 n2 n3 n4 : Nat) (xs : List Int) (ss hs ks : List (List Int)) (k : Int) (w : World) (hx : TLO lo hi w g g1 g2 g3 g4 n1 n2 n3 n4 xs ss hs ks) (h0 : 0 ≤ k) (hk : k ≤ 1048576)
    (h1 : (n1 : Int) ≤ 1048576) (h2 : offs ss n2 ≤ 1048576) (h3 : offs hs n3 ≤ 1048576) (h4 : offs ks n4 ≤ 1048576) :
    Calls Try.prog 37 #[.agg #[.slice (some ⟨g1, 0, none⟩) n1 n1, .slice (some ⟨g2, 0, none⟩) n2 n2, .slice (some ⟨g3, 0, none⟩) n3 n3, .slice (some ⟨g4, 0, none⟩) n4 n4], .int .i64 k] w (MarkedT lo hi w n1 n2 n3 n4 ss hs ks k) := by
  have hb0 := below_alloc w (.cells #[.slice (some ⟨g1, 0, none⟩) n1 n1, .slice (some ⟨g2, 0, none⟩) n2 n2, .slice (some ⟨g3, 0, none⟩) n3 n3, .slice (some ⟨g4, 0, none⟩) n4 n4] 26)
  have HX := Lib.hid (hx.up hb0)
  have HB := Lib.hid hb0
  have HK := Lib.hid (blk_new w 26 #[.slice (some ⟨g1, 0, none⟩) n1 n1, .slice (some ⟨g2, 0, none⟩) n2 n2, .slice (some ⟨g3, 0, none⟩) n3 n3, .slice (some ⟨g4, 0, none⟩) n4 n4])
  have hle := hx.le
  have l2 := hx.o.l2
  have l3 := hx.o.l3
  have l4 := hx.o.l4
  have l5 := hx.o.l5
  have p2 := offs_ge ss n2
  have p3 := offs_ge hs n3
  have p4 := offs_ge ks n4
  clear hx hb0
  go_enter Try.func37, Try.ntmps37
  go_wp2_with fail
  generalize w.alloc (.cells #[.slice (some ⟨g1, 0, none⟩) n1 n1, .slice (some ⟨g2, 0, none⟩) n2 n2, .slice (some ⟨g3, 0, none⟩) n3 n3, .slice (some ⟨g4, 0, none⟩) n4 n4] 26) = W1 at *
  have HO := Lib.hid HX.out.o
  have HT := Lib.hid (Touch.refl lo hi W1)
  have O1 := Lib.hid HO.out.o1
  have O2 := Lib.hid HO.out.o2
  have O3 := Lib.hid HO.out.o3
  have O4 := Lib.hid HO.out.o4
  clear HX HO
  refine (markIntS_any _ _ _ _ _ _ xs (k) _ O1.out h0 (by omega)).mono ?_
  rintro e v1 ⟨rfl, _, hz, hT0⟩
  have hT : Touch lo g2 _ _ := mark_touch O1.out hz hT0
  clear hz
  replace HK := Lib.hid (blk_touch HK.out hT (.inr (by omega)))
  replace O2 := Lib.hid (O2.out.touch hT (.inr (by omega)))
  replace O3 := Lib.hid (O3.out.touch hT (.inr (by omega)))
  replace O4 := Lib.hid (O4.out.touch hT (.inr (by omega)))
  replace HT := Lib.hid (HT.out.trans (hT.mono (by omega) (by omega)))
  clear O1 hT0 hT
  have q0 := blk_cell HK.out (i := 1) rfl
  go_wp2_with fail
  clear q0
  refine (markIntSS_any _ _ _ _ _ _ ss (k + (n1 : Int)) _ O2.out (by omega) (by omega)).mono ?_
  rintro e v2 ⟨rfl, _, hT0⟩
  have hT : Touch g2 g3 _ _ := hT0
  replace HK := Lib.hid (blk_touch HK.out hT (.inr (by omega)))
  replace O3 := Lib.hid (O3.out.touch hT (.inr (by omega)))
  replace O4 := Lib.hid (O4.out.touch hT (.inr (by omega)))
  replace HT := Lib.hid (HT.out.trans (hT.mono (by omega) (by omega)))
  clear O2 hT0 hT
  have q0 := blk_cell HK.out (i := 2) rfl
  go_wp2_with fail
  clear q0
  refine (markIntSS_any _ _ _ _ _ _ hs (k + (n1 : Int) + offs ss n2) _ O3.out (by omega) (by omega)).mono ?_
  rintro e v3 ⟨rfl, _, hT0⟩
  have hT : Touch g3 g4 _ _ := hT0
  replace HK := Lib.hid (blk_touch HK.out hT (.inr (by omega)))
  replace O4 := Lib.hid (O4.out.touch hT (.inr (by omega)))
  replace HT := Lib.hid (HT.out.trans (hT.mono (by omega) (by omega)))
  clear O3 hT0 hT
  have q0 := blk_cell HK.out (i := 3) rfl
  go_wp2_with fail
  clear q0
  refine (markIntSS_any _ _ _ _ _ _ ks (k + (n1 : Int) + offs ss n2 + offs hs n3) _ O4.out (by omega) (by omega)).mono ?_
  rintro e v4 ⟨rfl, _, hT0⟩
  have hT : Touch g4 hi _ _ := hT0
  replace HK := Lib.hid (blk_touch HK.out hT (.inr (by omega)))
  replace HT := Lib.hid (HT.out.trans (hT.mono (by omega) (by omega)))
  clear O4 hT0 hT
  go_wp2
  go_ret
  exact ⟨rfl, _, HB.out, HT.out⟩

end Go.Proofs.Ytcjanlbhgfadpaa

/- Chapter 1 as plain functions on lists. -/
namespace Go.Proofs.Ytcjanlbhgfadpaa

noncomputable def pb (p : Prop) : Bool := @decide p (Classical.propDecidable p)
theorem pb_true {p : Prop} (h : p) : pb p = true := by unfold pb; exact @decide_eq_true p (Classical.propDecidable p) h
theorem pb_false {p : Prop} (h : ¬ p) : pb p = false := by unfold pb; exact @decide_eq_false p (Classical.propDecidable p) h
theorem pb_iff {p : Prop} : pb p = true ↔ p := ⟨fun h => by unfold pb at h; exact @of_decide_eq_true p (Classical.propDecidable p) h, pb_true⟩
theorem pb_congr {p q : Prop} (h : p ↔ q) : pb p = pb q := by rw [propext h]

def InR (n lo hi : Int) : Prop := lo ≤ n ∧ n ≤ hi
def RowOk (a : List (List Int)) (i : Nat) : Prop := (gr a i).length = (gr a 0).length ∧ ∀ j, j < (gr a i).length → InR (gi (gr a i) j) (-9) 9
/-- A table: one to three rows of as many numbers, one to three, from -9 to 9. -/
structure VT (a : List (List Int)) : Prop where
  rows : ∀ i, i < a.length → RowOk a i
  n1 : 1 ≤ a.length
  n3 : a.length ≤ 3
  m1 : 1 ≤ (gr a 0).length
  m3 : (gr a 0).length ≤ 3

def RowV (r : List Int) : Prop := 1 ≤ r.length ∧ r.length ≤ 3 ∧ ∀ j, j < r.length → InR (gi r j) (-9) 9
theorem RowV_no {r : List Int} {j : Nat} (hj : j < r.length) (h : ¬ InR (gi r j) (-9) 9) : pb (RowV r) = false := pb_false fun v => h (v.2.2 j hj)
theorem VT_rowV {a : List (List Int)} (v : VT a) {i : Nat} (hi : i < a.length) : RowV (gr a i) := by
  have h := v.rows i hi
  have h1 := v.m1
  have h3 := v.m3
  exact ⟨by rw [h.1]; exact h1, by rw [h.1]; exact h3, h.2⟩
theorem VT_of {a : List (List Int)} (h1 : 1 ≤ a.length) (h3 : a.length ≤ 3) (h : ∀ i, i < a.length → (gr a i).length = (gr a 0).length ∧ RowV (gr a i)) : VT a :=
  ⟨fun i hi => ⟨(h i hi).1, (h i hi).2.2.2⟩, h1, h3, (h 0 (by omega)).2.1, (h 0 (by omega)).2.2.1⟩

structure VG (a b : List (List Int)) : Prop where
  ta : VT a
  tb : VT b
  n : a.length = b.length
  m : (gr a 0).length = (gr b 0).length

def g2 (a : List (List Int)) (i j : Nat) : Int := gi (gr a i) j
theorem VT.bd {a : List (List Int)} (v : VT a) {i j : Nat} (hi : i < a.length) (hj : j < (gr a 0).length) : -9 ≤ g2 a i j ∧ g2 a i j ≤ 9 := by
  have h := v.rows i hi
  exact h.2 j (by rw [h.1]; exact hj)

/-- The changes round four places. -/
def rnd (a b : List (List Int)) (i k j l : Nat) : Int := g2 a k j - g2 a i j + (g2 b k l - g2 b k j) + (g2 a i l - g2 a k l) + (g2 b i j - g2 b i l)
structure NR (a b : List (List Int)) : Prop where
  vg : VG a b
  no : ∀ i k j l, i < a.length → k < a.length → j < (gr a 0).length → l < (gr a 0).length → rnd a b i k j l = 0
theorem NR_half {a b : List (List Int)} (v : VG a b) (h : ∀ i k j l, i < a.length → k < i → j < (gr a 0).length → l < j → rnd a b i k j l = 0) : NR a b := by
  refine ⟨v, fun i k j l hi hk hj hl => ?_⟩
  have s1 : rnd a b i k j l = - rnd a b k i j l := by unfold rnd; omega
  have s2 : rnd a b i k j l = - rnd a b i k l j := by unfold rnd; omega
  have s3 : rnd a b i k j l = rnd a b k i l j := by unfold rnd; omega
  rcases Nat.lt_trichotomy k i with h1 | h1 | h1 <;> rcases Nat.lt_trichotomy l j with h2 | h2 | h2
  · exact h i k j l hi h1 hj h2
  · subst h2; unfold rnd; omega
  · rw [s2, h i k l j hi h1 hl h2]; rfl
  · subst h1; unfold rnd; omega
  · subst h1; unfold rnd; omega
  · subst h1; unfold rnd; omega
  · rw [s1, h k i j l hk h1 hj h2]; rfl
  · subst h2; unfold rnd; omega
  · rw [s3, h k i l j hk h1 hl h2]

/-- The least of the first k + 1 numbers; of a row. -/
def mn (xs : List Int) : Nat → Int
  | 0 => gi xs 0
  | k + 1 => min (mn xs k) (gi xs (k + 1))
def lst (xs : List Int) : Int := mn xs (xs.length - 1)
theorem mn_bd {xs : List Int} {lo hi : Int} : ∀ {k : Nat}, (∀ j, j ≤ k → lo ≤ gi xs j ∧ gi xs j ≤ hi) → lo ≤ mn xs k ∧ mn xs k ≤ hi
  | 0, h => h 0 (Nat.le_refl _)
  | k + 1, h => by
    have h1 := mn_bd (k := k) fun j hj => h j (by omega)
    have h2 := h (k + 1) (Nat.le_refl _)
    simp only [mn]
    omega
/-- The first row with the greatest least number, of the first k rows. -/
def bst (a : List (List Int)) : Nat → Nat
  | 0 => 0
  | k + 1 => if lst (gr a (bst a k)) < lst (gr a k) then k else bst a k
theorem bst_one (a : List (List Int)) : bst a 1 = 0 := by simp [bst]
theorem bst_lt (a : List (List Int)) : ∀ {k : Nat}, 0 < k → bst a k < k
  | 0, h => absurd h (by omega)
  | k + 1, _ => by
    rw [bst]
    split
    · omega
    · rcases Nat.eq_zero_or_pos k with h | h
      · subst h; simp [bst]
      · have := bst_lt a h; omega
theorem bst_up {a : List (List Int)} {k : Nat} (h : lst (gr a (bst a k)) < lst (gr a k)) : bst a (k + 1) = k := by rw [bst, if_pos h]
theorem bst_same {a : List (List Int)} {k : Nat} (h : ¬ lst (gr a (bst a k)) < lst (gr a k)) : bst a (k + 1) = bst a k := by rw [bst, if_neg h]

/-- Neither player has more by another act. -/
def RestAt (a b : List (List Int)) (n m i j : Nat) : Prop := (∀ k, k < n → g2 a k j ≤ g2 a i j) ∧ ∀ k, k < m → g2 b i k ≤ g2 b i j
noncomputable def rowRests (a b : List (List Int)) (n m i : Nat) : Nat → List (List Int)
  | 0 => []
  | j + 1 => rowRests a b n m i j ++ (if pb (RestAt a b n m i j) = true then [[(i : Int), (j : Int)]] else [])
noncomputable def allRests (a b : List (List Int)) (n m : Nat) : Nat → List (List Int)
  | 0 => []
  | i + 1 => allRests a b n m i ++ rowRests a b n m i m
noncomputable def pureR (a b : List (List Int)) : List (List Int) := if pb (VG a b) = true then allRests a b a.length (gr a 0).length a.length else []
theorem rowRests_yes {a b : List (List Int)} {n m i j : Nat} (h : RestAt a b n m i j) : rowRests a b n m i (j + 1) = rowRests a b n m i j ++ [[(i : Int), (j : Int)]] := by rw [rowRests, if_pos (pb_true h)]
theorem rowRests_no {a b : List (List Int)} {n m i j : Nat} (h : ¬ RestAt a b n m i j) : rowRests a b n m i (j + 1) = rowRests a b n m i j := by rw [rowRests, if_neg (by rw [pb_false h]; decide), List.append_nil]
theorem rowRests_len (a b : List (List Int)) (n m i : Nat) : ∀ j, (rowRests a b n m i j).length ≤ j
  | 0 => by simp [rowRests]
  | j + 1 => by
    have := rowRests_len a b n m i j
    rw [rowRests, List.length_append]
    split <;> simp <;> omega
theorem allRests_len (a b : List (List Int)) (n m : Nat) (hm : m ≤ 3) : ∀ i, (allRests a b n m i).length ≤ 3 * i
  | 0 => by simp [allRests]
  | i + 1 => by
    have h1 := allRests_len a b n m hm i
    have h2 := rowRests_len a b n m i m
    rw [allRests, List.length_append]
    omega

end Go.Proofs.Ytcjanlbhgfadpaa

/- Talks, plain. -/
namespace Go.Proofs.Ytcjanlbhgfadpaa

/-- Two numbers in lo..9; two rows of them. -/
def V1 (xs : List Int) (lo : Int) : Prop := xs.length = 2 ∧ InR (gi xs 0) lo 9 ∧ InR (gi xs 1) lo 9
def V2 (a : List (List Int)) (lo : Int) : Prop := a.length = 2 ∧ V1 (gr a 0) lo ∧ V1 (gr a 1) lo
/-- A talk is valid. -/
def VTk (xs : List Int) (ss hs ks : List (List Int)) : Prop := V1 xs 1 ∧ V2 ss (-9) ∧ V2 hs (-9) ∧ V2 ks 0

end Go.Proofs.Ytcjanlbhgfadpaa

/- Valid tables, by both programs. -/
namespace Go.Proofs.Ytcjanlbhgfadpaa
open Go.RowKit

set_option maxHeartbeats 400000 in
theorem inRange_any (n lo hi : Int) (w : World) : Calls Try.prog 52 #[.int .i64 n, .int .i64 lo, .int .i64 hi] w fun e w' => e = .returned (.bool (pb (InR n lo hi))) ∧ w = w' := by
  by_cases h1 : lo ≤ n
  · by_cases h2 : n ≤ hi
    · have h := Lib.hid (pb_true (p := InR n lo hi) ⟨h1, h2⟩)
      go_enter Try.func52, Try.ntmps52
      go_wp2
      go_ret
      exact ⟨ret_bool (by rw [h.out]), rfl⟩
    · have h := Lib.hid (pb_false (p := InR n lo hi) (fun h => h2 h.2))
      have h2' : decide (n ≤ hi) = false := by simpa using h2
      go_enter Try.func52, Try.ntmps52
      go_wp2
      go_ret
      exact ⟨ret_bool (by rw [h.out]), rfl⟩
  · have h := Lib.hid (pb_false (p := InR n lo hi) (fun h => h1 h.1))
    have h1' : decide (lo ≤ n) = false := by simpa using h1
    go_enter Try.func52, Try.ntmps52
    go_wp2
    go_ret
    exact ⟨ret_bool (by rw [h.out]), rfl⟩

theorem VT_no_row {a : List (List Int)} {i : Nat} (hi : i < a.length) (h : ¬ RowOk a i) : pb (VT a) = false := pb_false fun v => h (v.rows i hi)

end Go.Proofs.Ytcjanlbhgfadpaa

/- Chapter 2 as plain functions: sums, shares, fractions, means, the worst. -/
namespace Go.Proofs.Ytcjanlbhgfadpaa

/-- The sum of the first k numbers; of all. -/
def sm (xs : List Int) : Nat → Int
  | 0 => 0
  | k + 1 => sm xs k + gi xs k
def tot (xs : List Int) : Int := sm xs xs.length
theorem sm_bd {xs : List Int} {lo hi : Int} : ∀ {k : Nat}, (∀ j, j < k → lo ≤ gi xs j ∧ gi xs j ≤ hi) → lo * (k : Int) ≤ sm xs k ∧ sm xs k ≤ hi * (k : Int)
  | 0, _ => by simp [sm]
  | k + 1, h => by
    have h1 := sm_bd (k := k) fun j hj => h j (by omega)
    have h2 := h k (by omega)
    have e1 : lo * ((k + 1 : Nat) : Int) = lo * (k : Int) + lo := by rw [show ((k + 1 : Nat) : Int) = (k : Int) + 1 by omega, Int.mul_add, Int.mul_one]
    have e2 : hi * ((k + 1 : Nat) : Int) = hi * (k : Int) + hi := by rw [show ((k + 1 : Nat) : Int) = (k : Int) + 1 by omega, Int.mul_add, Int.mul_one]
    simp only [sm]
    omega
theorem sm_snoc {xs : List Int} {x : Int} : ∀ {k : Nat}, k ≤ xs.length → sm (xs ++ [x]) k = sm xs k
  | 0, _ => rfl
  | k + 1, h => by
    have h1 := sm_snoc (xs := xs) (x := x) (k := k) (by omega)
    have h2 : gi (xs ++ [x]) k = gi xs k := by rw [gi_get (by simp; omega), gi_get (by omega), List.getElem_append_left (by omega)]
    simp only [sm, h1, h2]
theorem tot_snoc (xs : List Int) (x : Int) : tot (xs ++ [x]) = tot xs + x := by
  unfold tot
  rw [List.length_append, List.length_singleton]
  have h2 : gi (xs ++ [x]) xs.length = x := by rw [gi_get (by simp), List.getElem_append_right (Nat.le_refl _)]; simp
  simp only [sm, sm_snoc (Nat.le_refl _), h2]

/-- Shares of n things. -/
def VS (w : List Int) (n : Int) : Prop := (w.length : Int) = n ∧ (∀ j, j < w.length → InR (gi w j) 0 1000) ∧ 0 < tot w
def VSn (w : List Int) (n : Int) : Prop := 1 ≤ n ∧ n ≤ 3 ∧ VS w n
theorem VS.bd {w : List Int} {n : Int} (v : VS w n) (hn : n ≤ 3) : 0 < tot w ∧ tot w ≤ 3000 := by
  obtain ⟨h1, h2, h3⟩ := v
  have := (sm_bd (xs := w) (lo := 0) (hi := 1000) (k := w.length) h2).2
  unfold tot at *
  omega

/-- The sum of payoffs with both weights: of the first i rows; in row i, of the first j columns. -/
def payR (a : List (List Int)) (x y : List Int) (i : Nat) : Nat → Int
  | 0 => 0
  | j + 1 => payR a x y i j + gi x i * gi y j * g2 a i j
def payU (a : List (List Int)) (x y : List Int) (m : Nat) : Nat → Int
  | 0 => 0
  | i + 1 => payU a x y m i + payR a x y i m

theorem mul_bd {x y a : Int} (hx : 0 ≤ x ∧ x ≤ 1000) (hy : 0 ≤ y ∧ y ≤ 1000) (ha : -9 ≤ a ∧ a ≤ 9) : -9000000 ≤ x * y * a ∧ x * y * a ≤ 9000000 := by
  have h1 : 0 ≤ x * y := Int.mul_nonneg hx.1 hy.1
  have h2 : x * y ≤ 1000 * 1000 := Int.mul_le_mul hx.2 hy.2 hy.1 (by omega)
  have h3 : x * y * a ≤ x * y * 9 := Int.mul_le_mul_of_nonneg_left ha.2 h1
  have h4 : x * y * -9 ≤ x * y * a := Int.mul_le_mul_of_nonneg_left ha.1 h1
  omega
theorem mul_bd2 {x y : Int} (hx : 0 ≤ x ∧ x ≤ 1000) (hy : 0 ≤ y ∧ y ≤ 1000) : 0 ≤ x * y ∧ x * y ≤ 1000000 := by
  have h1 : 0 ≤ x * y := Int.mul_nonneg hx.1 hy.1
  have h2 : x * y ≤ 1000 * 1000 := Int.mul_le_mul hx.2 hy.2 hy.1 (by omega)
  omega
theorem mul_bd3 {x a : Int} (hx : 0 ≤ x ∧ x ≤ 1000) (ha : -9 ≤ a ∧ a ≤ 9) : -9000 ≤ a * x ∧ a * x ≤ 9000 := by
  have h3 : a * x ≤ 9 * x := Int.mul_le_mul_of_nonneg_right ha.2 hx.1
  have h4 : -9 * x ≤ a * x := Int.mul_le_mul_of_nonneg_right ha.1 hx.1
  omega

/-- Shares and a table of which a mean is taken: bounds of all that is read. -/
structure PB (a : List (List Int)) (x y : List Int) (n m : Nat) : Prop where
  a : ∀ i j, i < n → j < m → -9 ≤ g2 a i j ∧ g2 a i j ≤ 9
  x : ∀ i, i < n → 0 ≤ gi x i ∧ gi x i ≤ 1000
  y : ∀ j, j < m → 0 ≤ gi y j ∧ gi y j ≤ 1000
theorem payR_bd {a x y n m} (h : PB a x y n m) {i : Nat} (hi : i < n) : ∀ {j : Nat}, j ≤ m → -9000000 * (j : Int) ≤ payR a x y i j ∧ payR a x y i j ≤ 9000000 * (j : Int)
  | 0, _ => by simp [payR]
  | j + 1, hj => by
    have h1 := payR_bd h hi (j := j) (by omega)
    have h2 := mul_bd (h.x i hi) (h.y j (by omega)) (h.a i j hi (by omega))
    simp only [payR]
    omega
theorem payU_bd {a x y n m} (h : PB a x y n m) (hm : m ≤ 3) : ∀ {i : Nat}, i ≤ n → -27000000 * (i : Int) ≤ payU a x y m i ∧ payU a x y m i ≤ 27000000 * (i : Int)
  | 0, _ => by simp [payU]
  | i + 1, hi => by
    have h1 := payU_bd h hm (i := i) (by omega)
    have h2 := payR_bd h (i := i) (by omega) (j := m) (Nat.le_refl _)
    simp only [payU]
    omega
theorem payP_bd {a x y n m} (h : PB a x y n m) (hm : m ≤ 3) (hn : n ≤ 3) {i j : Nat} (hi : i < n) (hj : j ≤ m) : -108000000 ≤ payU a x y m i + payR a x y i j ∧ payU a x y m i + payR a x y i j ≤ 108000000 := by
  have h1 := payU_bd h hm (i := i) (by omega)
  have h2 := payR_bd h hi hj
  omega

/-- The greatest common divisor, and what Go's loop does to it. -/
def gcdI (a b : Int) : Int := (Int.gcd a b : Int)
theorem gcdI_zero (a : Int) : gcdI a 0 = max a (-a) := by
  unfold gcdI; rw [Int.gcd_zero_right]; omega
theorem gcdI_zero_left (a : Int) : gcdI 0 a = max a (-a) := by
  unfold gcdI; rw [Int.gcd_zero_left]; omega
theorem gcdI_step (a b : Int) : gcdI b (a.tmod b) = gcdI a b := by
  have h : Nat.gcd b.natAbs (a.tmod b).natAbs = Nat.gcd a.natAbs b.natAbs := by
    rw [Int.natAbs_tmod, Nat.gcd_comm, ← Nat.gcd_rec, Nat.gcd_comm]
  exact congrArg Int.ofNat h
theorem gcdI_abs (a b : Int) : gcdI (max a (-a)) b = gcdI a b := by
  have h : Nat.gcd (max a (-a)).natAbs b.natAbs = Nat.gcd a.natAbs b.natAbs := by
    congr 1
    omega
  exact congrArg Int.ofNat h
theorem gcdI_pos {a b : Int} (h : b ≠ 0) : 1 ≤ gcdI a b := by
  unfold gcdI
  have := Int.gcd_pos_of_ne_zero_right a h
  omega
theorem gcdI_pos_left {a b : Int} (h : a ≠ 0) : 1 ≤ gcdI a b := by
  unfold gcdI
  have := Int.gcd_pos_of_ne_zero_left b h
  omega
theorem gcdI_nonneg (a b : Int) : 0 ≤ gcdI a b := by unfold gcdI; omega
theorem gcdI_dvd_left (a b : Int) : gcdI a b ∣ a := Int.gcd_dvd_left a b
theorem gcdI_dvd_right (a b : Int) : gcdI a b ∣ b := Int.gcd_dvd_right a b
theorem gcdI_le {a b : Int} (h : 0 < b) : gcdI a b ≤ b := Int.le_of_dvd h (gcdI_dvd_right a b)
theorem tmod_abs {a b : Int} (h : b ≠ 0) : (a.tmod b).natAbs < b.natAbs := by
  rw [Int.natAbs_tmod]; exact Nat.mod_lt _ (by omega)

/-- A fraction in lowest terms, as a pair of numbers. -/
def frU (u d : Int) : Int := u.tdiv (gcdI u d)
def frD (u d : Int) : Int := d.tdiv (gcdI u d)
theorem tdiv_bd {u g B : Int} (_ : 1 ≤ g) (h : -B ≤ u ∧ u ≤ B) : -B ≤ u.tdiv g ∧ u.tdiv g ≤ B := by
  have h1 : (u.tdiv g).natAbs ≤ u.natAbs := by rw [Int.natAbs_tdiv]; exact Nat.div_le_self _ _
  omega
theorem frU_bd {u d B : Int} (hd : 0 < d) (h : -B ≤ u ∧ u ≤ B) : -B ≤ frU u d ∧ frU u d ≤ B := tdiv_bd (gcdI_pos (by omega)) h
theorem frD_bd {u d B : Int} (hd : 0 < d) (h : d ≤ B) : 1 ≤ frD u d ∧ frD u d ≤ B := by
  have hg := gcdI_pos (a := u) (b := d) (by omega)
  have h1 := tdiv_bd (u := d) (g := gcdI u d) (B := B) hg (by omega)
  have h2 := gcdI_le (a := u) hd
  have h3 : 1 ≤ d / gcdI u d := by rw [Int.le_ediv_iff_mul_le (by omega)]; omega
  rw [Int.tdiv_eq_ediv_of_nonneg (by omega)] at h1
  unfold frD
  rw [Int.tdiv_eq_ediv_of_nonneg (by omega)]
  omega
theorem frU_mul (u d : Int) : frU u d * gcdI u d = u := Int.tdiv_mul_cancel (gcdI_dvd_left u d)
theorem frD_mul (u d : Int) : frD u d * gcdI u d = d := Int.tdiv_mul_cancel (gcdI_dvd_right u d)

/-- Less, of fractions with a positive number below. -/
def ltF (u d v e : Int) : Prop := u * e < v * d

/-- The shares of one of n alone. -/
def onl (n i : Nat) : List Int := (List.range n).map fun k => if k = i then 1 else 0
theorem onl_len (n i : Nat) : (onl n i).length = n := by simp [onl]
theorem gi_onl {n i k : Nat} (h : k < n) : gi (onl n i) k = if k = i then 1 else 0 := by
  rw [gi_get (by rw [onl_len]; exact h)]; simp [onl]
theorem sm_onl {n i : Nat} : ∀ {k : Nat}, k ≤ n → sm (onl n i) k = if i < k then 1 else 0
  | 0, _ => by simp [sm]
  | k + 1, h => by
    have h1 := sm_onl (n := n) (i := i) (k := k) (by omega)
    rw [sm, h1, gi_onl (by omega)]
    split <;> split <;> split <;> omega
theorem tot_onl {n i : Nat} (h : i < n) : tot (onl n i) = 1 := by
  unfold tot; rw [sm_onl (by rw [onl_len]; exact Nat.le_refl _), onl_len, if_pos h]
theorem onl_bd {n i k : Nat} (h : k < n) : 0 ≤ gi (onl n i) k ∧ gi (onl n i) k ≤ 1 := by
  rw [gi_onl h]; split <;> omega

/-- The mean against column j alone, above the line; the least of the first k + 1 of these. -/
def colU (a : List (List Int)) (x : List Int) (n m j : Nat) : Int := payU a x (onl m j) m n
def wst (a : List (List Int)) (x : List Int) (n m : Nat) : Nat → Int × Int
  | 0 => (frU (colU a x n m 0) (tot x), frD (colU a x n m 0) (tot x))
  | k + 1 =>
    let p := (frU (colU a x n m (k + 1)) (tot x), frD (colU a x n m (k + 1)) (tot x))
    if p.1 * (wst a x n m k).2 < (wst a x n m k).1 * p.2 then p else wst a x n m k

end Go.Proofs.Ytcjanlbhgfadpaa

/- Sums of numbers; shares: by both programs and the laws. -/
namespace Go.Proofs.Ytcjanlbhgfadpaa
open Go.RowKit

def Fit (x : Int) : Prop := -9223372036854775808 ≤ x ∧ x ≤ 9223372036854775807
/-- Numbers whose sums fit. -/
structure SumOk (xs : List Int) : Prop where
  n : xs.length ≤ 1000
  bd : ∀ j, j < xs.length → -1000000000000 ≤ gi xs j ∧ gi xs j ≤ 1000000000000
theorem SumOk.sm {xs : List Int} (h : SumOk xs) {k : Nat} (hk : k ≤ xs.length) : -1000000000000000 ≤ sm xs k ∧ sm xs k ≤ 1000000000000000 := by
  have h1 := sm_bd (xs := xs) (k := k) (lo := -1000000000000) (hi := 1000000000000) fun j hj => h.bd j (by omega)
  have h2 := h.n
  omega
theorem SumOk.of_small {xs : List Int} {B : Int} (hn : xs.length ≤ 1000) (h : ∀ j, j < xs.length → -B ≤ gi xs j ∧ gi xs j ≤ B) (hB : B ≤ 1000000000000) : SumOk xs :=
  ⟨hn, fun j hj => by have := h j hj; omega⟩
theorem VS.sumOk {xs : List Int} {n : Int} (h : VS xs n) (hn : n ≤ 3) : SumOk xs :=
  ⟨by have := h.1; omega, fun j hj => by have := h.2.1 j hj; unfold InR at this; omega⟩

set_option maxHeartbeats 400000 in
theorem sum_any (A : Option Addr) (n c : Nat) (xs : List Int) (w : World) (hx : Ints w A n c xs) (hs : SumOk xs) :
    Calls Try.prog 75 #[.slice A n c] w fun e w' => e = .returned (.int .i64 (tot xs)) ∧ Quiet w w' := by
  have hl : n ≤ 1000 := by rw [← hx.len]; exact hs.n
  have HX := Lib.hid hx
  have HS := Lib.hid hs
  have HL := Lib.hid hx.len
  clear hx hs
  go_enter Try.func75, Try.ntmps75
  go_wp2
  go_loopw [3, 4] (fun s i wr => ∃ k : Nat, k ≤ n ∧ i = .int .i64 k ∧ s = .int .i64 (sm xs k) ∧ Quiet w wr) (fun _ i _ => n - (intOf i).toNat)
  case atStart => exact ⟨0, Nat.zero_le _, rfl, rfl, Quiet.refl _⟩
  case round =>
    obtain ⟨k, hk, rfl, rfl, q, rfl⟩ := hrel
    by_cases hlt : k < n
    · obtain ⟨b, o, rfl, hc⟩ := HX.out.at_ (by omega)
      have c1 := hc k hlt
      obtain ⟨b1, b2⟩ := HS.out.sm (k := k) (by rw [HL.out]; exact hk)
      obtain ⟨b3, b4⟩ := HS.out.bd k (by rw [HL.out]; exact hlt)
      clear hc
      go_wp2
      go_roundw
      case rel => exact ⟨k + 1, by omega, by go_num, rfl, ⟨_, rfl⟩⟩
      case measure => simp [intOf]; omega
    · obtain rfl : k = n := by omega
      go_wp2
      go_ret
      exact ⟨ret_int (by rw [tot, HL.out]), ⟨_, rfl⟩⟩

theorem VS_no {xs : List Int} {n : Int} {k : Nat} (hk : k < xs.length) (h : ¬ InR (gi xs k) 0 1000) : pb (VS xs n) = false := pb_false fun v => h (v.2.1 k hk)

set_option maxHeartbeats 1000000 in
theorem validShares_any (A : Option Addr) (n c : Nat) (xs : List Int) (m : Int) (w : World) (hx : Ints w A n c xs) (hm : m ≤ 3) :
    Calls Try.prog 69 #[.slice A n c, .int .i64 m] w fun e w' => e = .returned (.bool (pb (VS xs m))) ∧ Quiet w w' := by
  have hl := hx.max
  have HX := Lib.hid hx
  have HL := Lib.hid hx.len
  clear hx
  go_enter Try.func69, Try.ntmps69
  go_wp2
  go_loopw [5] (fun i wr => ∃ k : Nat, k ≤ n ∧ i = .int .i64 k ∧ Hid (∀ j, j < k → InR (gi xs j) 0 1000) ∧ Quiet w wr) (fun i _ => n - (intOf i).toNat)
  case atStart => exact ⟨0, Nat.zero_le _, rfl, Lib.hid (fun _ h => absurd h (by omega)), Quiet.refl _⟩
  case round =>
    obtain ⟨k, hk, rfl, HIN, q, rfl⟩ := hrel
    by_cases hlt : k < n
    · obtain ⟨b, o, rfl, hc⟩ := HX.out.at_ (by omega)
      have c1 := hc k hlt
      clear hc
      by_cases hin : InR (gi xs k) 0 1000
      · have HI := Lib.hid hin
        have hq := fun W => (pb_true hin ▸ inRange_any (gi xs k) 0 1000 W)
        clear hin
        go_wp2_with (go_at_call 52; refine (hq _).mono ?_; rintro e w' ⟨rfl, rfl⟩)
        go_roundw
        case rel => exact ⟨k + 1, by omega, by go_num, Lib.hid (fun j hj => by
          by_cases hjk : j < k
          · exact HIN.out j hjk
          · obtain rfl : j = k := by omega
            exact HI.out), ⟨_, rfl⟩⟩
        case measure => simp [intOf]; omega
      · have HV := Lib.hid (VS_no (n := m) (by rw [HL.out]; exact hlt) hin)
        have hq := fun W => (pb_false hin ▸ inRange_any (gi xs k) 0 1000 W)
        clear hin
        go_wp2_with (go_at_call 52; refine (hq _).mono ?_; rintro e w' ⟨rfl, rfl⟩)
        go_ret
        exact ⟨ret_bool HV.out.symm, ⟨_, rfl⟩⟩
    · obtain rfl : k = n := by omega
      by_cases hm2 : (k : Int) = m
      · have HS := Lib.hid (show SumOk xs from ⟨by rw [HL.out]; omega, fun j hj => by have := HIN.out j (by rw [← HL.out]; exact hj); unfold InR at this; omega⟩)
        have hq := sum_any _ _ _ _ (w.drewN q) (HX.out.keep (Keep.drewN _ _)) HS.out
        have HV : Hid (pb (VS xs m) = decide (0 < tot xs)) := Lib.hid (by
          by_cases h0 : 0 < tot xs
          · rw [pb_true ⟨by rw [HL.out]; exact hm2, fun j hj => HIN.out j (by rw [← HL.out]; exact hj), h0⟩]; simp [h0]
          · rw [pb_false (fun v => h0 v.2.2)]; simp [h0])
        have hm2' : ((k : Int) == m) = true := by simpa using hm2
        clear hm2
        go_wp2_with fail
        refine hq.mono ?_
        rintro e w2 ⟨rfl, q2, rfl⟩
        go_wp2
        go_ret
        exact ⟨ret_bool (by rw [HV.out]), by first | exact ⟨_, rfl⟩ | exact Quiet.two _ _ _⟩
      · have HV := Lib.hid (pb_false (p := VS xs m) (fun v => hm2 (by have := v.1; rw [HL.out] at this; exact this)))
        have hm2' : ((k : Int) == m) = false := by simpa using hm2
        clear hm2
        go_wp2
        go_ret
        exact ⟨ret_bool HV.out.symm, ⟨_, rfl⟩⟩

end Go.Proofs.Ytcjanlbhgfadpaa

/- Numbers of a table, by the program. -/
namespace Go.Proofs.Ytcjanlbhgfadpaa
open Go.RowKit

end Go.Proofs.Ytcjanlbhgfadpaa

/- Valid tables by the program. -/
namespace Go.Proofs.Ytcjanlbhgfadpaa
open Go.RowKit

end Go.Proofs.Ytcjanlbhgfadpaa

/- A valid table in memory, every cell by its row and its column. -/
namespace Go.Proofs.Ytcjanlbhgfadpaa
open Go.RowKit

structure Tab (w : World) (b o : Nat) (rb ro cc : Nat → Nat) (n m : Nat) (xs : List (List Int)) : Prop where
  row : ∀ i, i < n → w.cell? ⟨b, o + i, none⟩ = some (.slice (some ⟨rb i, ro i, none⟩) m (cc i))
  cell : ∀ i j, i < n → j < m → w.cell? ⟨rb i, ro i + j, none⟩ = some (.int .i64 (g2 xs i j))
  bd : ∀ i j, i < n → j < m → -9 ≤ g2 xs i j ∧ g2 xs i j ≤ 9
  n1 : 1 ≤ n
  n3 : n ≤ 3
  m1 : 1 ≤ m
  m3 : m ≤ 3
  cap : ∀ i, i < n → m ≤ cc i
  ints : ∀ i, i < n → Ints w (some ⟨rb i, ro i, none⟩) m (cc i) (gr xs i)
theorem Tab.keep {w w' : World} {b o rb ro cc n m xs} (h : Tab w b o rb ro cc n m xs) (k : Keep w w') : Tab w' b o rb ro cc n m xs :=
  ⟨fun i hi => k _ _ (h.row i hi), fun i j hi hj => k _ _ (h.cell i j hi hj), h.bd, h.n1, h.n3, h.m1, h.m3, h.cap, fun i hi => (h.ints i hi).keep k⟩

theorem IntRows.tab {w A n c xs} (h : IntRows w A n c xs) (v : VT xs) : ∃ b o rb ro cc, A = some ⟨b, o, none⟩ ∧ Tab w b o rb ro cc n (gr xs 0).length xs := by
  have hl := h.len
  have n1 := v.n1
  have n3 := v.n3
  obtain ⟨b, o, rfl, hr⟩ := h.at_ (by omega)
  have each : ∀ i, i < n → ∃ y : Nat × Nat × Nat, w.cell? ⟨b, o + i, none⟩ = some (.slice (some ⟨y.1, y.2.1, none⟩) (gr xs 0).length y.2.2) ∧ (gr xs 0).length ≤ y.2.2 ∧
      (∀ j, j < (gr xs 0).length → w.cell? ⟨y.1, y.2.1 + j, none⟩ = some (.int .i64 (g2 xs i j))) ∧ Ints w (some ⟨y.1, y.2.1, none⟩) (gr xs 0).length y.2.2 (gr xs i) := by
    intro i hi
    obtain ⟨R, c', h1, h2⟩ := hr i hi
    have hrow := (v.rows i (by omega)).1
    have m1 := v.m1
    obtain ⟨b2, o2, rfl, hc⟩ := h2.at_ (by omega)
    refine ⟨(b2, o2, c'), by rw [← hrow]; exact h1, by rw [← hrow]; exact h2.cap, fun j hj => hc j (by omega), by rw [← hrow]; exact h2⟩
  obtain ⟨y, hy⟩ := Go.Deep.choose_lt each
  exact ⟨b, o, fun i => (y i).1, fun i => (y i).2.1, fun i => (y i).2.2, rfl, ⟨fun i hi => (hy i hi).1, fun i j hi hj => (hy i hi).2.2.1 j hj, fun i j hi hj => v.bd (by omega) hj, by omega, by omega, v.m1, v.m3, fun i hi => (hy i hi).2.1, fun i hi => (hy i hi).2.2.2⟩⟩

/-- Where a valid game lies: both tables' places. -/
structure GP where
  ba : Nat
  oa : Nat
  bb : Nat
  ob : Nat
  ra : Nat → Nat
  pa : Nat → Nat
  ca : Nat → Nat
  rb : Nat → Nat
  pb : Nat → Nat
  cb : Nat → Nat
  n : Nat
  m : Nat
  c : Nat
  d : Nat
structure GV (p : GP) (w : World) (xs ys : List (List Int)) : Prop where
  tx : Tab w p.ba p.oa p.ra p.pa p.ca p.n p.m xs
  ty : Tab w p.bb p.ob p.rb p.pb p.cb p.n p.m ys
  lx : xs.length = p.n
  mx : (gr xs 0).length = p.m
  capx : p.n ≤ p.c
  capy : p.n ≤ p.d
theorem GV.keep {p w w' xs ys} (h : GV p w xs ys) (k : Keep w w') : GV p w' xs ys := ⟨h.tx.keep k, h.ty.keep k, h.lx, h.mx, h.capx, h.capy⟩
theorem GV.of {w A B n c m d xs ys} (hx : IntRows w A n c xs) (hy : IntRows w B m d ys) (v : VG xs ys) :
    ∃ p : GP, A = some ⟨p.ba, p.oa, none⟩ ∧ B = some ⟨p.bb, p.ob, none⟩ ∧ n = p.n ∧ m = p.n ∧ c = p.c ∧ d = p.d ∧ GV p w xs ys := by
  obtain ⟨ba, oa, ra, pa, ca, rfl, tx⟩ := hx.tab v.ta
  obtain ⟨bb, ob, rb, pb, cb, rfl, ty⟩ := hy.tab v.tb
  have h1 := hx.len
  have h2 := hy.len
  have h3 := v.n
  obtain rfl : m = n := by omega
  exact ⟨⟨ba, oa, bb, ob, ra, pa, ca, rb, pb, cb, m, (gr xs 0).length, c, d⟩, rfl, rfl, rfl, rfl, rfl, rfl, tx, by rw [v.m]; exact ty, h1, rfl, hx.cap, hy.cap⟩

end Go.Proofs.Ytcjanlbhgfadpaa

/- The least of a row; the safe row. -/
namespace Go.Proofs.Ytcjanlbhgfadpaa
open Go.RowKit

set_option maxHeartbeats 400000 in
theorem Min_any (A : Option Addr) (n c : Nat) (r : List Int) (w : World) (hx : Ints w A n c r) (h0 : 0 < n) :
    Calls Try.prog 67 #[.slice A n c] w fun e w' => e = .returned (.int .i64 (lst r)) ∧ Quiet w w' := by
  obtain ⟨lx, cx, mx, _, hx⟩ := hx
  have Lx := Lib.hid lx
  clear lx
  obtain ⟨b, o, rfl, hc⟩ := hx h0
  have c0 := hc 0 h0
  simp only [Nat.add_zero] at c0
  go_enter Try.func67, Try.ntmps67
  go_wp2
  go_loopw [3, 4] (fun m i wr => ∃ k : Nat, k < n ∧ i = .int .i64 (k + 1 : Nat) ∧ m = .int .i64 (mn r k) ∧ Quiet w wr) (fun _ i _ => n - (intOf i).toNat)
  case atStart => exact ⟨0, h0, rfl, rfl, Quiet.refl _⟩
  case round =>
    obtain ⟨k, hk, rfl, rfl, q, rfl⟩ := hrel
    by_cases hlt : k + 1 < n
    · have c1 := hc (k + 1) hlt
      clear c0 hc
      go_wp2
      go_roundw
      case rel => exact ⟨k + 1, hlt, by go_num, congrArg (Value.int .i64) (by simp only [mn]; split <;> omega), ⟨_, rfl⟩⟩
      case measure => simp [intOf]; omega
    · obtain rfl : n = k + 1 := by omega
      go_wp2
      go_ret
      exact ⟨ret_int (by rw [lst, Lx.out]; rfl), ⟨_, rfl⟩⟩

/-- What a valid table's rows are, each with its length. -/
theorem VT.len {a : List (List Int)} (v : VT a) {i : Nat} (hi : i < a.length) : (gr a i).length = (gr a 0).length := (v.rows i hi).1

noncomputable def srAt (a : List (List Int)) : Int := if pb (VT a) = true then (bst a a.length : Int) else 0
noncomputable def srNum (a : List (List Int)) : Int := if pb (VT a) = true then lst (gr a (bst a a.length)) else 0
end Go.Proofs.Ytcjanlbhgfadpaa

/- Valid games, by both programs. -/
namespace Go.Proofs.Ytcjanlbhgfadpaa
open Go.RowKit

end Go.Proofs.Ytcjanlbhgfadpaa

