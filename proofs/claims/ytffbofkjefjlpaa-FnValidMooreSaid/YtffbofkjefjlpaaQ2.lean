/- Texts merged: A4 A5 A6 M1 Math1 B1 M2. -/
import Derived.Test.YtffbofkjefjlpaaQ1
import Derived.Deep.RegionHeld3
/- What an exact law on a game knows at each step. -/
namespace Go.Proofs.Ytffbofkjefjlpaa
open Go.RowKit

end Go.Proofs.Ytffbofkjefjlpaa

/- The harness of the exact laws: every cell marked by a number of its own, and looked at again. -/
namespace Go.Proofs.Ytffbofkjefjlpaa
open Go.RowKit

def seqI (k : Int) (n : Nat) : List Int := (List.range n).map fun (i : Nat) => k + (i : Int)
theorem seqI_len (k : Int) (n : Nat) : (seqI k n).length = n := by simp [seqI]
theorem gi_seqI {k : Int} {n i : Nat} (h : i < n) : gi (seqI k n) i = k + i := by rw [gi_get (by rw [seqI_len]; exact h)]; simp [seqI]
theorem gi_set_eq {xs : List Int} {i : Nat} {v : Int} (h : i < xs.length) : gi (xs.set i v) i = v := by rw [gi_get (by simpa using h)]; simp
theorem gi_set_ne {xs : List Int} {i j : Nat} {v : Int} (h : j < xs.length) (hne : j ≠ i) : gi (xs.set i v) j = gi xs j := by
  rw [gi_get (by simpa using h), gi_get h, List.getElem_set]; simp [Ne.symm hne]

/-- Only block b has turned. -/
structure One (b : Nat) (w w' : World) : Prop where
  os : w'.os = w.os
  tape : w'.tape = w.tape
  output : w'.output = w.output
  size : w'.heap.size = w.heap.size
  block : ∀ g, g ≠ b → w'.heap[g]? = w.heap[g]?
theorem One.refl (b : Nat) (w : World) : One b w w := ⟨rfl, rfl, rfl, rfl, fun _ _ => rfl⟩
theorem One.set {b : Nat} {a w : World} (h : One b a w) (i : Nat) (u : Value) : One b a (w.setCell ⟨b, i, none⟩ u) :=
  ⟨h.os, h.tape, h.output, by simpa [World.setCell] using h.size, fun g hg => (Below.heap_setCell _ _ _ _ hg).trans (h.block g hg)⟩
theorem One.touch {b lo hi : Nat} {w w' : World} (h : One b w w') (h1 : lo ≤ b) (h2 : b < hi) : Touch lo hi w w' := ⟨h.os, h.tape, h.output, h.size, fun k hk => h.block k (by omega)⟩

theorem OwnI.set {lo hi w b o n c xs} (h : OwnI lo hi w b (some ⟨b, o, none⟩) n c xs) {i : Nat} (hi' : i < n) {v : Int} (hv : -9223372036854775808 ≤ v ∧ v ≤ 9223372036854775807) :
    OwnI lo hi (w.setCell ⟨b, o + i, none⟩ (.int .i64 v)) b (some ⟨b, o, none⟩) n c (xs.set i v) := by
  have hl := h.ints.len
  obtain ⟨o', e, h1, h2, hf⟩ := h.own (by omega)
  injection e with e
  injection e with _ e _
  subst e
  obtain ⟨b', o', e, hc⟩ := h.ints.at_ (by omega)
  injection e with e
  injection e with e1 e2 _
  subst e1
  subst e2
  refine ⟨⟨by rw [List.length_set]; exact hl, h.ints.cap, h.ints.max, fun x hx => ?_, fun _ => ⟨b, o, rfl, fun k hk => ?_⟩⟩, fun _ => ⟨o, rfl, h1, h2, fun k hk => ?_⟩⟩
  · rcases List.mem_or_eq_of_mem_set hx with hx | rfl
    · exact h.ints.wf x hx
    · exact hv
  · by_cases e : k = i
    · subst e
      rw [gi_set_eq (by omega), World.cell?_setCell_same w _ _ (hc k hk)]
    · rw [gi_set_ne (by omega) e, World.cell?_setCell_other w _ _ _ (fun e' => by injection e' with _ e' _; omega)]
      exact hc k hk
  · rw [World.frozen?_setCell]; exact hf k hk

def MarkedI (lo hi : Nat) (w : World) (b : Nat) (A : Option Addr) (n c : Nat) (k : Int) (e : Ending) (w' : World) : Prop :=
  e = .returned (.int .i64 (k + n)) ∧ OwnI lo hi w' b A n c (seqI k n) ∧ (n = 0 → w = w') ∧ One b w w'

set_option maxHeartbeats 400000 in
theorem markIntS_any (lo hi b : Nat) (A : Option Addr) (n c : Nat) (xs : List Int) (k : Int) (w : World) (hx : OwnI lo hi w b A n c xs) (h0 : 0 ≤ k) (h1 : k + n ≤ 4611686018427387904) :
    Calls Try.prog 50 #[.slice A n c, .int .i64 k] w (MarkedI lo hi w b A n c k) := by
  have HX := Lib.hid hx
  have mx := hx.ints.max
  clear hx
  go_enter Try.func50, Try.ntmps50
  go_wp2
  go_loopw [1, 5] (fun z i wr => ∃ (j : Nat) (ys : List Int), j ≤ n ∧ i = .int .i64 j ∧ z = .int .i64 (k + j) ∧ Hid (∀ l, l < j → gi ys l = k + l) ∧ Hid (OwnI lo hi wr b A n c ys) ∧ Hid (One b w wr) ∧ Hid (n = 0 → w = wr)) (fun _ i _ => n - (intOf i).toNat)
  case atStart => exact ⟨0, xs, Nat.zero_le _, rfl, by simp, Lib.hid (fun _ h => absurd h (by omega)), HX, Lib.hid (One.refl _ _), Lib.hid (fun _ => rfl)⟩
  case round =>
    obtain ⟨j, ys, hj, rfl, rfl, HA, HO, H1, H0⟩ := hrel
    by_cases hlt : j < n
    · obtain ⟨o, rfl, _, _, hf⟩ := HO.out.own (by omega)
      obtain ⟨b', o', e, hc⟩ := HO.out.ints.at_ (by omega)
      injection e with e
      injection e with e1 e2 _
      subst e1
      subst e2
      have c1 := hc j hlt
      have f1 := hf j hlt
      have HO2 := Lib.hid (HO.out.set hlt (v := k + j) (by omega))
      have H12 := Lib.hid (H1.out.set (o + j) (.int .i64 (k + j)))
      have HL := Lib.hid HO.out.ints.len
      clear hc hf HO H1
      go_wp2
      go_roundw
      case rel => exact ⟨j + 1, _, by omega, by go_num, by congr 1; omega, Lib.hid (fun l hl => by
        by_cases e : l = j
        · subst e; exact gi_set_eq (by rw [HL.out]; exact hlt)
        · rw [gi_set_ne (by rw [HL.out]; omega) e]; exact HA.out l (by omega)), HO2, H12, Lib.hid (fun e => absurd e (by omega))⟩
      case measure => simp [intOf]; omega
    · obtain rfl : j = n := by omega
      have e : ys = seqI k j := gi_ext (by rw [HO.out.ints.len, seqI_len]) fun l hl => by
        rw [HO.out.ints.len] at hl
        rw [HA.out l hl, gi_seqI hl]
      have HO2 := Lib.hid (e ▸ HO.out)
      clear e HO
      go_wp2
      go_ret
      exact ⟨rfl, HO2.out, H0.out, H1.out⟩

set_option maxHeartbeats 400000 in
theorem heldIntS_any (A : Option Addr) (n c : Nat) (k : Int) (w : World) (hx : Ints w A n c (seqI k n)) (h0 : 0 ≤ k) (h1 : k + n ≤ 4611686018427387904) :
    Calls Try.prog 51 #[.slice A n c, .int .i64 k] w fun e w' => e = .returned (.int .i64 (k + n)) ∧ Quiet w w' := by
  have mx := hx.max
  have HX := Lib.hid hx
  clear hx
  go_enter Try.func51, Try.ntmps51
  go_wp2
  go_loopw [1, 5] (fun z i wr => ∃ (j : Nat), j ≤ n ∧ i = .int .i64 j ∧ z = .int .i64 (k + j) ∧ Quiet w wr) (fun _ i _ => n - (intOf i).toNat)
  case atStart => exact ⟨0, Nat.zero_le _, rfl, by simp, Quiet.refl _⟩
  case round =>
    obtain ⟨j, hj, rfl, rfl, q, rfl⟩ := hrel
    by_cases hlt : j < n
    · obtain ⟨b, o, rfl, hc⟩ := HX.out.at_ (by omega)
      have c1 := hc j hlt
      rw [gi_seqI hlt] at c1
      clear hc
      go_wp2
      go_roundw
      case rel => exact ⟨j + 1, by omega, by go_num, by congr 1; omega, ⟨_, rfl⟩⟩
      case measure => simp [intOf]; omega
    · obtain rfl : j = n := by omega
      go_wp2
      go_ret
      exact ⟨rfl, ⟨_, rfl⟩⟩

/-- How many numbers stand ahead of row j; the rows as they are marked. -/
def offs (xss : List (List Int)) : Nat → Int
  | 0 => 0
  | j + 1 => offs xss j + (gr xss j).length
theorem offs_ge (xss : List (List Int)) : ∀ j, 0 ≤ offs xss j
  | 0 => Int.le_refl _
  | j + 1 => by have := offs_ge xss j; simp only [offs]; omega
theorem offs_mono (xss : List (List Int)) {i j : Nat} (h : i ≤ j) : offs xss i ≤ offs xss j := by
  induction j with
  | zero => obtain rfl : i = 0 := by omega
            exact Int.le_refl _
  | succ j ih =>
    by_cases e : i = j + 1
    · subst e; exact Int.le_refl _
    · have := ih (by omega); simp only [offs]; omega
def mkR (k : Int) (xss : List (List Int)) : List (List Int) := (List.range xss.length).map fun j => seqI (k + offs xss j) (gr xss j).length
theorem mkR_len (k : Int) (xss : List (List Int)) : (mkR k xss).length = xss.length := by simp [mkR]
theorem gr_mkR {k : Int} {xss : List (List Int)} {j : Nat} (h : j < xss.length) : gr (mkR k xss) j = seqI (k + offs xss j) (gr xss j).length := by
  rw [gr_get (by rw [mkR_len]; exact h)]; simp [mkR]

theorem gr_set_eq {xs : List (List Int)} {i : Nat} {v : List Int} (h : i < xs.length) : gr (xs.set i v) i = v := by rw [gr_get (by simpa using h)]; simp
theorem gr_set_ne {xs : List (List Int)} {i j : Nat} {v : List Int} (hne : j ≠ i) : gr (xs.set i v) j = gr xs j := by
  unfold gr; rw [List.getD_eq_getElem?_getD, List.getD_eq_getElem?_getD, List.getElem?_set_ne (Ne.symm hne)]

/-- A row of its own, and what comes of the rows when it alone is written. -/
theorem OwnR.at_row {lo hi w b A n c xss} (h : OwnR lo hi w b A n c xss) {i : Nat} (hi' : i < n) :
    ∃ o g R cc, A = some ⟨b, o, none⟩ ∧ w.cell? ⟨b, o + i, none⟩ = some (.slice R (gr xss i).length cc) ∧ OwnI lo hi w g R (gr xss i).length cc (gr xss i) ∧
      ∀ w' r, r.length = (gr xss i).length → OwnI lo hi w' g R (gr xss i).length cc r → ((gr xss i).length = 0 → w = w') → One g w w' → OwnR lo hi w' b A n c (xss.set i r) ∧ Touch lo hi w w' := by
  obtain ⟨o, G, R, C, rfl, h1, h2, hr, hd⟩ := h.at_ (by omega)
  have hl := h.len
  refine ⟨o, G i, R i, C i, rfl, (hr i hi').2.1, (hr i hi').2.2.1, fun w' r hrl hown h0 hone => ?_⟩
  have hsame : ∀ g, (0 < (gr xss i).length → g ≠ G i) → w'.heap[g]? = w.heap[g]? := fun g hg => by
    by_cases e : 0 < (gr xss i).length
    · exact hone.block g (hg e)
    · rw [h0 (by omega)]
  refine ⟨⟨by rw [List.length_set]; exact hl, h.cap, h.max, fun _ => ⟨o, G, R, C, rfl, h1, h2, fun k hk => ?_, fun j k hjk hk hj0 hk0 => ?_⟩⟩, ?_⟩
  · have eb := hsame b (fun hp => (Ne.symm ((hr i hi').2.2.2 hp)))
    have el : (gr (xss.set i r) k).length = (gr xss k).length := by
      by_cases e : k = i
      · subst e; rw [gr_set_eq (by omega), hrl]
      · rw [gr_set_ne e]
    rw [el]
    refine ⟨by rw [World.frozen?_of_block (w := w) eb]; exact (hr k hk).1, by rw [World.cell?_of_block (w := w) eb]; exact (hr k hk).2.1, ?_, (hr k hk).2.2.2⟩
    by_cases e : k = i
    · subst e; rw [gr_set_eq (by omega)]; exact hown
    · rw [gr_set_ne e]
      exact (hr k hk).2.2.1.of_block fun hp => hsame _ fun hp' => by
        rcases Nat.lt_or_gt_of_ne e with h | h
        · exact hd k i h hi' hp hp'
        · exact Ne.symm (hd i k h hk hp' hp)
  · have el : ∀ k, (gr (xss.set i r) k).length = (gr xss k).length := fun k => by
      by_cases e : k = i
      · subst e; rw [gr_set_eq (by omega), hrl]
      · rw [gr_set_ne e]
    rw [el] at hj0 hk0
    exact hd j k hjk hk hj0 hk0
  · by_cases e : 0 < (gr xss i).length
    · obtain ⟨_, _, q1, q2, _⟩ := (hr i hi').2.2.1.own e
      exact hone.touch q1 q2
    · rw [h0 (by omega)]; exact Touch.refl _ _ _

def MarkedR (lo hi : Nat) (w : World) (b : Nat) (A : Option Addr) (n c : Nat) (xss : List (List Int)) (k : Int) (e : Ending) (w' : World) : Prop :=
  e = .returned (.int .i64 (k + offs xss n)) ∧ OwnR lo hi w' b A n c (mkR k xss) ∧ Touch lo hi w w'

set_option maxHeartbeats 1000000 in
theorem markIntSS_any (lo hi b : Nat) (A : Option Addr) (n c : Nat) (xss : List (List Int)) (k : Int) (w : World) (hx : OwnR lo hi w b A n c xss) (h0 : 0 ≤ k) (h1 : k + offs xss n ≤ 4611686018427387904) :
    Calls Try.prog 22 #[.slice A n c, .int .i64 k] w (MarkedR lo hi w b A n c xss k) := by
  have HX := Lib.hid hx
  have mx := hx.max
  have HL := Lib.hid hx.len
  clear hx
  go_enter Try.func22, Try.ntmps22
  go_wp2
  go_loopw [1, 5] (fun z i wr => ∃ (j : Nat) (yss : List (List Int)), j ≤ n ∧ i = .int .i64 j ∧ z = .int .i64 (k + offs xss j) ∧ Hid (∀ l, l < j → gr yss l = seqI (k + offs xss l) (gr xss l).length) ∧ Hid (∀ l, j ≤ l → gr yss l = gr xss l) ∧ Hid (OwnR lo hi wr b A n c yss) ∧ Hid (Touch lo hi w wr)) (fun _ i _ => n - (intOf i).toNat)
  case atStart => exact ⟨0, xss, Nat.zero_le _, rfl, by simp [offs], Lib.hid (fun _ h => absurd h (by omega)), Lib.hid (fun _ _ => rfl), HX, Lib.hid (Touch.refl _ _ _)⟩
  case round =>
    obtain ⟨j, yss, hj, rfl, rfl, HA, HB, HO, HT⟩ := hrel
    by_cases hlt : j < n
    · obtain ⟨o, g, R, cc, rfl, c1, hI, hset⟩ := HO.out.at_row hlt
      rw [HB.out j (Nat.le_refl _)] at c1 hI hset
      have hge := offs_ge xss j
      have hmono := offs_mono xss (i := j + 1) (j := n) hlt
      have HOF := Lib.hid (show offs xss (j + 1) = offs xss j + (gr xss j).length from rfl)
      have HC := Lib.hid (markIntS_any lo hi g R _ cc _ (k + offs xss j) _ hI (by omega) (by have := HOF.out; omega))
      have HS := Lib.hid hset
      clear hI hset hge hmono
      go_wp2_with fail
      refine HC.out.mono ?_
      rintro e w2 ⟨rfl, hown, h0', hone⟩
      obtain ⟨hR, hT⟩ := HS.out w2 _ (seqI_len _ _) hown h0' hone
      have HR := Lib.hid hR
      have HT2 := Lib.hid (HT.out.trans hT)
      have HYL := Lib.hid HO.out.len
      clear hown h0' hone hR hT HS HC HT c1 HO
      go_wp2
      go_roundw
      case rel => exact ⟨j + 1, _, by omega, by go_num, by rw [HOF.out]; congr 1; omega, Lib.hid (fun l hl => by
        by_cases e : l = j
        · subst e; exact gr_set_eq (by rw [HYL.out]; exact hlt)
        · rw [gr_set_ne e]; exact HA.out l (by omega)), Lib.hid (fun l hl => by rw [gr_set_ne (by omega)]; exact HB.out l (by omega)), HR, HT2⟩
      case measure => simp [intOf]; omega
    · obtain rfl : j = n := by omega
      have e : yss = mkR k xss := gr_ext (by rw [HO.out.len, mkR_len, HL.out]) fun l hl => by
        rw [HO.out.len] at hl
        rw [HA.out l hl, gr_mkR (by rw [HL.out]; exact hl)]
      have HO2 := Lib.hid (e ▸ HO.out)
      clear e HO
      go_wp2
      go_ret
      exact ⟨rfl, HO2.out, HT.out⟩

set_option maxHeartbeats 1000000 in
theorem heldIntSS_any (A : Option Addr) (n c : Nat) (xss : List (List Int)) (k : Int) (w : World) (hx : IntRows w A n c (mkR k xss)) (h0 : 0 ≤ k) (h1 : k + offs xss n ≤ 4611686018427387904) :
    Calls Try.prog 23 #[.slice A n c, .int .i64 k] w fun e w' => e = .returned (.int .i64 (k + offs xss n)) ∧ Quiet w w' := by
  have HX := Lib.hid hx
  have mx := hx.max
  have hl := hx.len
  rw [mkR_len] at hl
  have HL := Lib.hid hl
  clear hx hl
  go_enter Try.func23, Try.ntmps23
  go_wp2
  go_loopw [1, 5] (fun z i wr => ∃ (j : Nat), j ≤ n ∧ i = .int .i64 j ∧ z = .int .i64 (k + offs xss j) ∧ Quiet w wr) (fun _ i _ => n - (intOf i).toNat)
  case atStart => exact ⟨0, Nat.zero_le _, rfl, by simp [offs], Quiet.refl _⟩
  case round =>
    obtain ⟨j, hj, rfl, rfl, q, rfl⟩ := hrel
    by_cases hlt : j < n
    · obtain ⟨b, o, rfl, hc⟩ := HX.out.at_ (by omega)
      obtain ⟨R, cc, c1, hI⟩ := hc j hlt
      rw [gr_mkR (by rw [HL.out]; exact hlt), seqI_len] at c1 hI
      have hge := offs_ge xss j
      have hmono := offs_mono xss (i := j + 1) (j := n) hlt
      have HOF := Lib.hid (show offs xss (j + 1) = offs xss j + (gr xss j).length from rfl)
      have HC := Lib.hid (heldIntS_any R _ cc (k + offs xss j) (w.drewN q) (hI.keep (Keep.quiet ⟨_, rfl⟩)) (by omega) (by have := HOF.out; omega))
      clear hI hc hmono
      go_wp2_with fail
      refine HC.out.mono ?_
      rintro e w2 ⟨rfl, q2, rfl⟩
      clear HC
      go_wp2
      go_roundw
      case rel => exact ⟨j + 1, by omega, by go_num, by rw [HOF.out]; congr 1; omega, by first | exact ⟨_, rfl⟩ | exact Quiet.two _ _ _⟩
      case measure => simp [intOf]; omega
    · obtain rfl : j = n := by omega
      go_wp2
      go_ret
      exact ⟨rfl, ⟨_, rfl⟩⟩
end Go.Proofs.Ytffbofkjefjlpaa

/- The harness of the exact laws: a copy of a game marked; how many numbers it has. -/
namespace Go.Proofs.Ytffbofkjefjlpaa
open Go.RowKit

theorem szR_offs (left : Int) (xs : List (List Int)) (h : 0 ≤ szR left xs) : szR left xs = left - offs xs xs.length := by
  have key : ∀ (xs : List (List Int)) (left : Int), 0 ≤ szR left xs → szR left xs = left - ((xs.map List.length).sum : Nat) := by
    intro xs
    induction xs with
    | nil => intro left _; simp [szR]
    | cons x xs ih =>
      intro left h
      by_cases hn : szI left x.length < 0
      · rw [szR_neg hn] at h; omega
      · rw [szR_pos hn] at h ⊢
        rw [ih _ h]
        have : szI left x.length = left - x.length := by unfold szI at hn ⊢; split <;> simp_all
        rw [this]
        simp
        omega
  have key2 : ∀ k, k ≤ xs.length → offs xs k = (((xs.take k).map List.length).sum : Nat) := by
    intro k
    induction k with
    | zero => intro _; simp [offs]
    | succ k ih =>
      intro hk
      rw [offs, ih (by omega), List.take_succ_eq_append_getElem (by omega), List.map_append, List.sum_append, gr_get (by omega)]
      simp
  rw [key xs left h, key2 _ (Nat.le_refl _), List.take_length]
theorem szRR_offs {left : Int} {xs : List (List Int)} (h : ¬ szRR left xs < 0) : offs xs xs.length ≤ left := by
  unfold szRR at h
  split at h
  · omega
  · rename_i hn
    have := szR_offs _ _ (by omega : 0 ≤ szR (szI left xs.length) xs)
    have h2 : szI left xs.length ≤ left := by unfold szI at hn ⊢; split <;> simp_all; omega
    omega
theorem szG_offs {left : Int} {xs ys : List (List Int)} (h : ¬ szG left xs ys < 0) (h0 : 0 ≤ left) (h1 : left ≤ 1048576) : offs xs xs.length ≤ 1048576 ∧ offs ys ys.length ≤ 1048576 := by
  unfold szG at h
  split at h
  · omega
  · rename_i hn
    split at h
    · omega
    · rename_i hn2
      have := szRR_offs hn
      have := szRR_offs hn2
      have := szRR_le left xs h0 h1
      omega

/-- A game marked: only its own rows have turned, and new blocks are there. -/
def MarkedG (lo hi : Nat) (w : World) (xs ys : List (List Int)) (k : Int) (e : Ending) (w' : World) : Prop :=
  e = .returned (.int .i64 (k + offs xs xs.length + offs ys ys.length)) ∧ ∃ w1, Below w.heap.size w w1 ∧ Touch lo hi w1 w'

def MarkedP (lo hi : Nat) (w : World) (xs ys : List (List Int)) (k : Int) (n m : Nat) (e : Ending) (w' : World) : Prop :=
  e = .returned (.int .i64 (k + offs xs n + offs ys m)) ∧ ∃ w1, Below w.heap.size w w1 ∧ Touch lo hi w1 w'

theorem offs_le {xss : List (List Int)} (h : ∀ r ∈ xss, r.length ≤ 3) : ∀ k, k ≤ xss.length → offs xss k ≤ 3 * k
  | 0, _ => by simp [offs]
  | k + 1, hk => by
    have h1 := offs_le h k (by omega)
    have h2 := h _ (gr_mem (xs := xss) (k := k) (by omega))
    simp only [offs]
    omega

end Go.Proofs.Ytffbofkjefjlpaa

/- The harness of the exact laws: machines. -/
namespace Go.Proofs.Ytffbofkjefjlpaa
open Go.RowKit

def szM (left : Int) (n : Nat) (ys : List (List Int)) : Int := if szI left n < 0 then -1 else if szRR (szI left n) ys < 0 then -1 else szRR (szI left n) ys
theorem szM_no1 {left : Int} {n : Nat} {ys : List (List Int)} (h : szI left n < 0) : szM left n ys = -1 := by rw [szM, if_pos h]
theorem szM_eq {left : Int} {n : Nat} {ys : List (List Int)} (h : ¬ szI left n < 0) (h1 : -1 ≤ szRR (szI left n) ys) : szM left n ys = szRR (szI left n) ys := by
  rw [szM, if_neg h]; split <;> omega
theorem szM_no2 {left : Int} {n : Nat} {ys : List (List Int)} (h : ¬ szI left n < 0) (h1 : szRR (szI left n) ys < 0) : szM left n ys = -1 := by
  rw [szM, if_neg h, if_pos h1]
theorem szM_le (left : Int) (n : Nat) (ys : List (List Int)) (h0 : 0 ≤ left) (h1 : left ≤ 1048576) : -1 ≤ szM left n ys ∧ szM left n ys ≤ 1048576 := by
  have h2 := szI_le left n h0 h1
  unfold szM
  split
  · omega
  · have := szRR_le (szI left n) ys (by omega) h2.2
    split <;> omega
theorem szM_offs {left : Int} {n : Nat} {ys : List (List Int)} (h : ¬ szM left n ys < 0) (h0 : 0 ≤ left) (h1 : left ≤ 1048576) : (n : Int) ≤ 1048576 ∧ offs ys ys.length ≤ 1048576 := by
  unfold szM at h
  split at h
  · omega
  · rename_i hn
    split at h
    · omega
    · rename_i hn2
      have := szRR_offs hn2
      have h2 := szI_le left n h0 h1
      have h3 : (n : Int) ≤ left := by unfold szI at hn; split at hn <;> omega
      omega

set_option maxHeartbeats 400000 in
theorem szMoore_any (A B : Option Addr) (n c m d : Nat) (ys : List (List Int)) (left : Int) (w : World) (hn : n ≤ 17592186044416) (hy : IntRows w B m d ys) (h0 : 0 ≤ left) (h1 : left ≤ 1048576) :
    Calls Try.prog 13 #[.agg #[.slice A n c, .slice B m d], .int .i64 left] w fun e w' => e = .returned (.int .i64 (szM left n ys)) ∧ Below w.heap.size w w' := by
  have HY := Lib.hid hy
  clear hy
  have hb := szI_le left n h0 h1
  by_cases hs : szI left n < 0
  · have HS := Lib.hid (szM_no1 (ys := ys) hs)
    go_enter Try.func13, Try.ntmps13
    go_wp2_with fail
    refine (szIntS_any _ _ _ _ _ hn h0 h1).mono ?_
    rintro e w1 ⟨rfl, rfl⟩
    go_wp2
    go_ret
    exact ⟨ret_int HS.out.symm, below_alloc _ _⟩
  · have hb2 := szRR_le (szI left n) ys (by omega) hb.2
    by_cases hs2 : szRR (szI left n) ys < 0
    · have HS := Lib.hid (szM_no2 hs hs2)
      go_enter Try.func13, Try.ntmps13
      go_wp2_with fail
      refine (szIntS_any _ _ _ _ _ hn h0 h1).mono ?_
      rintro e w1 ⟨rfl, rfl⟩
      go_wp2_with fail
      refine (szIntSS_any _ _ _ _ _ _ (HY.out.keep (Keep.below (below_alloc _ _))) (by omega) hb.2).mono ?_
      rintro e w1 ⟨rfl, q2, rfl⟩
      go_wp2
      go_ret
      exact ⟨ret_int HS.out.symm, below_drewN (below_alloc _ _) _⟩
    · have HS := Lib.hid (szM_eq hs (ys := ys) (by omega))
      go_enter Try.func13, Try.ntmps13
      go_wp2_with fail
      refine (szIntS_any _ _ _ _ _ hn h0 h1).mono ?_
      rintro e w1 ⟨rfl, rfl⟩
      go_wp2_with fail
      refine (szIntSS_any _ _ _ _ _ _ (HY.out.keep (Keep.below (below_alloc _ _))) (by omega) hb.2).mono ?_
      rintro e w1 ⟨rfl, q2, rfl⟩
      go_wp2
      go_ret
      exact ⟨ret_int HS.out.symm, below_drewN (below_alloc _ _) _⟩

def MadeM (w : World) (n m : Nat) (xs : List Int) (ys : List (List Int)) (e : Ending) (w' : World) : Prop :=
  ∃ g1 g2 mid, e = .returned (.agg #[.slice (some ⟨g1, 0, none⟩) n n, .slice (some ⟨g2, 0, none⟩) m m]) ∧ OwnI w.heap.size mid w' g1 (some ⟨g1, 0, none⟩) n n xs ∧ OwnR mid w'.heap.size w' g2 (some ⟨g2, 0, none⟩) m m ys ∧
    Below w.heap.size w w' ∧ w.heap.size ≤ mid ∧ mid ≤ w'.heap.size

set_option maxHeartbeats 400000 in
theorem toMoore_any (A B : Option Addr) (n c m d : Nat) (xs : List Int) (ys : List (List Int)) (w : World) (hx : Ints w A n c xs) (hy : IntRows w B m d ys) :
    Calls Try.prog 15 #[.agg #[.slice A n c, .slice B m d]] w (MadeM w n m xs ys) := by
  have HX := Lib.hid hx
  have HY := Lib.hid hy
  clear hx hy
  go_enter Try.func15, Try.ntmps15
  go_wp2_with fail
  have b0 := blk_old (blk_old (blk_new w 25 #[.slice A n c, .slice B m d]) (.cells #[.slice none 0 0, .slice none 0 0] 28)) (.cells #[.slice none 0 0, .slice none 0 0] 28)
  have b1 := blk_old (blk_new (w.alloc (.cells #[.slice A n c, .slice B m d] 25)) 28 #[.slice none 0 0, .slice none 0 0]) (.cells #[.slice none 0 0, .slice none 0 0] 28)
  have b2 := blk_new ((w.alloc (.cells #[.slice A n c, .slice B m d] 25)).alloc (.cells #[.slice none 0 0, .slice none 0 0] 28)) 28 #[.slice none 0 0, .slice none 0 0]
  have hb0 := below_up (below_up (below_alloc w (.cells #[.slice A n c, .slice B m d] 25)) (below_alloc _ (.cells #[.slice none 0 0, .slice none 0 0] 28))) (below_alloc _ (.cells #[.slice none 0 0, .slice none 0 0] 28))
  simp only [World.size_alloc] at b0 b1 b2
  generalize (((w.alloc (.cells #[.slice A n c, .slice B m d] 25)).alloc (.cells #[.slice none 0 0, .slice none 0 0] 28)).alloc (.cells #[.slice none 0 0, .slice none 0 0] 28)) = W1 at *
  refine (toIntS_any _ _ _ _ _ (HX.out.keep (Keep.below hb0))).mono ?_
  rintro e w1 ⟨rfl, hown, hb, hsz⟩
  have hle1 : W1.heap.size + 1 ≤ w1.heap.size := Nat.le_of_eq hsz.symm
  clear hsz
  have HO := Lib.hid hown
  have HB1 := Lib.hid (below_up hb0 hb)
  have hz0 := blk_lt b2
  have b0 := blk_below b0 hb
  have b1 := blk_below b1 hb
  have b2 := blk_below b2 hb
  have hz : w.heap.size + 1 + 1 < W1.heap.size := hz0
  clear hown hb hb0
  generalize W1.heap.size = g1 at *
  have c1 := blk_cell b0 (i := 1) rfl
  have c2 := blk_cell b2 (i := 0) rfl
  have f2 := blk_frozen b2 0
  go_wp2_with fail
  clear c1 c2 f2
  have B2 := (blk_set b2 0 (.slice (some ⟨g1, 0, none⟩) n n))
  have b1 := (blk_other b1 (p := ⟨w.heap.size + 1 + 1, 0, none⟩) (by simp) (.slice (some ⟨g1, 0, none⟩) n n))
  have HB2 := HB1.out.setCell (p := ⟨w.heap.size + 1 + 1, 0, none⟩) (by simp; omega) (.slice (some ⟨g1, 0, none⟩) n n)
  have HO2 := Lib.hid (HO.out.of_block (w' := w1.setCell ⟨w.heap.size + 1 + 1, 0, none⟩ (.slice (some ⟨g1, 0, none⟩) n n)) fun _ => Below.heap_setCell _ _ _ _ (by show g1 ≠ w.heap.size + 1 + 1; omega))
  have hz3 : w.heap.size < w1.heap.size := by have := blk_lt b2; omega
  have hw1 : w1.heap.size = (w1.setCell ⟨w.heap.size + 1 + 1, 0, none⟩ (.slice (some ⟨g1, 0, none⟩) n n)).heap.size := by simp
  have HO := Lib.hid HO2.out
  have hle2 : g1 + 1 ≤ (w1.setCell ⟨w.heap.size + 1 + 1, 0, none⟩ (.slice (some ⟨g1, 0, none⟩) n n)).heap.size := by rw [← hw1]; exact hle1
  clear HO2 HB1 b0 b2 hw1 hle1
  generalize w1.setCell ⟨w.heap.size + 1 + 1, 0, none⟩ (.slice (some ⟨g1, 0, none⟩) n n) = W2 at *
  refine (toIntSS_any _ _ _ _ _ (HY.out.keep (Keep.below HB2))).mono ?_
  rintro e w2 ⟨rfl, hown2, hb, -⟩
  have HP := Lib.hid hown2
  have HO2 := Lib.hid (HO.out.below hb)
  have hz5 := hb.size
  have HB3 := Lib.hid (below_up HB2 hb)
  have b1 := blk_below b1 hb
  have b2 := blk_below B2 hb
  have hz4 : w.heap.size + 1 + 1 < W2.heap.size := blk_lt B2
  clear hb hown2 HB2 B2 HO
  generalize W2.heap.size = g2 at *
  have c2 := blk_cell b2 (i := 0) rfl
  have c3 := blk_cell b2 (i := 1) rfl
  have f2 := blk_frozen b2 1
  have c4 := blk_cell b1 (i := 0) rfl
  have c5 := blk_cell b1 (i := 1) rfl
  have f4 := blk_frozen b1 0
  have f5 := blk_frozen b1 1
  go_wp2
  clear c2 c3 f2 c4 c5 f4 f5
  have hT := (((Touch.refl w.heap.size (w.heap.size + 1 + 1 + 1) w2).set (p := ⟨w.heap.size + 1 + 1, 1, none⟩) (by show w.heap.size ≤ w.heap.size + 1 + 1; omega) (by show w.heap.size + 1 + 1 < _; omega) (.slice (some ⟨g2, 0, none⟩) m m)).set
    (p := ⟨w.heap.size + 1, 0, none⟩) (by show w.heap.size ≤ w.heap.size + 1; omega) (by show w.heap.size + 1 < _; omega) (.slice (some ⟨g1, 0, none⟩) n n)).set
    (p := ⟨w.heap.size + 1, 1, none⟩) (by show w.heap.size ≤ w.heap.size + 1; omega) (by show w.heap.size + 1 < _; omega) (.slice (some ⟨g2, 0, none⟩) m m)
  have b1c := blk_set (blk_set (blk_other b1 (p := ⟨w.heap.size + 1 + 1, 1, none⟩) (by simp) (.slice (some ⟨g2, 0, none⟩) m m)) 0 (.slice (some ⟨g1, 0, none⟩) n n)) 1 (.slice (some ⟨g2, 0, none⟩) m m)
  generalize ((w2.setCell ⟨w.heap.size + 1 + 1, 1, none⟩ (.slice (some ⟨g2, 0, none⟩) m m)).setCell ⟨w.heap.size + 1, 0, none⟩ (.slice (some ⟨g1, 0, none⟩) n n)).setCell ⟨w.heap.size + 1, 1, none⟩ (.slice (some ⟨g2, 0, none⟩) m m) = W3 at *
  have k0 : W3.cell? ⟨w.heap.size + 1, 0, none⟩ = some (.slice (some ⟨g1, 0, none⟩) n n) := blk_cell b1c rfl
  have k1 : W3.cell? ⟨w.heap.size + 1, 1, none⟩ = some (.slice (some ⟨g2, 0, none⟩) m m) := blk_cell b1c rfl
  refine bodyPost_ret (v := .agg #[.slice (some ⟨g1, 0, none⟩) n n, .slice (some ⟨g2, 0, none⟩) m m]) (by simp [results, Try.results15, go_sem, k0, k1]) rfl ?_
  have hsz := hT.size
  exact ⟨g1, g2, g2, rfl, (HO2.out.touch hT (.inr (by omega))).mono (by omega) (by omega), (HP.out.touch hT (.inr (by omega))).mono (Nat.le_refl _) (Nat.le_of_eq hT.size.symm), Touch.below HB3.out hT (Nat.le_refl _), by omega, by omega⟩
def eqM (xs zs : List Int) (ys us : List (List Int)) : Bool := eqI xs zs && eqRR ys us
theorem eqM_refl (xs : List Int) (ys : List (List Int)) : eqM xs xs ys ys = true := by simp [eqM, eqRR, eqI]

set_option maxHeartbeats 400000 in
theorem eqMoore_any (A B C D : Option Addr) (n c m d n' c' m' d' : Nat) (xs zs : List Int) (ys us : List (List Int)) (w : World) (hx : Ints w A n c xs) (hy : IntRows w B m d ys) (hz : Ints w C n' c' zs) (hu : IntRows w D m' d' us) :
    Calls Try.prog 17 #[.agg #[.slice A n c, .slice B m d], .agg #[.slice C n' c', .slice D m' d']] w fun e w' => e = .returned (.bool (eqM xs zs ys us)) ∧ Below w.heap.size w w' := by
  have HX := Lib.hid hx
  have HY := Lib.hid hy
  have HZ := Lib.hid hz
  have HU := Lib.hid hu
  clear hx hy hz hu
  cases h1 : eqI xs zs with
  | false =>
    have HE := Lib.hid (show eqM xs zs ys us = false by simp [eqM, h1])
    go_enter Try.func17, Try.ntmps17
    go_wp2_with fail
    have hb0 := below_up (below_alloc w (.cells #[.slice A n c, .slice B m d] 28)) (below_alloc _ (.cells #[.slice C n' c', .slice D m' d'] 28))
    refine ((h1 ▸ eqIntS_any _ _ _ _ _ _ _ _ _ (HX.out.keep (Keep.below hb0)) (HZ.out.keep (Keep.below hb0)))).mono ?_
    rintro e w1 ⟨rfl, hq⟩
    have HB := Lib.hid (below_quiet hb0 hq)
    clear hq hb0 h1
    go_wp2
    go_ret
    exact ⟨ret_bool HE.out.symm, HB.out⟩
  | true =>
    have HE := Lib.hid (show eqM xs zs ys us = eqRR ys us by simp [eqM, h1])
    go_enter Try.func17, Try.ntmps17
    go_wp2_with fail
    have hb0 := below_up (below_alloc w (.cells #[.slice A n c, .slice B m d] 28)) (below_alloc _ (.cells #[.slice C n' c', .slice D m' d'] 28))
    have b0 := blk_old (blk_new w 28 #[.slice A n c, .slice B m d]) (.cells #[.slice C n' c', .slice D m' d'] 28)
    have b1 := blk_new (w.alloc (.cells #[.slice A n c, .slice B m d] 28)) 28 #[.slice C n' c', .slice D m' d']
    simp only [World.size_alloc] at b1
    generalize (w.alloc (.cells #[.slice A n c, .slice B m d] 28)).alloc (.cells #[.slice C n' c', .slice D m' d'] 28) = W1 at *
    refine ((h1 ▸ eqIntS_any _ _ _ _ _ _ _ _ _ (HX.out.keep (Keep.below hb0)) (HZ.out.keep (Keep.below hb0)))).mono ?_
    rintro e w1 ⟨rfl, hq⟩
    have hb1 := below_quiet hb0 hq
    have c0 := blk_cell (blk_quiet b0 hq) (i := 1) rfl
    have c1 := blk_cell (blk_quiet b1 hq) (i := 1) rfl
    have HB := Lib.hid hb1
    clear hq hb0 h1 b0 b1 hb1
    go_wp2_with fail
    cases h2 : eqRR ys us with
    | false =>
      refine ((h2 ▸ eqIntSS_any _ _ _ _ _ _ _ _ _ (HY.out.keep (Keep.below HB.out)) (HU.out.keep (Keep.below HB.out)))).mono ?_
      rintro e w2 ⟨rfl, hq⟩
      rw [h2] at HE
      have HB2 := Lib.hid (below_quiet HB.out hq)
      clear hq h2
      go_wp2
      go_ret
      exact ⟨ret_bool HE.out.symm, HB2.out⟩
    | true =>
      refine ((h2 ▸ eqIntSS_any _ _ _ _ _ _ _ _ _ (HY.out.keep (Keep.below HB.out)) (HU.out.keep (Keep.below HB.out)))).mono ?_
      rintro e w2 ⟨rfl, hq⟩
      rw [h2] at HE
      have HB2 := Lib.hid (below_quiet HB.out hq)
      clear hq h2
      go_wp2
      go_ret
      exact ⟨ret_bool HE.out.symm, HB2.out⟩

/-- A machine in a box g. -/
structure MX (w : World) (g : Nat) (t : TypeId) (A B : Option Addr) (n c m d : Nat) (xs : List Int) (ys : List (List Int)) : Prop where
  box : Blk w g t #[.slice A n c, .slice B m d]
  rx : Ints w A n c xs
  ry : IntRows w B m d ys
theorem MX.up {w w' g t A B n c m d xs ys} (h : MX w g t A B n c m d xs ys) (k : Below w.heap.size w w') : MX w' g t A B n c m d xs ys :=
  ⟨blk_below h.box k, h.rx.keep (Keep.below k), h.ry.keep (Keep.below k)⟩
theorem MX.c0 {w g t A B n c m d xs ys} (h : MX w g t A B n c m d xs ys) : w.cell? ⟨g, 0, none⟩ = some (.slice A n c) := blk_cell h.box rfl
theorem MX.c1 {w g t A B n c m d xs ys} (h : MX w g t A B n c m d xs ys) : w.cell? ⟨g, 1, none⟩ = some (.slice B m d) := blk_cell h.box rfl
theorem MX.start {w : World} {A B n c m d xs ys} (t : TypeId) (hx : Ints w A n c xs) (hy : IntRows w B m d ys) : MX (w.alloc (.cells #[.slice A n c, .slice B m d] t)) w.heap.size t A B n c m d xs ys :=
  ⟨blk_new _ _ _, hx.keep (Keep.below (below_alloc _ _)), hy.keep (Keep.below (below_alloc _ _))⟩
/-- A copy of it in a box g, its memory its own. -/
structure XM (lo mid hi : Nat) (w : World) (g g1 g2 n m : Nat) (xs : List Int) (ys : List (List Int)) : Prop where
  box : Blk w g 28 #[.slice (some ⟨g1, 0, none⟩) n n, .slice (some ⟨g2, 0, none⟩) m m]
  rx : OwnI lo mid w g1 (some ⟨g1, 0, none⟩) n n xs
  ry : OwnR mid hi w g2 (some ⟨g2, 0, none⟩) m m ys
  h1 : lo ≤ mid
  h2 : mid ≤ hi
  le : hi ≤ w.heap.size
  lt : hi ≤ g
theorem XM.up {lo mid hi w w' g g1 g2 n m xs ys} (h : XM lo mid hi w g g1 g2 n m xs ys) (k : Below w.heap.size w w') : XM lo mid hi w' g g1 g2 n m xs ys :=
  ⟨blk_below h.box k, h.rx.below k, h.ry.below k, h.h1, h.h2, Nat.le_trans h.le k.size, h.lt⟩
theorem XM.c0 {lo mid hi w g g1 g2 n m xs ys} (h : XM lo mid hi w g g1 g2 n m xs ys) : w.cell? ⟨g, 0, none⟩ = some (.slice (some ⟨g1, 0, none⟩) n n) := blk_cell h.box rfl
theorem XM.c1 {lo mid hi w g g1 g2 n m xs ys} (h : XM lo mid hi w g g1 g2 n m xs ys) : w.cell? ⟨g, 1, none⟩ = some (.slice (some ⟨g2, 0, none⟩) m m) := blk_cell h.box rfl
theorem XM.start {lo mid hi : Nat} {w : World} {g1 g2 n m : Nat} {xs : List Int} {ys : List (List Int)} (o1 : OwnI lo mid w g1 (some ⟨g1, 0, none⟩) n n xs) (o2 : OwnR mid hi w g2 (some ⟨g2, 0, none⟩) m m ys) (h1 : lo ≤ mid) (h2 : mid ≤ hi) (h3 : hi ≤ w.heap.size) :
    XM lo mid hi (w.alloc (.cells #[.slice (some ⟨g1, 0, none⟩) n n, .slice (some ⟨g2, 0, none⟩) m m] 28)) w.heap.size g1 g2 n m xs ys :=
  ⟨blk_new _ _ _, o1.below (below_alloc _ _), o2.below (below_alloc _ _), h1, h2, by simp; omega, h3⟩
theorem XM.mx {lo mid hi w g g1 g2 n m xs ys} (h : XM lo mid hi w g g1 g2 n m xs ys) : MX w g 28 (some ⟨g1, 0, none⟩) (some ⟨g2, 0, none⟩) n n m m xs ys := ⟨h.box, h.rx.ints, h.ry.rows⟩

end Go.Proofs.Ytffbofkjefjlpaa

/- Chapter 1 as plain functions on lists. -/
namespace Go.Proofs.Ytffbofkjefjlpaa

noncomputable def pb (p : Prop) : Bool := @decide p (Classical.propDecidable p)
theorem pb_true {p : Prop} (h : p) : pb p = true := by unfold pb; exact @decide_eq_true p (Classical.propDecidable p) h
theorem pb_false {p : Prop} (h : ¬ p) : pb p = false := by unfold pb; exact @decide_eq_false p (Classical.propDecidable p) h
theorem pb_iff {p : Prop} : pb p = true ↔ p := ⟨fun h => by unfold pb at h; exact @of_decide_eq_true p (Classical.propDecidable p) h, pb_true⟩
theorem pb_congr {p q : Prop} (h : p ↔ q) : pb p = pb q := by rw [propext h]

def InR (n lo hi : Int) : Prop := lo ≤ n ∧ n ≤ hi
def RowOk (a : List (List Int)) (i : Nat) : Prop := (gr a i).length = (gr a 0).length ∧ ∀ j, j < (gr a i).length → InR (gi (gr a i) j) (-9) 9
/-- A table: one to three rows of as many numbers, one to three, from -9 to 9. -/
structure VT (a : List (List Int)) : Prop where
  rows : ∀ i, i < a.length → RowOk a i
  n1 : 1 ≤ a.length
  n3 : a.length ≤ 3
  m1 : 1 ≤ (gr a 0).length
  m3 : (gr a 0).length ≤ 3

def RowV (r : List Int) : Prop := 1 ≤ r.length ∧ r.length ≤ 3 ∧ ∀ j, j < r.length → InR (gi r j) (-9) 9
theorem RowV_no {r : List Int} {j : Nat} (hj : j < r.length) (h : ¬ InR (gi r j) (-9) 9) : pb (RowV r) = false := pb_false fun v => h (v.2.2 j hj)
theorem VT_rowV {a : List (List Int)} (v : VT a) {i : Nat} (hi : i < a.length) : RowV (gr a i) := by
  have h := v.rows i hi
  have h1 := v.m1
  have h3 := v.m3
  exact ⟨by rw [h.1]; exact h1, by rw [h.1]; exact h3, h.2⟩
theorem VT_of {a : List (List Int)} (h1 : 1 ≤ a.length) (h3 : a.length ≤ 3) (h : ∀ i, i < a.length → (gr a i).length = (gr a 0).length ∧ RowV (gr a i)) : VT a :=
  ⟨fun i hi => ⟨(h i hi).1, (h i hi).2.2.2⟩, h1, h3, (h 0 (by omega)).2.1, (h 0 (by omega)).2.2.1⟩

structure VG (a b : List (List Int)) : Prop where
  ta : VT a
  tb : VT b
  n : a.length = b.length
  m : (gr a 0).length = (gr b 0).length

def g2 (a : List (List Int)) (i j : Nat) : Int := gi (gr a i) j
theorem VT.bd {a : List (List Int)} (v : VT a) {i j : Nat} (hi : i < a.length) (hj : j < (gr a 0).length) : -9 ≤ g2 a i j ∧ g2 a i j ≤ 9 := by
  have h := v.rows i hi
  exact h.2 j (by rw [h.1]; exact hj)

/-- The changes round four places. -/
def rnd (a b : List (List Int)) (i k j l : Nat) : Int := g2 a k j - g2 a i j + (g2 b k l - g2 b k j) + (g2 a i l - g2 a k l) + (g2 b i j - g2 b i l)
structure NR (a b : List (List Int)) : Prop where
  vg : VG a b
  no : ∀ i k j l, i < a.length → k < a.length → j < (gr a 0).length → l < (gr a 0).length → rnd a b i k j l = 0
theorem NR_half {a b : List (List Int)} (v : VG a b) (h : ∀ i k j l, i < a.length → k < i → j < (gr a 0).length → l < j → rnd a b i k j l = 0) : NR a b := by
  refine ⟨v, fun i k j l hi hk hj hl => ?_⟩
  have s1 : rnd a b i k j l = - rnd a b k i j l := by unfold rnd; omega
  have s2 : rnd a b i k j l = - rnd a b i k l j := by unfold rnd; omega
  have s3 : rnd a b i k j l = rnd a b k i l j := by unfold rnd; omega
  rcases Nat.lt_trichotomy k i with h1 | h1 | h1 <;> rcases Nat.lt_trichotomy l j with h2 | h2 | h2
  · exact h i k j l hi h1 hj h2
  · subst h2; unfold rnd; omega
  · rw [s2, h i k l j hi h1 hl h2]; rfl
  · subst h1; unfold rnd; omega
  · subst h1; unfold rnd; omega
  · subst h1; unfold rnd; omega
  · rw [s1, h k i j l hk h1 hj h2]; rfl
  · subst h2; unfold rnd; omega
  · rw [s3, h k i l j hk h1 hl h2]

/-- The least of the first k + 1 numbers; of a row. -/
def mn (xs : List Int) : Nat → Int
  | 0 => gi xs 0
  | k + 1 => min (mn xs k) (gi xs (k + 1))
def lst (xs : List Int) : Int := mn xs (xs.length - 1)
theorem mn_bd {xs : List Int} {lo hi : Int} : ∀ {k : Nat}, (∀ j, j ≤ k → lo ≤ gi xs j ∧ gi xs j ≤ hi) → lo ≤ mn xs k ∧ mn xs k ≤ hi
  | 0, h => h 0 (Nat.le_refl _)
  | k + 1, h => by
    have h1 := mn_bd (k := k) fun j hj => h j (by omega)
    have h2 := h (k + 1) (Nat.le_refl _)
    simp only [mn]
    omega
/-- The first row with the greatest least number, of the first k rows. -/
def bst (a : List (List Int)) : Nat → Nat
  | 0 => 0
  | k + 1 => if lst (gr a (bst a k)) < lst (gr a k) then k else bst a k
theorem bst_one (a : List (List Int)) : bst a 1 = 0 := by simp [bst]
theorem bst_lt (a : List (List Int)) : ∀ {k : Nat}, 0 < k → bst a k < k
  | 0, h => absurd h (by omega)
  | k + 1, _ => by
    rw [bst]
    split
    · omega
    · rcases Nat.eq_zero_or_pos k with h | h
      · subst h; simp [bst]
      · have := bst_lt a h; omega
theorem bst_up {a : List (List Int)} {k : Nat} (h : lst (gr a (bst a k)) < lst (gr a k)) : bst a (k + 1) = k := by rw [bst, if_pos h]
theorem bst_same {a : List (List Int)} {k : Nat} (h : ¬ lst (gr a (bst a k)) < lst (gr a k)) : bst a (k + 1) = bst a k := by rw [bst, if_neg h]

/-- Neither player has more by another act. -/
def RestAt (a b : List (List Int)) (n m i j : Nat) : Prop := (∀ k, k < n → g2 a k j ≤ g2 a i j) ∧ ∀ k, k < m → g2 b i k ≤ g2 b i j
noncomputable def rowRests (a b : List (List Int)) (n m i : Nat) : Nat → List (List Int)
  | 0 => []
  | j + 1 => rowRests a b n m i j ++ (if pb (RestAt a b n m i j) = true then [[(i : Int), (j : Int)]] else [])
noncomputable def allRests (a b : List (List Int)) (n m : Nat) : Nat → List (List Int)
  | 0 => []
  | i + 1 => allRests a b n m i ++ rowRests a b n m i m
noncomputable def pureR (a b : List (List Int)) : List (List Int) := if pb (VG a b) = true then allRests a b a.length (gr a 0).length a.length else []
theorem rowRests_yes {a b : List (List Int)} {n m i j : Nat} (h : RestAt a b n m i j) : rowRests a b n m i (j + 1) = rowRests a b n m i j ++ [[(i : Int), (j : Int)]] := by rw [rowRests, if_pos (pb_true h)]
theorem rowRests_no {a b : List (List Int)} {n m i j : Nat} (h : ¬ RestAt a b n m i j) : rowRests a b n m i (j + 1) = rowRests a b n m i j := by rw [rowRests, if_neg (by rw [pb_false h]; decide), List.append_nil]
theorem rowRests_len (a b : List (List Int)) (n m i : Nat) : ∀ j, (rowRests a b n m i j).length ≤ j
  | 0 => by simp [rowRests]
  | j + 1 => by
    have := rowRests_len a b n m i j
    rw [rowRests, List.length_append]
    split <;> simp <;> omega
theorem allRests_len (a b : List (List Int)) (n m : Nat) (hm : m ≤ 3) : ∀ i, (allRests a b n m i).length ≤ 3 * i
  | 0 => by simp [allRests]
  | i + 1 => by
    have h1 := allRests_len a b n m hm i
    have h2 := rowRests_len a b n m i m
    rw [allRests, List.length_append]
    omega

end Go.Proofs.Ytffbofkjefjlpaa

/- Valid tables, by both programs. -/
namespace Go.Proofs.Ytffbofkjefjlpaa
open Go.RowKit

set_option maxHeartbeats 400000 in
theorem inRange_any (n lo hi : Int) (w : World) : Calls Try.prog 71 #[.int .i64 n, .int .i64 lo, .int .i64 hi] w fun e w' => e = .returned (.bool (pb (InR n lo hi))) ∧ w = w' := by
  by_cases h1 : lo ≤ n
  · by_cases h2 : n ≤ hi
    · have h := Lib.hid (pb_true (p := InR n lo hi) ⟨h1, h2⟩)
      go_enter Try.func71, Try.ntmps71
      go_wp2
      go_ret
      exact ⟨ret_bool (by rw [h.out]), rfl⟩
    · have h := Lib.hid (pb_false (p := InR n lo hi) (fun h => h2 h.2))
      have h2' : decide (n ≤ hi) = false := by simpa using h2
      go_enter Try.func71, Try.ntmps71
      go_wp2
      go_ret
      exact ⟨ret_bool (by rw [h.out]), rfl⟩
  · have h := Lib.hid (pb_false (p := InR n lo hi) (fun h => h1 h.1))
    have h1' : decide (lo ≤ n) = false := by simpa using h1
    go_enter Try.func71, Try.ntmps71
    go_wp2
    go_ret
    exact ⟨ret_bool (by rw [h.out]), rfl⟩

theorem VT_no_row {a : List (List Int)} {i : Nat} (hi : i < a.length) (h : ¬ RowOk a i) : pb (VT a) = false := pb_false fun v => h (v.rows i hi)

set_option maxHeartbeats 1000000 in
theorem validTable_any (A : Option Addr) (n c : Nat) (a : List (List Int)) (w : World) (hx : IntRows w A n c a) :
    Calls Try.prog 90 #[.slice A n c] w fun e w' => e = .returned (.bool (pb (VT a))) ∧ Quiet w w' := by
  obtain ⟨lx, cx, mx, hx⟩ := hx
  have Lx := Lib.hid lx
  clear lx
  go_enter Try.func90, Try.ntmps90
  go_wp2
  go_loopw [3] (fun i wr => ∃ k : Nat, k ≤ n ∧ i = .int .i64 k ∧ Hid (∀ i, i < k → RowOk a i) ∧ Quiet w wr) (fun i _ => n - (intOf i).toNat)
  case atStart => exact ⟨0, Nat.zero_le _, rfl, Lib.hid (fun _ h => absurd h (by omega)), Quiet.refl _⟩
  case round =>
    obtain ⟨k, hk, rfl, HALL, q, rfl⟩ := hrel
    by_cases hlt : k < n
    · obtain ⟨b, o, rfl, hc⟩ := hx (by omega)
      obtain ⟨R, cc, c1, hR⟩ := hc k hlt
      obtain ⟨R0, cc0, c0, hR0⟩ := hc 0 (by omega)
      have hL1 : (gr a k).length ≤ 17592186044416 := hR.max
      have hL0 : (gr a 0).length ≤ 17592186044416 := hR0.max
      have hn0 : 0 < n := by omega
      have HKA := Lib.hid (show k < a.length by rw [Lx.out]; exact hlt)
      clear hx hc
      simp only [Nat.add_zero] at c0
      by_cases hlen : (gr a k).length = (gr a 0).length
      · have hlen' : (((gr a k).length : Int) != ((gr a 0).length : Int)) = false := by simp [hlen]
        have HLEN := Lib.hid hlen
        clear hlen
        go_wp2
        go_quiet (fail)
        go_wp2
        go_loopw [4] (fun j wi => ∃ m : Nat, m ≤ (gr a k).length ∧ j = .int .i64 m ∧ Hid (∀ j, j < m → InR (gi (gr a k) j) (-9) 9) ∧ Quiet w wi) (fun j _ => (gr a k).length - (intOf j).toNat)
        case atStart => exact ⟨0, Nat.zero_le _, rfl, Lib.hid (fun _ h => absurd h (by omega)), Quiet.two _ _ _⟩
        case round =>
          obtain ⟨m, hm, rfl, HIN, q2, rfl⟩ := hrel
          by_cases hml : m < (gr a k).length
          · obtain ⟨b2, o2, rfl, hc2⟩ := hR.at_ (by omega)
            have c2 := hc2 m hml
            clear hc2
            by_cases hin : InR (gi (gr a k) m) (-9) 9
            · have HI := Lib.hid hin
              have hq := fun W => (pb_true hin ▸ inRange_any (gi (gr a k) m) (-9) 9 W)
              clear hin
              go_wp2_with (go_at_call 71; refine (hq _).mono ?_; rintro e w' ⟨rfl, rfl⟩)
              go_roundw
              case rel => exact ⟨m + 1, by omega, by go_num, Lib.hid (fun j hj => by
                by_cases hjk : j < m
                · exact HIN.out j hjk
                · obtain rfl : j = m := by omega
                  exact HI.out), ⟨_, rfl⟩⟩
              case measure => simp [intOf]; omega
            · have HV := Lib.hid (VT_no_row HKA.out (fun h => hin (h.2 m hml)))
              have hq := fun W => (pb_false hin ▸ inRange_any (gi (gr a k) m) (-9) 9 W)
              clear hin
              go_wp2_with (go_at_call 71; refine (hq _).mono ?_; rintro e w' ⟨rfl, rfl⟩)
              go_ret
              exact ⟨ret_bool HV.out.symm, ⟨_, rfl⟩⟩
          · have HK := Lib.hid (show RowOk a k from ⟨HLEN.out, fun j hj => HIN.out j (by omega)⟩)
            go_wp2
            go_roundw
            case rel => exact ⟨k + 1, by omega, by go_num, Lib.hid (fun j hj => by
                by_cases hjk : j < k
                · exact HALL.out j hjk
                · obtain rfl : j = k := by omega
                  exact HK.out), ⟨_, rfl⟩⟩
            case measure => simp [intOf]; omega
      · have HV := Lib.hid (VT_no_row HKA.out (fun h => hlen h.1))
        have hlen' : (((gr a k).length : Int) != ((gr a 0).length : Int)) = true := by simp; omega
        clear hlen
        go_wp2
        go_quiet (fail)
        go_wp2
        go_ret
        exact ⟨ret_bool HV.out.symm, Quiet.two _ _ _⟩
    · obtain rfl : k = n := by omega
      by_cases hk1 : InR k 1 3
      · obtain ⟨b, o, rfl, hc⟩ := hx (by unfold InR at hk1; omega)
        obtain ⟨R0, cc0, c0, hR0⟩ := hc 0 (by unfold InR at hk1; omega)
        have hL0 : (gr a 0).length ≤ 17592186044416 := hR0.max
        have hn0 : 0 < k := by unfold InR at hk1; omega
        simp only [Nat.add_zero] at c0
        have hq := fun W => (pb_true hk1 ▸ inRange_any k 1 3 W)
        have HV : Hid (pb (VT a) = pb (InR (gr a 0).length 1 3)) := Lib.hid (pb_congr ⟨fun v => ⟨by have := v.m1; omega, by have := v.m3; omega⟩, fun v => by
          unfold InR at hk1 v
          exact ⟨fun i hi => HALL.out i (by rw [Lx.out] at hi; exact hi), by rw [Lx.out]; omega, by rw [Lx.out]; omega, by omega, by omega⟩⟩)
        clear hk1 hx hc
        go_wp2_with fail
        refine (hq _).mono ?_
        rintro e w' ⟨rfl, rfl⟩
        go_wp2_with fail
        refine (inRange_any _ _ _ _).mono ?_
        rintro e w' ⟨rfl, rfl⟩
        go_wp2
        go_ret
        exact ⟨ret_bool HV.out.symm, ⟨_, rfl⟩⟩
      · have hq := fun W => (pb_false hk1 ▸ inRange_any k 1 3 W)
        have HV := Lib.hid (pb_false (p := VT a) fun v => hk1 (by have h1 := v.n1; have h3 := v.n3; rw [Lx.out] at h1 h3; exact ⟨by omega, by omega⟩))
        clear hk1
        go_wp2_with (go_at_call 71; refine (hq _).mono ?_; rintro e w' ⟨rfl, rfl⟩)
        go_ret
        exact ⟨ret_bool HV.out.symm, ⟨_, rfl⟩⟩

end Go.Proofs.Ytffbofkjefjlpaa

/- Valid machines, by both programs. -/

namespace Go.Proofs.Ytffbofkjefjlpaa
open Go.RowKit

/-- A valid machine. -/
structure VM (xs : List Int) (ys : List (List Int)) : Prop where
  n1 : 1 ≤ xs.length
  n4 : xs.length ≤ 4
  ln : ys.length = xs.length
  act : ∀ q, q < xs.length → InR (gi xs q) 0 1
  two : ∀ q, q < xs.length → (gr ys q).length = 2
  nx : ∀ q, q < xs.length → ∀ x, x < 2 → InR (gi (gr ys q) x) 0 ((xs.length : Int) - 1)
/-- What is asked of one state. -/
structure VQ1 (xs : List Int) (ys : List (List Int)) (q : Nat) : Prop where
  act : InR (gi xs q) 0 1
  two : (gr ys q).length = 2
  n0 : InR (gi (gr ys q) 0) 0 ((xs.length : Int) - 1)
  n1 : InR (gi (gr ys q) 1) 0 ((xs.length : Int) - 1)
theorem VM.of {xs ys} (h1 : 1 ≤ xs.length) (h4 : xs.length ≤ 4) (hl : ys.length = xs.length) (h : ∀ q, q < xs.length → VQ1 xs ys q) : VM xs ys :=
  ⟨h1, h4, hl, fun q hq => (h q hq).act, fun q hq => (h q hq).two, fun q hq x hx => match x, hx with | 0, _ => (h q hq).n0 | 1, _ => (h q hq).n1⟩
theorem VM.q1 {xs ys} (h : VM xs ys) {q : Nat} (hq : q < xs.length) : VQ1 xs ys q := ⟨h.act q hq, h.two q hq, h.nx q hq 0 (by omega), h.nx q hq 1 (by omega)⟩
theorem VQ1.nx {xs ys q} (h : VQ1 xs ys q) : ∀ {k : Nat}, k < 2 → InR (gi (gr ys q) k) 0 ((xs.length : Int) - 1)
  | 0, _ => h.n0
  | 1, _ => h.n1
theorem VM_no {xs ys} {q : Nat} (hq : q < xs.length) (h : ¬ VQ1 xs ys q) : pb (VM xs ys) = false := pb_false fun k => h (k.q1 hq)

set_option maxRecDepth 100000 in
set_option maxHeartbeats 1600000 in
theorem validMoore_any (A B : Option Addr) (n c m d : Nat) (xs : List Int) (ys : List (List Int)) (w : World) (hx : Ints w A n c xs) (hy : IntRows w B m d ys) :
    Calls Try.prog 43 #[.agg #[.slice A n c, .slice B m d]] w (Ret (.bool (pb (VM xs ys))) w) := by
  have HX := Lib.hid hx
  have HY := Lib.hid hy
  have HL := Lib.hid hx.len
  have HLY := Lib.hid hy.len
  have hmx := hx.max
  have hmy := hy.max
  have hb0 := below_alloc w (.cells #[.slice A n c, .slice B m d] 28)
  have b0 := blk_new w 28 #[.slice A n c, .slice B m d]
  have c0 := blk_cell b0 (i := 0) (v := .slice A n c) rfl
  have c1 := blk_cell b0 (i := 1) (v := .slice B m d) rfl
  have HB := Lib.hid hb0
  have HK := Lib.hid (Keep.below hb0)
  clear hx hy hb0 b0
  go_enter Try.func43, Try.ntmps43
  go_wp2
  generalize hW1 : w.alloc (.cells #[.slice A n c, .slice B m d] 28) = W1 at *
  clear hW1
  go_loopw [4] (fun i wr => ∃ q : Nat, q ≤ n ∧ i = .int .i64 q ∧ Hid (∀ j, j < q → VQ1 xs ys j) ∧ Hid (0 < q → ys.length = xs.length) ∧ Quiet W1 wr) (fun i _ => n - (intOf i).toNat)
  case atStart => exact ⟨0, Nat.zero_le _, rfl, Lib.hid (fun _ h => absurd h (by omega)), Lib.hid (fun h => absurd h (by omega)), Quiet.refl _⟩
  case round =>
    obtain ⟨q, hq, rfl, HI, HLE, qq, rfl⟩ := hrel
    by_cases hlt : q < n
    · have hql : q < xs.length := by rw [HL.out]; exact hlt
      have HQL := Lib.hid hql
      obtain ⟨bx, ox, rfl, hcx⟩ := HX.out.at_ (by omega)
      have c2 := HK.out _ _ (hcx q hlt)
      have HWF := Lib.hid (HX.out.wf _ (gi_mem (xs := xs) (k := q) hql))
      clear hcx hql
      by_cases ha : InR (gi xs q) 0 1
      · have HA := Lib.hid (fun W => pb_true ha ▸ inRange_any (gi xs q) 0 1 W)
        have HAQ := Lib.hid ha
        clear ha
        by_cases hm : m = n
        · subst hm
          have HN := Lib.hid (show ys.length = xs.length by rw [HL.out, HLY.out])
          obtain ⟨by_, oy, rfl, hcy⟩ := HY.out.at_ (by omega)
          obtain ⟨R, cc, c3, hR⟩ := hcy q hlt
          have c3 := HK.out _ _ c3
          clear hcy
          by_cases h2 : (gr ys q).length = 2
          · obtain ⟨br, orr, rfl, hcr⟩ := hR.at_ (by omega)
            have c4 := HK.out _ _ (hcr 0 (by omega))
            have c5 := HK.out _ _ (hcr 1 (by omega))
            simp only [Nat.add_zero] at c4
            have HC2 := Lib.hid hR.cap
            have HTW := Lib.hid h2
            have hm1 : IntKind.i64.wrap ((m : Int) - 1) = (m : Int) - 1 := Go.IntWalk.i64_in _ (by omega)
            rw [h2] at c3
            clear hR hcr h2
            by_cases h3 : InR (gi (gr ys q) 0) 0 ((m : Int) - 1)
            · have H3 := Lib.hid (fun W => pb_true h3 ▸ inRange_any (gi (gr ys q) 0) 0 ((m : Int) - 1) W)
              have H3Q := Lib.hid h3
              clear h3
              by_cases h4 : InR (gi (gr ys q) 1) 0 ((m : Int) - 1)
              · have H4 := Lib.hid (fun W => pb_true h4 ▸ inRange_any (gi (gr ys q) 1) 0 ((m : Int) - 1) W)
                have HS := Lib.hid (show ∀ j, j < q + 1 → VQ1 xs ys j from fun j hj => by
                  by_cases hjq : j < q
                  · exact HI.out j hjq
                  · obtain rfl : j = q := by omega
                    exact ⟨HAQ.out, HTW.out, by rw [HL.out]; exact H3Q.out, by rw [HL.out]; exact h4⟩)
                clear h4
                generalize gi (gr ys q) 0 = p0 at *
                generalize gi (gr ys q) 1 = p1 at *
                generalize gi xs q = av at *
                go_wp2_with (first | (go_at_call 71; (with_reducible refine (HA.out _).mono ?_); rintro e w' ⟨rfl, rfl⟩) | (go_at_call 71; (with_reducible refine (H3.out _).mono ?_); rintro e w' ⟨rfl, rfl⟩) | (go_at_call 71; (with_reducible refine (H4.out _).mono ?_); rintro e w' ⟨rfl, rfl⟩) | fail)
                go_roundw
                case rel => exact ⟨q + 1, by omega, by go_num, HS, Lib.hid (fun _ => HN.out), ⟨_, rfl⟩⟩
                case measure => simp [intOf]; omega
              · have H4 := Lib.hid (fun W => pb_false h4 ▸ inRange_any (gi (gr ys q) 1) 0 ((m : Int) - 1) W)
                have HE := Lib.hid (VM_no (xs := xs) (ys := ys) HQL.out (fun k => h4 (by have := k.n1; rw [HL.out] at this; exact this)))
                clear h4
                generalize gi (gr ys q) 0 = p0 at *
                generalize gi (gr ys q) 1 = p1 at *
                generalize gi xs q = av at *
                go_wp2_with (first | (go_at_call 71; (with_reducible refine (HA.out _).mono ?_); rintro e w' ⟨rfl, rfl⟩) | (go_at_call 71; (with_reducible refine (H3.out _).mono ?_); rintro e w' ⟨rfl, rfl⟩) | (go_at_call 71; (with_reducible refine (H4.out _).mono ?_); rintro e w' ⟨rfl, rfl⟩) | fail)
                go_ret
                exact ⟨ret_bool HE.out.symm, by first | exact below_drewN HB.out _ | exact below_drewN (below_drewN HB.out _) _⟩
            · have H3 := Lib.hid (fun W => pb_false h3 ▸ inRange_any (gi (gr ys q) 0) 0 ((m : Int) - 1) W)
              have HE := Lib.hid (VM_no (xs := xs) (ys := ys) HQL.out (fun k => h3 (by have := k.n0; rw [HL.out] at this; exact this)))
              clear h3
              generalize gi (gr ys q) 0 = p0 at *
              generalize gi (gr ys q) 1 = p1 at *
              generalize gi xs q = av at *
              go_wp2_with (first | (go_at_call 71; (with_reducible refine (HA.out _).mono ?_); rintro e w' ⟨rfl, rfl⟩) | (go_at_call 71; (with_reducible refine (H3.out _).mono ?_); rintro e w' ⟨rfl, rfl⟩) | fail)
              go_ret
              exact ⟨ret_bool HE.out.symm, by first | exact below_drewN HB.out _ | exact below_drewN (below_drewN HB.out _) _⟩
          · have HE := Lib.hid (VM_no (xs := xs) (ys := ys) HQL.out (fun k => h2 k.two))
            have hml := hR.max
            have hne : (((gr ys q).length : Int) != 2) = true := by simp; omega
            clear hR h2
            generalize (gr ys q).length = lr at *
            generalize gi xs q = av at *
            go_wp2_with (first | (go_at_call 71; (with_reducible refine (HA.out _).mono ?_); rintro e w' ⟨rfl, rfl⟩) | fail)
            go_ret
            exact ⟨ret_bool HE.out.symm, by first | exact below_drewN HB.out _ | exact below_drewN (below_drewN HB.out _) _⟩
        · have HE := Lib.hid (pb_false (p := VM xs ys) (fun k => hm (by have := k.ln; rw [HL.out, HLY.out] at this; exact this)))
          have hne : ((m : Int) != (n : Int)) = true := by simp; omega
          clear hm
          generalize gi xs q = av at *
          go_wp2_with (first | (go_at_call 71; (with_reducible refine (HA.out _).mono ?_); rintro e w' ⟨rfl, rfl⟩) | fail)
          go_ret
          exact ⟨ret_bool HE.out.symm, by first | exact below_drewN HB.out _ | exact below_drewN (below_drewN HB.out _) _⟩
      · have HA := Lib.hid (fun W => pb_false ha ▸ inRange_any (gi xs q) 0 1 W)
        have HE := Lib.hid (VM_no (xs := xs) (ys := ys) HQL.out (fun k => ha k.act))
        clear ha
        generalize gi xs q = av at *
        go_wp2_with (first | (go_at_call 71; (with_reducible refine (HA.out _).mono ?_); rintro e w' ⟨rfl, rfl⟩) | fail)
        go_ret
        exact ⟨ret_bool HE.out.symm, by first | exact below_drewN HB.out _ | exact below_drewN (below_drewN HB.out _) _⟩
    · obtain rfl : q = n := by omega
      by_cases h4 : InR (q : Int) 1 4
      · have HA := Lib.hid (fun W => pb_true h4 ▸ inRange_any (q : Int) 1 4 W)
        by_cases hm : m = q
        · have HE := Lib.hid (pb_true (VM.of (xs := xs) (ys := ys) (by rw [HL.out]; have := h4.1; omega) (by rw [HL.out]; have := h4.2; omega) (by rw [HL.out, HLY.out]; exact hm) (fun j hj => HI.out j (by rw [HL.out] at hj; exact hj))))
          have hne : ((m : Int) == (q : Int)) = true := by simp; omega
          clear h4 hm
          go_wp2_with (first | (go_at_call 71; (with_reducible refine (HA.out _).mono ?_); rintro e w' ⟨rfl, rfl⟩) | fail)
          go_ret
          exact ⟨ret_bool HE.out.symm, by first | exact below_drewN HB.out _ | exact below_drewN (below_drewN HB.out _) _⟩
        · have HE := Lib.hid (pb_false (p := VM xs ys) (fun k => hm (by have := k.ln; rw [HL.out, HLY.out] at this; exact this)))
          have hne : ((m : Int) == (q : Int)) = false := by simp; omega
          clear h4 hm
          go_wp2_with (first | (go_at_call 71; (with_reducible refine (HA.out _).mono ?_); rintro e w' ⟨rfl, rfl⟩) | fail)
          go_ret
          exact ⟨ret_bool HE.out.symm, by first | exact below_drewN HB.out _ | exact below_drewN (below_drewN HB.out _) _⟩
      · have HA := Lib.hid (fun W => pb_false h4 ▸ inRange_any (q : Int) 1 4 W)
        have HE := Lib.hid (pb_false (p := VM xs ys) (fun k => h4 (by have h1 := k.n1; have h2 := k.n4; rw [HL.out] at h1 h2; unfold InR; omega)))
        clear h4
        go_wp2_with (first | (go_at_call 71; (with_reducible refine (HA.out _).mono ?_); rintro e w' ⟨rfl, rfl⟩) | fail)
        go_ret
        exact ⟨ret_bool HE.out.symm, by first | exact below_drewN HB.out _ | exact below_drewN (below_drewN HB.out _) _⟩
set_option maxHeartbeats 400000 in
theorem ValidMoore_spec (A B : Option Addr) (n c m d : Nat) (xs : List Int) (ys : List (List Int)) (w : World) (hx : Ints w A n c xs) (hy : IntRows w B m d ys) :
    Calls Try.prog 14 #[.agg #[.slice A n c, .slice B m d]] w (Ret (.bool (pb (VM xs ys))) w) := by
  have hb0 := below_alloc w (.cells #[.slice A n c, .slice B m d] 28)
  have b0 := blk_new w 28 #[.slice A n c, .slice B m d]
  have c0 := blk_cell b0 (i := 0) (v := .slice A n c) rfl
  have c1 := blk_cell b0 (i := 1) (v := .slice B m d) rfl
  have HB := Lib.hid hb0
  have HC := Lib.hid (validMoore_any A B n c m d xs ys _ (hx.keep (Keep.below hb0)) (hy.keep (Keep.below hb0)))
  clear hx hy hb0 b0
  go_enter Try.func14, Try.ntmps14
  go_wp2_with fail
  generalize w.alloc (.cells #[.slice A n c, .slice B m d] 28) = W1 at *
  refine HC.out.mono ?_
  rintro e w2 ⟨rfl, hb⟩
  have HB2 := Lib.hid (below_up HB.out hb)
  clear hb HC
  go_wp2
  go_ret
  exact ⟨rfl, HB2.out⟩
def Blw (n x : Int) : Prop := 0 ≤ x ∧ x < n
theorem isBelow_any (n x : Int) (w : World) : Calls Try.prog 45 #[.int .i64 n, .int .i64 x] w fun e w' => e = .returned (.bool (pb (Blw n x))) ∧ w = w' := by
  by_cases h1 : 0 ≤ x
  · by_cases h2 : x < n
    · have h := Lib.hid (pb_true (p := Blw n x) ⟨h1, h2⟩)
      have h2' : decide (x < n) = true := by simpa using h2
      go_enter Try.func45, Try.ntmps45
      go_wp2
      go_ret
      exact ⟨ret_bool (by rw [h.out]), rfl⟩
    · have h := Lib.hid (pb_false (p := Blw n x) (fun h => h2 h.2))
      have h2' : decide (x < n) = false := by simpa using h2
      go_enter Try.func45, Try.ntmps45
      go_wp2
      go_ret
      exact ⟨ret_bool (by rw [h.out]), rfl⟩
  · have h := Lib.hid (pb_false (p := Blw n x) (fun h => h1 h.1))
    go_enter Try.func45, Try.ntmps45
    go_wp2
    go_ret
    exact ⟨ret_bool (by rw [h.out]), rfl⟩
set_option maxRecDepth 100000 in
set_option maxHeartbeats 1600000 in
theorem ValidMoore_impl (A B : Option Addr) (n c m d : Nat) (xs : List Int) (ys : List (List Int)) (w : World) (hx : Ints w A n c xs) (hy : IntRows w B m d ys) :
    Calls Try.prog 16 #[.agg #[.slice A n c, .slice B m d]] w (Ret (.bool (pb (VM xs ys))) w) := by
  have HX := Lib.hid hx
  have HY := Lib.hid hy
  have HL := Lib.hid hx.len
  have HLY := Lib.hid hy.len
  have hmx := hx.max
  have hmy := hy.max
  have hb0 := below_alloc w (.cells #[.slice A n c, .slice B m d] 28)
  have b0 := blk_new w 28 #[.slice A n c, .slice B m d]
  have c0 := blk_cell b0 (i := 0) (v := .slice A n c) rfl
  have c1 := blk_cell b0 (i := 1) (v := .slice B m d) rfl
  have HB := Lib.hid hb0
  have HK := Lib.hid (Keep.below hb0)
  clear hx hy hb0 b0
  by_cases h4 : InR (n : Int) 1 4
  · have h41 := h4.1
    have h42 := h4.2
    have hn1 : decide ((n : Int) < 1) = false := by simp; omega
    have hn4 : decide ((4 : Int) < (n : Int)) = false := by simp; omega
    clear h4
    by_cases hm : m = n
    · subst hm
      have hne : ((m : Int) != (m : Int)) = false := by simp
      go_enter Try.func16, Try.ntmps16
      go_wp2
      clear hn1 hn4 hne
      generalize hW1 : w.alloc (.cells #[.slice A m c, .slice B m d] 28) = W1 at *
      clear hW1
      go_loopw [27] (fun i wr => ∃ q : Nat, q ≤ m ∧ i = .int .i64 q ∧ Hid (∀ j, j < q → VQ1 xs ys j) ∧ Quiet W1 wr) (fun i _ => m - (intOf i).toNat)
      case atStart => exact ⟨0, Nat.zero_le _, rfl, Lib.hid (fun _ h => absurd h (by omega)), Quiet.refl _⟩
      case round =>
        obtain ⟨q, hq, rfl, HI, qq, rfl⟩ := hrel
        by_cases hlt : q < m
        · have hql : q < xs.length := by rw [HL.out]; exact hlt
          have HQL := Lib.hid hql
          obtain ⟨bx, ox, rfl, hcx⟩ := HX.out.at_ (by omega)
          have c2 := HK.out _ _ (hcx q hlt)
          clear hcx hql
          by_cases ha : Blw 2 (gi xs q)
          · have HA := Lib.hid (fun W => pb_true ha ▸ isBelow_any 2 (gi xs q) W)
            have HAQ := Lib.hid (show InR (gi xs q) 0 1 from ⟨ha.1, by have := ha.2; omega⟩)
            clear ha
            obtain ⟨by_, oy, rfl, hcy⟩ := HY.out.at_ (by omega)
            obtain ⟨R, cc, c3, hR⟩ := hcy q hlt
            have c3 := HK.out _ _ c3
            clear hcy
            by_cases h2 : (gr ys q).length = 2
            · have HR := Lib.hid hR
              have HTW := Lib.hid h2
              rw [h2] at c3
              clear hR h2
              generalize hav : gi xs q = av at c2 HA
              clear hav
              go_wp2_with (first | (go_at_call 45; (with_reducible refine (HA.out _).mono ?_); rintro e w' ⟨rfl, rfl⟩) | fail)
              clear c2
              go_loopw [50] (fun i wi => ∃ k : Nat, k ≤ 2 ∧ i = .int .i64 k ∧ Hid (∀ j, j < k → InR (gi (gr ys q) j) 0 ((m : Int) - 1)) ∧ Quiet W1 wi) (fun i _ => 2 - (intOf i).toNat)
              case atStart => exact ⟨0, Nat.zero_le _, rfl, Lib.hid (fun _ h => absurd h (by omega)), by first | exact Quiet.refl _ | exact ⟨_, rfl⟩⟩
              case round =>
                obtain ⟨k, hk, rfl, HJ, qk, rfl⟩ := hrel
                by_cases hk2 : k < 2
                · obtain ⟨br, orr, rfl, hcr⟩ := HR.out.at_ (by rw [HTW.out]; omega)
                  have c4 := HK.out _ _ (hcr k (by rw [HTW.out]; exact hk2))
                  clear hcr
                  by_cases hp : Blw m (gi (gr ys q) k)
                  · have HP := Lib.hid (fun W => pb_true hp ▸ isBelow_any m (gi (gr ys q) k) W)
                    have HS := Lib.hid (show ∀ j, j < k + 1 → InR (gi (gr ys q) j) 0 ((m : Int) - 1) from fun j hj => by
                      by_cases hjq : j < k
                      · exact HJ.out j hjq
                      · obtain rfl : j = k := by omega
                        exact ⟨hp.1, by have := hp.2; omega⟩)
                    clear hp
                    generalize gi (gr ys q) k = pv at *
                    go_wp2_with (first | (go_at_call 45; (with_reducible refine (HP.out _).mono ?_); rintro e w' ⟨rfl, rfl⟩) | fail)
                    go_roundw
                    case rel => exact ⟨k + 1, by omega, by go_num, HS, ⟨_, rfl⟩⟩
                    case measure => simp [intOf]; omega
                  · have HP := Lib.hid (fun W => pb_false hp ▸ isBelow_any m (gi (gr ys q) k) W)
                    have HE := Lib.hid (VM_no (xs := xs) (ys := ys) HQL.out (fun h => hp (by
                      have : InR (gi (gr ys q) k) 0 ((xs.length : Int) - 1) := h.nx hk2
                      rw [HL.out] at this; unfold InR at this; unfold Blw; omega)))
                    clear hp
                    generalize gi (gr ys q) k = pv at *
                    go_wp2_with (first | (go_at_call 45; (with_reducible refine (HP.out _).mono ?_); rintro e w' ⟨rfl, rfl⟩) | fail)
                    go_ret
                    exact ⟨ret_bool HE.out.symm, by first | exact below_drewN HB.out _ | exact below_drewN (below_drewN HB.out _) _⟩
                · obtain rfl : k = 2 := by omega
                  have HS := Lib.hid (show ∀ j, j < q + 1 → VQ1 xs ys j from fun j hj => by
                    by_cases hjq : j < q
                    · exact HI.out j hjq
                    · obtain rfl : j = q := by omega
                      exact ⟨HAQ.out, HTW.out, by rw [HL.out]; exact HJ.out 0 (by omega), by rw [HL.out]; exact HJ.out 1 (by omega)⟩)
                  go_wp2
                  go_roundw
                  case rel => exact ⟨q + 1, by omega, by go_num, HS, ⟨_, rfl⟩⟩
                  case measure => simp [intOf]; omega
            · have HE := Lib.hid (VM_no (xs := xs) (ys := ys) HQL.out (fun k => h2 k.two))
              have hml := hR.max
              have hne : (((gr ys q).length : Int) != 2) = true := by simp; omega
              clear hR h2
              generalize (gr ys q).length = lr at *
              generalize gi xs q = av at *
              go_wp2_with (first | (go_at_call 45; (with_reducible refine (HA.out _).mono ?_); rintro e w' ⟨rfl, rfl⟩) | fail)
              go_ret
              exact ⟨ret_bool HE.out.symm, by first | exact below_drewN HB.out _ | exact below_drewN (below_drewN HB.out _) _⟩
          · have HA := Lib.hid (fun W => pb_false ha ▸ isBelow_any 2 (gi xs q) W)
            have HE := Lib.hid (VM_no (xs := xs) (ys := ys) HQL.out (fun k => ha (by have := k.act; unfold InR at this; unfold Blw; omega)))
            clear ha
            generalize gi xs q = av at *
            go_wp2_with (first | (go_at_call 45; (with_reducible refine (HA.out _).mono ?_); rintro e w' ⟨rfl, rfl⟩) | fail)
            go_ret
            exact ⟨ret_bool HE.out.symm, by first | exact below_drewN HB.out _ | exact below_drewN (below_drewN HB.out _) _⟩
        · obtain rfl : q = m := by omega
          have HE := Lib.hid (pb_true (VM.of (xs := xs) (ys := ys) (by rw [HL.out]; omega) (by rw [HL.out]; omega) (by rw [HL.out, HLY.out]) (fun j hj => HI.out j (by rw [HL.out] at hj; exact hj))))
          go_wp2
          go_ret
          exact ⟨ret_bool HE.out.symm, by first | exact below_drewN HB.out _ | exact below_drewN (below_drewN HB.out _) _⟩
    · have HE := Lib.hid (pb_false (p := VM xs ys) (fun k => hm (by have := k.ln; rw [HL.out, HLY.out] at this; exact this)))
      have hne : ((m : Int) != (n : Int)) = true := by simp; omega
      clear hm
      go_enter Try.func16, Try.ntmps16
      go_wp2
      go_ret
      exact ⟨ret_bool HE.out.symm, HB.out⟩
  · have HE := Lib.hid (pb_false (p := VM xs ys) (fun k => h4 (by have h1 := k.n1; have h2 := k.n4; rw [HL.out] at h1 h2; unfold InR; omega)))
    by_cases h1 : (n : Int) < 1
    · have hn1 : decide ((n : Int) < 1) = true := by simpa using h1
      clear h4
      go_enter Try.func16, Try.ntmps16
      go_wp2
      go_ret
      exact ⟨ret_bool HE.out.symm, HB.out⟩
    · have hn1 : decide ((n : Int) < 1) = false := by simpa using h1
      have hn4 : decide ((4 : Int) < (n : Int)) = true := by unfold InR at h4; simp; omega
      clear h4
      go_enter Try.func16, Try.ntmps16
      go_wp2
      go_ret
      exact ⟨ret_bool HE.out.symm, HB.out⟩

end Go.Proofs.Ytffbofkjefjlpaa

