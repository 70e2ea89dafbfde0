/- Texts merged: A4 A5 R3 R4 R5 R6 LitI R7 R8 R9 G1 Math1 Tab. -/
import Derived.Test.YtjkmgpiiamffgaaQ1
import Derived.Deep.RegionHeld3
/- What an exact law on a game knows at each step. -/
namespace Go.Proofs.Ytjkmgpiiamffgaa
open Go.RowKit

/-- The law's own argument: in its box, and its rows. -/
structure GS (w0 w : World) (A B : Option Addr) (n c m d : Nat) (xs ys : List (List Int)) : Prop where
  below : Below w0.heap.size w0 w
  box : Blk w w0.heap.size 59 #[.slice A n c, .slice B m d]
  rx0 : IntRows w0 A n c xs
  ry0 : IntRows w0 B m d ys
theorem GS.rx {w0 w A B n c m d xs ys} (h : GS w0 w A B n c m d xs ys) : IntRows w A n c xs := h.rx0.keep (Keep.below h.below)
theorem GS.ry {w0 w A B n c m d xs ys} (h : GS w0 w A B n c m d xs ys) : IntRows w B m d ys := h.ry0.keep (Keep.below h.below)
theorem GS.up {w0 w w' A B n c m d xs ys} (h : GS w0 w A B n c m d xs ys) (k : Below w.heap.size w w') : GS w0 w' A B n c m d xs ys :=
  ⟨below_up h.below k, blk_below h.box k, h.rx0, h.ry0⟩
theorem GS.touch {lo hi w0 w w' A B n c m d xs ys} (h : GS w0 w A B n c m d xs ys) (k : Touch lo hi w w') (hl : w0.heap.size < lo) : GS w0 w' A B n c m d xs ys :=
  ⟨Touch.below h.below k (Nat.le_of_lt hl), blk_touch h.box k (.inl hl), h.rx0, h.ry0⟩
theorem GS.c0 {w0 w A B n c m d xs ys} (h : GS w0 w A B n c m d xs ys) : w.cell? ⟨w0.heap.size, 0, none⟩ = some (.slice A n c) := blk_cell h.box rfl
theorem GS.c1 {w0 w A B n c m d xs ys} (h : GS w0 w A B n c m d xs ys) : w.cell? ⟨w0.heap.size, 1, none⟩ = some (.slice B m d) := blk_cell h.box rfl
theorem GS.start {w : World} {A B n c m d xs ys} (hx : IntRows w A n c xs) (hy : IntRows w B m d ys) : GS w (w.alloc (.cells #[.slice A n c, .slice B m d] 59)) A B n c m d xs ys :=
  ⟨below_alloc _ _, blk_new _ _ _, hx, hy⟩

/-- A copy of it in a box g, its rows its own: the first table's from lo up to less than mid, the second one's up to less than hi. -/
structure XS (lo mid hi : Nat) (w : World) (g g1 g2 n m : Nat) (xs ys : List (List Int)) : Prop where
  box : Blk w g 54 #[.slice (some ⟨g1, 0, none⟩) n n, .slice (some ⟨g2, 0, none⟩) m m]
  rx : OwnR lo mid w g1 (some ⟨g1, 0, none⟩) n n xs
  ry : OwnR mid hi w g2 (some ⟨g2, 0, none⟩) m m ys
  h1 : lo ≤ mid
  h2 : mid ≤ hi
  le : hi ≤ w.heap.size
  lt : hi ≤ g
theorem XS.up {lo mid hi w w' g g1 g2 n m xs ys} (h : XS lo mid hi w g g1 g2 n m xs ys) (k : Below w.heap.size w w') : XS lo mid hi w' g g1 g2 n m xs ys :=
  ⟨blk_below h.box k, h.rx.below k, h.ry.below k, h.h1, h.h2, Nat.le_trans h.le k.size, h.lt⟩
theorem XS.c0 {lo mid hi w g g1 g2 n m xs ys} (h : XS lo mid hi w g g1 g2 n m xs ys) : w.cell? ⟨g, 0, none⟩ = some (.slice (some ⟨g1, 0, none⟩) n n) := blk_cell h.box rfl
theorem XS.c1 {lo mid hi w g g1 g2 n m xs ys} (h : XS lo mid hi w g g1 g2 n m xs ys) : w.cell? ⟨g, 1, none⟩ = some (.slice (some ⟨g2, 0, none⟩) m m) := blk_cell h.box rfl
theorem XS.start {lo mid hi : Nat} {w : World} {g1 g2 n m : Nat} {xs ys : List (List Int)} (o1 : OwnR lo mid w g1 (some ⟨g1, 0, none⟩) n n xs) (o2 : OwnR mid hi w g2 (some ⟨g2, 0, none⟩) m m ys) (h1 : lo ≤ mid) (h2 : mid ≤ hi) (h3 : hi ≤ w.heap.size) :
    XS lo mid hi (w.alloc (.cells #[.slice (some ⟨g1, 0, none⟩) n n, .slice (some ⟨g2, 0, none⟩) m m] 54)) w.heap.size g1 g2 n m xs ys :=
  ⟨blk_new _ _ _, o1.below (below_alloc _ _), o2.below (below_alloc _ _), h1, h2, by simp; omega, h3⟩
theorem XS.rows {lo mid hi w g g1 g2 n m xs ys} (h : XS lo mid hi w g g1 g2 n m xs ys) : IntRows w (some ⟨g1, 0, none⟩) n n xs ∧ IntRows w (some ⟨g2, 0, none⟩) m m ys := ⟨h.rx.rows, h.ry.rows⟩
end Go.Proofs.Ytjkmgpiiamffgaa

/- The harness of the exact laws: every cell marked by a number of its own, and looked at again. -/
namespace Go.Proofs.Ytjkmgpiiamffgaa
open Go.RowKit

def seqI (k : Int) (n : Nat) : List Int := (List.range n).map fun (i : Nat) => k + (i : Int)
theorem seqI_len (k : Int) (n : Nat) : (seqI k n).length = n := by simp [seqI]
theorem gi_seqI {k : Int} {n i : Nat} (h : i < n) : gi (seqI k n) i = k + i := by rw [gi_get (by rw [seqI_len]; exact h)]; simp [seqI]
theorem gi_set_eq {xs : List Int} {i : Nat} {v : Int} (h : i < xs.length) : gi (xs.set i v) i = v := by rw [gi_get (by simpa using h)]; simp
theorem gi_set_ne {xs : List Int} {i j : Nat} {v : Int} (h : j < xs.length) (hne : j ≠ i) : gi (xs.set i v) j = gi xs j := by
  rw [gi_get (by simpa using h), gi_get h, List.getElem_set]; simp [Ne.symm hne]

/-- Only block b has turned. -/
structure One (b : Nat) (w w' : World) : Prop where
  os : w'.os = w.os
  tape : w'.tape = w.tape
  output : w'.output = w.output
  size : w'.heap.size = w.heap.size
  block : ∀ g, g ≠ b → w'.heap[g]? = w.heap[g]?
theorem One.refl (b : Nat) (w : World) : One b w w := ⟨rfl, rfl, rfl, rfl, fun _ _ => rfl⟩
theorem One.set {b : Nat} {a w : World} (h : One b a w) (i : Nat) (u : Value) : One b a (w.setCell ⟨b, i, none⟩ u) :=
  ⟨h.os, h.tape, h.output, by simpa [World.setCell] using h.size, fun g hg => (Below.heap_setCell _ _ _ _ hg).trans (h.block g hg)⟩
theorem One.touch {b lo hi : Nat} {w w' : World} (h : One b w w') (h1 : lo ≤ b) (h2 : b < hi) : Touch lo hi w w' := ⟨h.os, h.tape, h.output, h.size, fun k hk => h.block k (by omega)⟩

theorem OwnI.set {lo hi w b o n c xs} (h : OwnI lo hi w b (some ⟨b, o, none⟩) n c xs) {i : Nat} (hi' : i < n) {v : Int} (hv : -9223372036854775808 ≤ v ∧ v ≤ 9223372036854775807) :
    OwnI lo hi (w.setCell ⟨b, o + i, none⟩ (.int .i64 v)) b (some ⟨b, o, none⟩) n c (xs.set i v) := by
  have hl := h.ints.len
  obtain ⟨o', e, h1, h2, hf⟩ := h.own (by omega)
  injection e with e
  injection e with _ e _
  subst e
  obtain ⟨b', o', e, hc⟩ := h.ints.at_ (by omega)
  injection e with e
  injection e with e1 e2 _
  subst e1
  subst e2
  refine ⟨⟨by rw [List.length_set]; exact hl, h.ints.cap, h.ints.max, fun x hx => ?_, fun _ => ⟨b, o, rfl, fun k hk => ?_⟩⟩, fun _ => ⟨o, rfl, h1, h2, fun k hk => ?_⟩⟩
  · rcases List.mem_or_eq_of_mem_set hx with hx | rfl
    · exact h.ints.wf x hx
    · exact hv
  · by_cases e : k = i
    · subst e
      rw [gi_set_eq (by omega), World.cell?_setCell_same w _ _ (hc k hk)]
    · rw [gi_set_ne (by omega) e, World.cell?_setCell_other w _ _ _ (fun e' => by injection e' with _ e' _; omega)]
      exact hc k hk
  · rw [World.frozen?_setCell]; exact hf k hk

def MarkedI (lo hi : Nat) (w : World) (b : Nat) (A : Option Addr) (n c : Nat) (k : Int) (e : Ending) (w' : World) : Prop :=
  e = .returned (.int .i64 (k + n)) ∧ OwnI lo hi w' b A n c (seqI k n) ∧ (n = 0 → w = w') ∧ One b w w'

set_option maxHeartbeats 400000 in
theorem markIntS_any (lo hi b : Nat) (A : Option Addr) (n c : Nat) (xs : List Int) (k : Int) (w : World) (hx : OwnI lo hi w b A n c xs) (h0 : 0 ≤ k) (h1 : k + n ≤ 4611686018427387904) :
    Calls Try.prog 39 #[.slice A n c, .int .i64 k] w (MarkedI lo hi w b A n c k) := by
  have HX := Lib.hid hx
  have mx := hx.ints.max
  clear hx
  go_enter Try.func39, Try.ntmps39
  go_wp2
  go_loopw [1, 5] (fun z i wr => ∃ (j : Nat) (ys : List Int), j ≤ n ∧ i = .int .i64 j ∧ z = .int .i64 (k + j) ∧ Hid (∀ l, l < j → gi ys l = k + l) ∧ Hid (OwnI lo hi wr b A n c ys) ∧ Hid (One b w wr) ∧ Hid (n = 0 → w = wr)) (fun _ i _ => n - (intOf i).toNat)
  case atStart => exact ⟨0, xs, Nat.zero_le _, rfl, by simp, Lib.hid (fun _ h => absurd h (by omega)), HX, Lib.hid (One.refl _ _), Lib.hid (fun _ => rfl)⟩
  case round =>
    obtain ⟨j, ys, hj, rfl, rfl, HA, HO, H1, H0⟩ := hrel
    by_cases hlt : j < n
    · obtain ⟨o, rfl, _, _, hf⟩ := HO.out.own (by omega)
      obtain ⟨b', o', e, hc⟩ := HO.out.ints.at_ (by omega)
      injection e with e
      injection e with e1 e2 _
      subst e1
      subst e2
      have c1 := hc j hlt
      have f1 := hf j hlt
      have HO2 := Lib.hid (HO.out.set hlt (v := k + j) (by omega))
      have H12 := Lib.hid (H1.out.set (o + j) (.int .i64 (k + j)))
      have HL := Lib.hid HO.out.ints.len
      clear hc hf HO H1
      go_wp2
      go_roundw
      case rel => exact ⟨j + 1, _, by omega, by go_num, by congr 1; omega, Lib.hid (fun l hl => by
        by_cases e : l = j
        · subst e; exact gi_set_eq (by rw [HL.out]; exact hlt)
        · rw [gi_set_ne (by rw [HL.out]; omega) e]; exact HA.out l (by omega)), HO2, H12, Lib.hid (fun e => absurd e (by omega))⟩
      case measure => simp [intOf]; omega
    · obtain rfl : j = n := by omega
      have e : ys = seqI k j := gi_ext (by rw [HO.out.ints.len, seqI_len]) fun l hl => by
        rw [HO.out.ints.len] at hl
        rw [HA.out l hl, gi_seqI hl]
      have HO2 := Lib.hid (e ▸ HO.out)
      clear e HO
      go_wp2
      go_ret
      exact ⟨rfl, HO2.out, H0.out, H1.out⟩

set_option maxHeartbeats 400000 in
theorem heldIntS_any (A : Option Addr) (n c : Nat) (k : Int) (w : World) (hx : Ints w A n c (seqI k n)) (h0 : 0 ≤ k) (h1 : k + n ≤ 4611686018427387904) :
    Calls Try.prog 40 #[.slice A n c, .int .i64 k] w fun e w' => e = .returned (.int .i64 (k + n)) ∧ Quiet w w' := by
  have mx := hx.max
  have HX := Lib.hid hx
  clear hx
  go_enter Try.func40, Try.ntmps40
  go_wp2
  go_loopw [1, 5] (fun z i wr => ∃ (j : Nat), j ≤ n ∧ i = .int .i64 j ∧ z = .int .i64 (k + j) ∧ Quiet w wr) (fun _ i _ => n - (intOf i).toNat)
  case atStart => exact ⟨0, Nat.zero_le _, rfl, by simp, Quiet.refl _⟩
  case round =>
    obtain ⟨j, hj, rfl, rfl, q, rfl⟩ := hrel
    by_cases hlt : j < n
    · obtain ⟨b, o, rfl, hc⟩ := HX.out.at_ (by omega)
      have c1 := hc j hlt
      rw [gi_seqI hlt] at c1
      clear hc
      go_wp2
      go_roundw
      case rel => exact ⟨j + 1, by omega, by go_num, by congr 1; omega, ⟨_, rfl⟩⟩
      case measure => simp [intOf]; omega
    · obtain rfl : j = n := by omega
      go_wp2
      go_ret
      exact ⟨rfl, ⟨_, rfl⟩⟩

/-- How many numbers stand ahead of row j; the rows as they are marked. -/
def offs (xss : List (List Int)) : Nat → Int
  | 0 => 0
  | j + 1 => offs xss j + (gr xss j).length
theorem offs_ge (xss : List (List Int)) : ∀ j, 0 ≤ offs xss j
  | 0 => Int.le_refl _
  | j + 1 => by have := offs_ge xss j; simp only [offs]; omega
theorem offs_mono (xss : List (List Int)) {i j : Nat} (h : i ≤ j) : offs xss i ≤ offs xss j := by
  induction j with
  | zero => obtain rfl : i = 0 := by omega
            exact Int.le_refl _
  | succ j ih =>
    by_cases e : i = j + 1
    · subst e; exact Int.le_refl _
    · have := ih (by omega); simp only [offs]; omega
def mkR (k : Int) (xss : List (List Int)) : List (List Int) := (List.range xss.length).map fun j => seqI (k + offs xss j) (gr xss j).length
theorem mkR_len (k : Int) (xss : List (List Int)) : (mkR k xss).length = xss.length := by simp [mkR]
theorem gr_mkR {k : Int} {xss : List (List Int)} {j : Nat} (h : j < xss.length) : gr (mkR k xss) j = seqI (k + offs xss j) (gr xss j).length := by
  rw [gr_get (by rw [mkR_len]; exact h)]; simp [mkR]

theorem gr_set_eq {xs : List (List Int)} {i : Nat} {v : List Int} (h : i < xs.length) : gr (xs.set i v) i = v := by rw [gr_get (by simpa using h)]; simp
theorem gr_set_ne {xs : List (List Int)} {i j : Nat} {v : List Int} (hne : j ≠ i) : gr (xs.set i v) j = gr xs j := by
  unfold gr; rw [List.getD_eq_getElem?_getD, List.getD_eq_getElem?_getD, List.getElem?_set_ne (Ne.symm hne)]

/-- A row of its own, and what comes of the rows when it alone is written. -/
theorem OwnR.at_row {lo hi w b A n c xss} (h : OwnR lo hi w b A n c xss) {i : Nat} (hi' : i < n) :
    ∃ o g R cc, A = some ⟨b, o, none⟩ ∧ w.cell? ⟨b, o + i, none⟩ = some (.slice R (gr xss i).length cc) ∧ OwnI lo hi w g R (gr xss i).length cc (gr xss i) ∧
      ∀ w' r, r.length = (gr xss i).length → OwnI lo hi w' g R (gr xss i).length cc r → ((gr xss i).length = 0 → w = w') → One g w w' → OwnR lo hi w' b A n c (xss.set i r) ∧ Touch lo hi w w' := by
  obtain ⟨o, G, R, C, rfl, h1, h2, hr, hd⟩ := h.at_ (by omega)
  have hl := h.len
  refine ⟨o, G i, R i, C i, rfl, (hr i hi').2.1, (hr i hi').2.2.1, fun w' r hrl hown h0 hone => ?_⟩
  have hsame : ∀ g, (0 < (gr xss i).length → g ≠ G i) → w'.heap[g]? = w.heap[g]? := fun g hg => by
    by_cases e : 0 < (gr xss i).length
    · exact hone.block g (hg e)
    · rw [h0 (by omega)]
  refine ⟨⟨by rw [List.length_set]; exact hl, h.cap, h.max, fun _ => ⟨o, G, R, C, rfl, h1, h2, fun k hk => ?_, fun j k hjk hk hj0 hk0 => ?_⟩⟩, ?_⟩
  · have eb := hsame b (fun hp => (Ne.symm ((hr i hi').2.2.2 hp)))
    have el : (gr (xss.set i r) k).length = (gr xss k).length := by
      by_cases e : k = i
      · subst e; rw [gr_set_eq (by omega), hrl]
      · rw [gr_set_ne e]
    rw [el]
    refine ⟨by rw [World.frozen?_of_block (w := w) eb]; exact (hr k hk).1, by rw [World.cell?_of_block (w := w) eb]; exact (hr k hk).2.1, ?_, (hr k hk).2.2.2⟩
    by_cases e : k = i
    · subst e; rw [gr_set_eq (by omega)]; exact hown
    · rw [gr_set_ne e]
      exact (hr k hk).2.2.1.of_block fun hp => hsame _ fun hp' => by
        rcases Nat.lt_or_gt_of_ne e with h | h
        · exact hd k i h hi' hp hp'
        · exact Ne.symm (hd i k h hk hp' hp)
  · have el : ∀ k, (gr (xss.set i r) k).length = (gr xss k).length := fun k => by
      by_cases e : k = i
      · subst e; rw [gr_set_eq (by omega), hrl]
      · rw [gr_set_ne e]
    rw [el] at hj0 hk0
    exact hd j k hjk hk hj0 hk0
  · by_cases e : 0 < (gr xss i).length
    · obtain ⟨_, _, q1, q2, _⟩ := (hr i hi').2.2.1.own e
      exact hone.touch q1 q2
    · rw [h0 (by omega)]; exact Touch.refl _ _ _

def MarkedR (lo hi : Nat) (w : World) (b : Nat) (A : Option Addr) (n c : Nat) (xss : List (List Int)) (k : Int) (e : Ending) (w' : World) : Prop :=
  e = .returned (.int .i64 (k + offs xss n)) ∧ OwnR lo hi w' b A n c (mkR k xss) ∧ Touch lo hi w w'

set_option maxHeartbeats 1000000 in
theorem markIntSS_any (lo hi b : Nat) (A : Option Addr) (n c : Nat) (xss : List (List Int)) (k : Int) (w : World) (hx : OwnR lo hi w b A n c xss) (h0 : 0 ≤ k) (h1 : k + offs xss n ≤ 4611686018427387904) :
    Calls Try.prog 38 #[.slice A n c, .int .i64 k] w (MarkedR lo hi w b A n c xss k) := by
  have HX := Lib.hid hx
  have mx := hx.max
  have HL := Lib.hid hx.len
  clear hx
  go_enter Try.func38, Try.ntmps38
  go_wp2
  go_loopw [1, 5] (fun z i wr => ∃ (j : Nat) (yss : List (List Int)), j ≤ n ∧ i = .int .i64 j ∧ z = .int .i64 (k + offs xss j) ∧ Hid (∀ l, l < j → gr yss l = seqI (k + offs xss l) (gr xss l).length) ∧ Hid (∀ l, j ≤ l → gr yss l = gr xss l) ∧ Hid (OwnR lo hi wr b A n c yss) ∧ Hid (Touch lo hi w wr)) (fun _ i _ => n - (intOf i).toNat)
  case atStart => exact ⟨0, xss, Nat.zero_le _, rfl, by simp [offs], Lib.hid (fun _ h => absurd h (by omega)), Lib.hid (fun _ _ => rfl), HX, Lib.hid (Touch.refl _ _ _)⟩
  case round =>
    obtain ⟨j, yss, hj, rfl, rfl, HA, HB, HO, HT⟩ := hrel
    by_cases hlt : j < n
    · obtain ⟨o, g, R, cc, rfl, c1, hI, hset⟩ := HO.out.at_row hlt
      rw [HB.out j (Nat.le_refl _)] at c1 hI hset
      have hge := offs_ge xss j
      have hmono := offs_mono xss (i := j + 1) (j := n) hlt
      have HOF := Lib.hid (show offs xss (j + 1) = offs xss j + (gr xss j).length from rfl)
      have HC := Lib.hid (markIntS_any lo hi g R _ cc _ (k + offs xss j) _ hI (by omega) (by have := HOF.out; omega))
      have HS := Lib.hid hset
      clear hI hset hge hmono
      go_wp2_with fail
      refine HC.out.mono ?_
      rintro e w2 ⟨rfl, hown, h0', hone⟩
      obtain ⟨hR, hT⟩ := HS.out w2 _ (seqI_len _ _) hown h0' hone
      have HR := Lib.hid hR
      have HT2 := Lib.hid (HT.out.trans hT)
      have HYL := Lib.hid HO.out.len
      clear hown h0' hone hR hT HS HC HT c1 HO
      go_wp2
      go_roundw
      case rel => exact ⟨j + 1, _, by omega, by go_num, by rw [HOF.out]; congr 1; omega, Lib.hid (fun l hl => by
        by_cases e : l = j
        · subst e; exact gr_set_eq (by rw [HYL.out]; exact hlt)
        · rw [gr_set_ne e]; exact HA.out l (by omega)), Lib.hid (fun l hl => by rw [gr_set_ne (by omega)]; exact HB.out l (by omega)), HR, HT2⟩
      case measure => simp [intOf]; omega
    · obtain rfl : j = n := by omega
      have e : yss = mkR k xss := gr_ext (by rw [HO.out.len, mkR_len, HL.out]) fun l hl => by
        rw [HO.out.len] at hl
        rw [HA.out l hl, gr_mkR (by rw [HL.out]; exact hl)]
      have HO2 := Lib.hid (e ▸ HO.out)
      clear e HO
      go_wp2
      go_ret
      exact ⟨rfl, HO2.out, HT.out⟩

set_option maxHeartbeats 1000000 in
theorem heldIntSS_any (A : Option Addr) (n c : Nat) (xss : List (List Int)) (k : Int) (w : World) (hx : IntRows w A n c (mkR k xss)) (h0 : 0 ≤ k) (h1 : k + offs xss n ≤ 4611686018427387904) :
    Calls Try.prog 51 #[.slice A n c, .int .i64 k] w fun e w' => e = .returned (.int .i64 (k + offs xss n)) ∧ Quiet w w' := by
  have HX := Lib.hid hx
  have mx := hx.max
  have hl := hx.len
  rw [mkR_len] at hl
  have HL := Lib.hid hl
  clear hx hl
  go_enter Try.func51, Try.ntmps51
  go_wp2
  go_loopw [1, 5] (fun z i wr => ∃ (j : Nat), j ≤ n ∧ i = .int .i64 j ∧ z = .int .i64 (k + offs xss j) ∧ Quiet w wr) (fun _ i _ => n - (intOf i).toNat)
  case atStart => exact ⟨0, Nat.zero_le _, rfl, by simp [offs], Quiet.refl _⟩
  case round =>
    obtain ⟨j, hj, rfl, rfl, q, rfl⟩ := hrel
    by_cases hlt : j < n
    · obtain ⟨b, o, rfl, hc⟩ := HX.out.at_ (by omega)
      obtain ⟨R, cc, c1, hI⟩ := hc j hlt
      rw [gr_mkR (by rw [HL.out]; exact hlt), seqI_len] at c1 hI
      have hge := offs_ge xss j
      have hmono := offs_mono xss (i := j + 1) (j := n) hlt
      have HOF := Lib.hid (show offs xss (j + 1) = offs xss j + (gr xss j).length from rfl)
      have HC := Lib.hid (heldIntS_any R _ cc (k + offs xss j) (w.drewN q) (hI.keep (Keep.quiet ⟨_, rfl⟩)) (by omega) (by have := HOF.out; omega))
      clear hI hc hmono
      go_wp2_with fail
      refine HC.out.mono ?_
      rintro e w2 ⟨rfl, q2, rfl⟩
      clear HC
      go_wp2
      go_roundw
      case rel => exact ⟨j + 1, by omega, by go_num, by rw [HOF.out]; congr 1; omega, by first | exact ⟨_, rfl⟩ | exact Quiet.two _ _ _⟩
      case measure => simp [intOf]; omega
    · obtain rfl : j = n := by omega
      go_wp2
      go_ret
      exact ⟨rfl, ⟨_, rfl⟩⟩
end Go.Proofs.Ytjkmgpiiamffgaa

/- The reader made; one of some numbers. -/
namespace Go.Proofs.Ytjkmgpiiamffgaa
open Go.RowKit

def MadeRdr (w : World) (l : Nat) (e : Ending) (w' : World) : Prop :=
  ∃ A n c, e = .returned (.pointer (some ⟨w.heap.size, 0, none⟩)) ∧ n = min l 2000 ∧ Rdr w w' w.heap.size A n c 0 ∧ w'.heap.size = w.heap.size + 1

theorem Bytes.cut {w A n c} (h : Bytes w A n c) (hn : 2000 < n) : Bytes w A 2000 c :=
  ⟨by have := h.cap; omega, by omega, fun _ => let ⟨b, o, e, hc⟩ := h.at_ (by omega); ⟨b, o, e, fun k hk => hc k (by omega)⟩⟩

set_option maxHeartbeats 400000 in
theorem newReader_any (A : Option Addr) (n c : Nat) (w : World) (h : Bytes w A n c) :
    Calls Try.prog 55 #[.slice A n c] w (MadeRdr w n) := by
  have hm := h.max
  have hcap := h.cap
  by_cases hn : 2000 < n
  · obtain ⟨b, o, rfl, _⟩ := h.at_ (by omega)
    have HR := Lib.hid (show Rdr w (w.alloc (.cells #[.slice (some ⟨b, o, none⟩) 2000 c, .int .i64 0] 91)) w.heap.size (some ⟨b, o, none⟩) 2000 c 0 from
      ⟨blk_new _ _ _, h.cut hn, below_alloc _ _, Nat.le_refl _, Nat.le_refl _⟩)
    have HM := Lib.hid (show 2000 = min n 2000 by omega)
    have hc2 : 2000 ≤ c := by omega
    clear h
    go_enter Try.func55, Try.ntmps55
    go_wp2
    go_ret
    exact ⟨_, _, _, rfl, HM.out, HR.out, by simp⟩
  · have HR := Lib.hid (show Rdr w (w.alloc (.cells #[.slice A n c, .int .i64 0] 91)) w.heap.size A n c 0 from
      ⟨blk_new _ _ _, h, below_alloc _ _, Nat.le_refl _, by omega⟩)
    have HM := Lib.hid (show n = min n 2000 by omega)
    clear h
    go_enter Try.func55, Try.ntmps55
    go_wp2
    go_ret
    exact ⟨_, _, _, rfl, HM.out, HR.out, by simp⟩

/-- Some draws by the reader in block g: it alone has turned, p has grown by some; new blocks may be there. -/
structure Drawn (w0 : World) (g : Nat) (A : Option Addr) (l c p p' : Nat) (w w' : World) : Prop where
  rd : Rdr w0 w' g A l c p'
  grown : w.grownBy w' (some g)

theorem One.grown {g : Nat} {w w' : World} (h : One g w w') : w.grownBy w' (some g) := ⟨h.os, h.tape, h.output, by rw [h.size]; exact Nat.le_refl _, fun k _ hne => h.block k (fun e => hne (by rw [e]))⟩
theorem Rdr.one {g : Nat} (w : World) (v : Value) (q : Nat) : One g w ((w.setCell ⟨g, 1, none⟩ v).drewN q) :=
  let h := (One.refl g w).set 1 v
  ⟨h.os, h.tape, h.output, h.size, h.block⟩
theorem Rdr.below_ {w0 w w' g A n c p} (h : Rdr w0 w g A n c p) (k : Below w.heap.size w w') : Rdr w0 w' g A n c p :=
  ⟨blk_below h.box k, h.bytes, below_up h.below k, h.lt, h.small⟩

def OneOf (w0 : World) (g : Nat) (A : Option Addr) (l c p : Nat) (xs : List Int) (w : World) (e : Ending) (w' : World) : Prop :=
  ∃ x, e = .returned (.int .i64 x) ∧ x ∈ xs ∧ Rdr w0 w' g A l c (p + 1) ∧ One g w w'

set_option maxHeartbeats 400000 in
theorem one_any (w0 w : World) (g : Nat) (A : Option Addr) (l c p : Nat) (B : Option Addr) (n d : Nat) (xs : List Int) (h : Rdr w0 w g A l c p) (hp : p < 1000000000)
    (hx : Ints w B n d xs) (h0 : 0 < n) (hne : ∀ b o, B = some ⟨b, o, none⟩ → b ≠ g) :
    Calls Try.prog 57 #[.pointer (some ⟨g, 0, none⟩), .slice B n d] w (OneOf w0 g A l c p xs w) := by
  have hm := hx.max
  have HX := Lib.hid hx
  have HC := Lib.hid (pick_any w0 w g A l c p n h hp)
  have HNE := Lib.hid hne
  obtain ⟨b, o, rfl, _⟩ := hx.at_ h0
  clear h hx hne
  go_enter Try.func57, Try.ntmps57
  go_wp2_with fail
  refine HC.out.mono ?_
  rintro e w1 ⟨m, rfl, hm1, _, hr, q, hw⟩
  have H1 := Lib.hid hr
  have hone := Rdr.one (g := g) w (.int .i64 (p + 1 : Nat)) q
  rw [← hw] at hone
  have HO := Lib.hid hone
  obtain ⟨m0, m1⟩ := hm1 (by omega)
  obtain ⟨k, rfl⟩ := Int.eq_ofNat_of_zero_le m0
  have hk : k < n := by omega
  obtain ⟨b', o', e', hc⟩ := HX.out.at_ h0
  injection e' with e'
  injection e' with e1 e2 _
  subst e1
  subst e2
  have ck := hc k hk
  rw [← World.cell?_of_block (w := w) (w' := w1) (hone.block b (HNE.out b o rfl))] at ck
  have HM := Lib.hid (gi_mem (xs := xs) (k := k) (by rw [HX.out.len]; exact hk))
  clear hr hone hc hm1 hw HC HX
  go_wp2
  go_ret
  exact ⟨_, rfl, HM.out, H1.out, HO.out⟩
end Go.Proofs.Ytjkmgpiiamffgaa

/- A table drawn. -/
namespace Go.Proofs.Ytjkmgpiiamffgaa
open Go.RowKit

theorem grown_below {g : Nat} {a b w : World} (h : a.grownBy b (some g)) (k : Below b.heap.size b w) : a.grownBy w (some g) :=
  ⟨k.os.trans h.os, k.tape.trans h.tape, k.output.trans h.output, Nat.le_trans h.size k.size, fun i hi hne => (k.block i (Nat.lt_of_lt_of_le hi h.size)).trans (h.block i hi hne)⟩
/-- An append onto a row from lo on. -/
theorem grown_app {g : Nat} {a b w : World} {row : Option Nat} (h : a.grownBy b (some g)) (k : b.grownBy w row) (hr : ∀ x, row = some x → a.heap.size ≤ x) : a.grownBy w (some g) :=
  ⟨k.os.trans h.os, k.tape.trans h.tape, k.output.trans h.output, Nat.le_trans h.size k.size, fun i hi hne => (k.block i (Nat.lt_of_lt_of_le hi h.size) (fun e => by have := hr i e.symm; omega)).trans (h.block i hi hne)⟩

/-- A table under way: the reader, the rows that are there. -/
structure TO (w0 wb : World) (g : Nat) (A : Option Addr) (l c p : Nat) (v : Value) (vs : List Value) (xss : List (List Int)) (w : World) : Prop where
  rd : Rdr w0 w g A l c p
  bo : Bld wb.heap.size w.heap.size w v vs xss
  gl : g < wb.heap.size
  up : wb.grownBy w (some g)
/-- .. and the row that is begun. -/
structure TI (w0 wb : World) (g : Nat) (A : Option Addr) (l c p H : Nat) (v : Value) (vs : List Value) (xss : List (List Int)) (u : Value) (ys : List Int) (w : World) : Prop where
  rd : Rdr w0 w g A l c p
  bo : Bld wb.heap.size H w v vs xss
  bi : BldI H w.heap.size w u ys
  gl : g < wb.heap.size
  lh : wb.heap.size ≤ H
  hs : H ≤ w.heap.size
  up : wb.grownBy w (some g)
theorem TO.start {w0 wb g A l c p} (h : Rdr w0 wb g A l c p) :
    TO w0 wb g A l c p (.slice (some ⟨wb.heap.size, 0, none⟩) 0 0) [] [] (wb.alloc (.cells #[] 30)) :=
  ⟨h.below_ (below_alloc _ _), by rw [World.size_alloc]; exact Bld.make (Nat.le_refl _), blk_lt h.box, World.grownBy_alloc _ _ _⟩
theorem TO.row {w0 wb g A l c p v vs xss w} (h : TO w0 wb g A l c p v vs xss w) :
    TI w0 wb g A l c p w.heap.size v vs xss (.slice (some ⟨w.heap.size, 0, none⟩) 0 0) [] (w.alloc (.cells #[] 3)) :=
  ⟨h.rd.below_ (below_alloc _ _), h.bo.below (below_alloc _ _), by rw [World.size_alloc]; exact BldI.make (Nat.le_refl _), h.gl, h.up.size, by simp, grown_below h.up (below_alloc _ _)⟩
theorem TI.one {w0 wb g A l c p p' H v vs xss u ys w w'} (h : TI w0 wb g A l c p H v vs xss u ys w) (hr : Rdr w0 w' g A l c p') (ho : One g w w') :
    TI w0 wb g A l c p' H v vs xss u ys w' := by
  have hgl := h.gl
  have hlh := h.lh
  refine ⟨hr, h.bo.of_blocks fun k h1 _ _ => ho.block k (by omega), ?_, h.gl, h.lh, by rw [ho.size]; exact h.hs, ?_⟩
  · rw [ho.size]; exact h.bi.of_blocks fun k h1 _ _ => ho.block k (by omega)
  · exact ⟨ho.os.trans h.up.os, ho.tape.trans h.up.tape, ho.output.trans h.up.output, by rw [ho.size]; exact h.up.size, fun k hk hne => (ho.block k (fun e => hne (by rw [e]))).trans (h.up.block k hk hne)⟩
theorem TI.push {w0 wb g A l c p H v vs xss u u' ys w w' x} (h : TI w0 wb g A l c p H v vs xss u ys w)
    (hown : w'.ownsRow H 3 1 u' (ys.length + 1) (ys.map iv ++ [iv x])) (hgrow : (w.alloc (.cells #[iv x] 3)).grownBy w' u.ownBlock)
    (hat : u'.ownBlock = u.ownBlock ∨ u'.ownBlock = some (w.heap.size + 1)) : TI w0 wb g A l c p H v vs xss u' (ys ++ [x]) w' := by
  have hgl := h.gl
  have hlh := h.lh
  have hhs := h.hs
  have hsz := hgrow.size
  simp only [World.size_alloc] at hsz
  have hu : ∀ k, u.ownBlock = some k → H ≤ k := fun k hk => (h.bi.own.lt k hk).1
  have hbelow : ∀ k, k < H → w'.heap[k]? = w.heap[k]? := fun k hk =>
    (hgrow.block k (by simp; omega) (fun e => by have := hu k e.symm; omega)).trans (Below.heap_alloc _ _ _ (by omega))
  refine ⟨⟨(hbelow g (by omega)).trans h.rd.box, h.rd.bytes, ?_, h.rd.lt, h.rd.small⟩, h.bo.of_blocks fun k _ hk _ => hbelow k hk, ⟨by rw [List.length_append, List.length_singleton, List.map_append]; exact hown, fun k hk => ?_⟩, h.gl, h.lh, by omega, ?_⟩
  · exact ⟨hgrow.os.trans h.rd.below.os, hgrow.tape.trans h.rd.below.tape, hgrow.output.trans h.rd.below.output, by have := h.rd.below.size; omega, fun k hk => (hbelow k (by have := h.rd.lt; omega)).trans (h.rd.below.block k hk)⟩
  · rcases hat with hat | hat
    · have := h.bi.hi_ k (by rw [← hat]; exact hk); omega
    · have := (hown.lt k hk).2; omega
  · exact grown_app (grown_below h.up (below_alloc _ _)) hgrow fun k hk => by have := hu k hk; omega
theorem TI.done {w0 wb g A l c p H v v' vs xss ys w w' Ar cr gr_} (h : TI w0 wb g A l c p H v vs xss (.slice Ar ys.length cr) ys w) (ho : OwnI H w.heap.size w gr_ Ar ys.length cr ys)
    (hown : w'.ownsRow wb.heap.size 30 1 v' (xss.length + 1) (vs ++ [.slice Ar ys.length cr])) (hgrow : (w.alloc (.cells #[.slice Ar ys.length cr] 30)).grownBy w' v.ownBlock)
    (hat : v'.ownBlock = v.ownBlock ∨ v'.ownBlock = some (w.heap.size + 1)) : TO w0 wb g A l c p v' (vs ++ [.slice Ar ys.length cr]) (xss ++ [ys]) w' := by
  have hgl := h.gl
  have hlh := h.lh
  have hhs := h.hs
  have hsz := hgrow.size
  simp only [World.size_alloc] at hsz
  have hv : ∀ k, v.ownBlock = some k → wb.heap.size ≤ k := fun k hk => (h.bo.own.lt k hk).1
  have hbelow : ∀ k, k < wb.heap.size → w'.heap[k]? = w.heap[k]? := fun k hk =>
    (hgrow.block k (by simp; omega) (fun e => by have := hv k e.symm; omega)).trans (Below.heap_alloc _ _ _ (by omega))
  have hb := below_alloc w (.cells #[.slice Ar ys.length cr] 30)
  refine ⟨⟨(hbelow g hgl).trans h.rd.box, h.rd.bytes, ?_, h.rd.lt, h.rd.small⟩, ?_, h.gl, ?_⟩
  · exact ⟨hgrow.os.trans h.rd.below.os, hgrow.tape.trans h.rd.below.tape, hgrow.output.trans h.rd.below.output, by have := h.rd.below.size; omega, fun k hk => (hbelow k (by have := h.rd.lt; omega)).trans (h.rd.below.block k hk)⟩
  · have hbo : Bld wb.heap.size H w v vs xss := h.bo
    exact Bld.push (hi := H) (w := w) hbo hb ((ho.below hb).mono (Nat.le_refl _) (by simp)) hown hgrow (by simpa using hat) hlh hhs
  · exact grown_app (grown_below h.up hb) hgrow fun k hk => hv k hk
end Go.Proofs.Ytjkmgpiiamffgaa

/- A table drawn: the walk. -/
namespace Go.Proofs.Ytjkmgpiiamffgaa
open Go.RowKit
theorem Try.info_row : (Try.prog.info? 30).map (fun i => (i.zero, i.size, i.bytes)) = some (some (.slice none 0 0), 1, 24) := by kernel_rfl
theorem Try.info_int : (Try.prog.info? 3).map (fun i => (i.zero, i.size, i.bytes)) = some (some (.int .i64 0), 1, 8) := by kernel_rfl

def RowIn (m : Nat) (lo hi : Int) (r : List Int) : Prop := r.length = m ∧ ∀ x ∈ r, lo ≤ x ∧ x ≤ hi
def TableOut (w0 : World) (g : Nat) (A : Option Addr) (l c p n m : Nat) (lo hi : Int) (w : World) (e : Ending) (w' : World) : Prop :=
  ∃ Av cv vs xss p', e = .returned (.slice Av n cv) ∧ xss.length = n ∧ (∀ r ∈ xss, RowIn m lo hi r) ∧ TO w0 w g A l c p' (.slice Av n cv) vs xss w' ∧ p' ≤ p + 16

set_option maxHeartbeats 1000000 in
theorem tableOf_any (w0 w : World) (g : Nat) (A : Option Addr) (l c p n m : Nat) (lo hi : Int) (h : Rdr w0 w g A l c p) (hp : p < 900000000) (hn : n ≤ 4) (hm : m ≤ 4) (hl1 : -100 ≤ lo) (hl2 : lo ≤ hi) (hl3 : hi ≤ 100) :
    Calls Try.prog 89 #[.pointer (some ⟨g, 0, none⟩), .int .i64 n, .int .i64 m, .int .i64 lo, .int .i64 hi] w (TableOut w0 g A l c p n m lo hi w) := by
  have HS := Lib.hid (TO.start h)
  clear h
  go_enter Try.func89, Try.ntmps89
  go_wp2
  go_loopw [11] (fun v wr => ∃ (xss : List (List Int)) (vs : List Value) (p' : Nat), xss.length ≤ n ∧ p' ≤ p + 4 * xss.length ∧ Hid (∀ r ∈ xss, RowIn m lo hi r) ∧ Hid (TO w0 w g A l c p' v vs xss wr)) (fun v _ => n - (match v with | .slice _ k _ => k | _ => 0))
  case atStart => exact ⟨[], [], p, Nat.zero_le _, by simp, Lib.hid (fun r hr => by simp at hr), HS⟩
  case round =>
    clear HS
    obtain ⟨xss, vs, p', hxn, hpp, HA, HT⟩ := hrel
    obtain ⟨Av, cv, rfl⟩ := HT.out.bo.form
    by_cases hlt : xss.length < n
    · have HI := Lib.hid HT.out.row
      clear HT
      go_wp2
      generalize wr.heap.size = N at *
      go_loopw [12] (fun u wi => ∃ (ys : List Int) (q : Nat), ys.length ≤ m ∧ q ≤ p' + ys.length ∧ Hid (∀ x ∈ ys, lo ≤ x ∧ x ≤ hi) ∧ Hid (TI w0 w g A l c q N (.slice Av xss.length cv) vs xss u ys wi)) (fun u _ => m - (match u with | .slice _ k _ => k | _ => 0))
      case atStart => exact ⟨[], p', Nat.zero_le _, by simp, Lib.hid (fun r hr => by simp at hr), HI⟩
      case round =>
        clear HI
        obtain ⟨ys, q, hym, hq, HR, HI⟩ := hrel
        obtain ⟨Au, cu, rfl⟩ := HI.out.bi.form
        by_cases hlm : ys.length < m
        · have HC := Lib.hid (pick_any w0 _ g A l c q (hi - lo + 1) HI.out.rd (by omega))
          go_wp2_with fail
          refine HC.out.mono ?_
          rintro e w2 ⟨k, rfl, hk1, _, hr, z, hw⟩
          have hone := Rdr.one (g := g) wr (.int .i64 (q + 1 : Nat)) z
          rw [← hw] at hone
          obtain ⟨k0, k1⟩ := hk1 (by omega)
          have HI2 := Lib.hid (HI.out.one hr hone)
          clear hr hone hw hk1 HC HI
          have hb := below_alloc w2 (.cells #[iv (lo + k)] 3)
          have HB4 := Lib.hid (HI2.out.bi.below hb).own
          have HN := Lib.hid (cell_one_new w2 (iv (lo + k)) 3)
          have hHs := HI2.out.hs
          have hlh := HI2.out.lh
          clear hb
          obtain ⟨i0, hi0, hz0, hz1, hz2⟩ := info_parts Try.info_int
          go_wp2_with (at_builtin; refine wpList_append_own_at _ rfl _ _ 30 rfl N 3 i0 (.int .i64 0) 1 8 Try.underlying30 hi0 hz0 hz1 hz2 rfl (by decide) _ ys.length (ys.map iv) rfl HB4.out ⟨w2.heap.size, 0, none⟩ 1 1 [iv (lo + k)] rfl rfl ?c1 ?c2 ?c3 ?c4 ?c5 ?_)
          case c1 => exact HN.out
          case c2 => intro u hu; simp at hu; subst hu; rfl
          case c3 => unfold maxLen; omega
          case c4 => omega
          case c5 => simp; omega
          intro v' w5 hown' hgrow _ hat
          have HI5 := Lib.hid (HI2.out.push hown' hgrow (by simpa using hat))
          clear HB4 HN hown' hgrow hat HI2
          obtain ⟨Au2, cu2, rfl⟩ := HI5.out.bi.form
          go_wp2
          go_roundw
          case rel => exact ⟨ys ++ [lo + k], q + 1, by simp; omega, by simp; omega, Lib.hid (fun x hx => by
            rcases List.mem_append.1 hx with hx | hx
            · exact HR.out x hx
            · simp at hx; omega), HI5⟩
          case measure => simp; omega
        · obtain ⟨Ar, nr, cr, gg, e, rfl, ho, _⟩ := HI.out.bi.owns (by omega) (fun x hx => by have := HR.out x hx; omega)
          injection e with e1 _ e3
          subst e1
          subst e3
          have HO := Lib.hid ho
          have hym2 : ys.length = m := by omega
          have hb := below_alloc wr (.cells #[.slice Au ys.length cu] 30)
          have HB4 := Lib.hid (HI.out.bo.below hb).own
          have HN := Lib.hid (cell_one_new wr (.slice Au ys.length cu) 30)
          have hHs := HI.out.hs
          have hlh := HI.out.lh
          clear hb ho
          have HYM := Lib.hid hym2
          clear hym2
          obtain ⟨i0, hi0, hz0, hz1, hz2⟩ := info_parts Try.info_row
          go_wp2_with (at_builtin; refine wpList_append_own_at _ rfl _ _ 23 rfl w.heap.size 30 i0 (.slice none 0 0) 1 24 Try.underlying23 hi0 hz0 hz1 hz2 rfl (by decide) _ xss.length vs rfl HB4.out ⟨wr.heap.size, 0, none⟩ 1 1 [.slice Au ys.length cu] rfl rfl ?d1 ?d2 ?d3 ?d4 ?d5 ?_)
          case d2 => rfl
          case d3 => unfold maxLen; omega
          case d4 => omega
          case d5 => omega
          intro v' w5 hown' hgrow _ hat
          have HT5 := Lib.hid (HI.out.done HO.out hown' hgrow (by simpa using hat))
          clear HB4 HN hown' hgrow hat HI HO
          obtain ⟨Av2, cv2, rfl⟩ := HT5.out.bo.form
          go_wp2
          go_roundw
          case rel => exact ⟨xss ++ [ys], _, q, by simp; omega, by have := HYM.out; simp; omega, Lib.hid (fun r hr => by
            rcases List.mem_append.1 hr with hr | hr
            · exact HA.out r hr
            · simp at hr; subst hr; exact ⟨HYM.out, HR.out⟩), HT5⟩
          case measure => simp; omega
    · have hnx : xss.length = n := by omega
      have HNX := Lib.hid hnx
      clear hnx
      go_wp2
      go_ret
      exact ⟨Av, cv, vs, xss, p', by rw [← HNX.out]; rfl, HNX.out, HA.out, by rw [← HNX.out]; exact HT.out, by have := HNX.out; omega⟩
end Go.Proofs.Ytjkmgpiiamffgaa

/- A table spoiled now and then: what becomes of its memory. -/
namespace Go.Proofs.Ytjkmgpiiamffgaa
open Go.RowKit

theorem Bld.head {lo hi w v vs xss} (h : Bld lo hi w v vs xss) (h0 : 0 < xss.length) : ∃ b c R cc, v = .slice (some ⟨b, 0, none⟩) xss.length c ∧ lo ≤ b ∧ vs[0]? = some (.slice R (gr xss 0).length cc) ∧ w.cell? ⟨b, 0, none⟩ = some (.slice R (gr xss 0).length cc) := by
  obtain ⟨h1, h4, G, R, C, h2, h3⟩ := h
  have hv := (h2 0 h0).1
  rcases h1.2 with ⟨_, h5⟩ | ⟨g, cap, cur, rfl, hb, _⟩
  · omega
  · have hc := h1.cells (g := g) rfl 0 _ hv
    exact ⟨g, cap, R 0, C 0, rfl, hb, hv, by simpa [Addr.add] using hc⟩

theorem Bld.set0 {lo hi w v vs xss} (h : Bld lo hi w v vs xss) (h0 : 0 < xss.length) (h1 : 0 < (gr xss 0).length) {x : Int} (hx : -9223372036854775808 ≤ x ∧ x ≤ 9223372036854775807) :
    ∃ b o cc, vs[0]? = some (.slice (some ⟨b, o, none⟩) (gr xss 0).length cc) ∧ lo ≤ b ∧ (∃ y, w.cell? ⟨b, o, none⟩ = some (.int .i64 y)) ∧ w.frozen? ⟨b, o, none⟩ = false ∧
      Bld lo hi (w.setCell ⟨b, o, none⟩ (.int .i64 x)) v vs (xss.set 0 ((gr xss 0).set 0 x)) := by
  obtain ⟨ho, h4, G, R, C, h2, h3⟩ := h
  obtain ⟨q0, q1, q2⟩ := h2 0 h0
  obtain ⟨o, e, l1, l2, hf⟩ := q1.own h1
  have q1' := q1
  rw [e] at q1' q0
  have hset := q1'.set h1 hx
  rw [Nat.add_zero] at hset
  obtain ⟨b', o', e', hc⟩ := q1.ints.at_ h1
  rw [e] at e'
  injection e' with e'
  injection e' with e1 e2 _
  have hc0 := hc 0 h1
  rw [Nat.add_zero, ← e1, ← e2] at hc0
  have hf0 := hf 0 h1
  rw [Nat.add_zero] at hf0
  have hlen : ∀ k, (gr (xss.set 0 ((gr xss 0).set 0 x)) k).length = (gr xss k).length := fun k => by
    by_cases e : k = 0
    · subst e; rw [gr_set_eq h0, List.length_set]
    · rw [gr_set_ne e]
  refine ⟨G 0, o, C 0, q0, l1, ⟨_, hc0⟩, hf0, ⟨?_, h4, G, R, C, fun k hk => ?_, fun j k hjk hk hj0 hk0 => ?_⟩⟩
  · rw [List.length_set]
    exact blk_kept ho fun g hg => Below.heap_setCell _ _ _ _ (fun e => q2 h1 (by rw [hg, e]))
  · rw [List.length_set] at hk
    rw [hlen]
    obtain ⟨a, b, c⟩ := h2 k hk
    refine ⟨a, ?_, c⟩
    by_cases ek : k = 0
    · subst ek
      rw [gr_set_eq h0, e]
      exact hset
    · rw [gr_set_ne ek]
      exact b.of_block fun hp => Below.heap_setCell _ _ _ _ (Ne.symm (h3 0 k (by omega) hk h1 hp))
  · rw [List.length_set] at hk
    rw [hlen] at hj0 hk0
    exact h3 j k hjk hk hj0 hk0

/-- The rows' lengths and numbers are small. -/
structure Small (xss : List (List Int)) : Prop where
  n : xss.length ≤ 8
  rows : ∀ r ∈ xss, r.length ≤ 8 ∧ ∀ x ∈ r, -1000 ≤ x ∧ x ≤ 1000
theorem Small.set0 {xss : List (List Int)} (h : Small xss) (h0 : 0 < xss.length) {x : Int} (hx : -1000 ≤ x ∧ x ≤ 1000) : Small (xss.set 0 ((gr xss 0).set 0 x)) := by
  have hm := h.rows _ (gr_mem h0)
  refine ⟨by rw [List.length_set]; exact h.n, fun r hr => ?_⟩
  rcases List.mem_or_eq_of_mem_set hr with hr | rfl
  · exact h.rows r hr
  · refine ⟨by rw [List.length_set]; exact hm.1, fun y hy => ?_⟩
    rcases List.mem_or_eq_of_mem_set hy with hy | rfl
    · exact hm.2 y hy
    · exact hx
theorem Small.snoc {xss : List (List Int)} (h : Small xss) (hn : xss.length ≤ 7) {x : Int} (hx : -1000 ≤ x ∧ x ≤ 1000) : Small (xss ++ [[x]]) :=
  ⟨by simp; omega, fun r hr => by
    rcases List.mem_append.1 hr with hr | hr
    · exact h.rows r hr
    · simp at hr; subst hr; exact ⟨by simp, fun y hy => by simp at hy; subst hy; exact hx⟩⟩
theorem Small.nil : Small [] := ⟨by simp, fun r hr => by simp at hr⟩

theorem TO.below {w0 wb g A l c p v vs xss w w'} (h : TO w0 wb g A l c p v vs xss w) (k : Below w.heap.size w w') : TO w0 wb g A l c p v vs xss w' :=
  ⟨h.rd.below_ k, (h.bo.below k).mono k.size, h.gl, grown_below h.up k⟩
theorem TO.one {w0 wb g A l c p p' v vs xss w w'} (h : TO w0 wb g A l c p v vs xss w) (hr : Rdr w0 w' g A l c p') (ho : One g w w') : TO w0 wb g A l c p' v vs xss w' := by
  have hgl := h.gl
  refine ⟨hr, ?_, h.gl, ?_⟩
  · rw [ho.size]; exact h.bo.of_blocks fun k h1 _ _ => ho.block k (by omega)
  · exact ⟨ho.os.trans h.up.os, ho.tape.trans h.up.tape, ho.output.trans h.up.output, by rw [ho.size]; exact h.up.size, fun k hk hne => (ho.block k (fun e => hne (by rw [e]))).trans (h.up.block k hk hne)⟩
theorem TO.fresh {w0 wb g A l c p v vs xss w} (h : TO w0 wb g A l c p v vs xss w) : TO w0 wb g A l c p (.slice (some ⟨w.heap.size, 0, none⟩) 0 0) [] [] (w.alloc (.cells #[] 30)) :=
  ⟨h.rd.below_ (below_alloc _ _), by rw [World.size_alloc]; exact Bld.make h.up.size, h.gl, grown_below h.up (below_alloc _ _)⟩
theorem TO.set0 {w0 wb g A l c p v vs xss w} (h : TO w0 wb g A l c p v vs xss w) (h0 : 0 < xss.length) (h1 : 0 < (gr xss 0).length) {x : Int} (hx : -1000 ≤ x ∧ x ≤ 1000) :
    ∃ b o cc, vs[0]? = some (.slice (some ⟨b, o, none⟩) (gr xss 0).length cc) ∧ (∃ y, w.cell? ⟨b, o, none⟩ = some (.int .i64 y)) ∧ w.frozen? ⟨b, o, none⟩ = false ∧
      TO w0 wb g A l c p v vs (xss.set 0 ((gr xss 0).set 0 x)) (w.setCell ⟨b, o, none⟩ (.int .i64 x)) := by
  obtain ⟨b, o, cc, e, hl, hc, hf, hb⟩ := h.bo.set0 h0 h1 (x := x) (by omega)
  have hgl := h.gl
  have hs : (w.setCell ⟨b, o, none⟩ (.int .i64 x)).heap.size = w.heap.size := by simp [World.setCell]
  refine ⟨b, o, cc, e, hc, hf, ⟨⟨blk_other h.rd.box (by show g ≠ b; omega) _, h.rd.bytes, h.rd.below.setCell (by show w0.heap.size ≤ b; have := h.rd.lt; omega) _, h.rd.lt, h.rd.small⟩, by rw [hs]; exact hb, h.gl, ?_⟩⟩
  exact ⟨h.up.os, h.up.tape, h.up.output, by rw [hs]; exact h.up.size, fun k hk hne => (Below.heap_setCell _ _ _ _ (by show k ≠ b; omega)).trans (h.up.block k hk hne)⟩
end Go.Proofs.Ytjkmgpiiamffgaa

/- A list of ints that is written out. -/
namespace Go.Proofs.Ytjkmgpiiamffgaa
open Go.RowKit

theorem Ints.lit (w : World) (xs : List Int) (hl : xs.length ≤ 1000) (hw : ∀ x ∈ xs, -9223372036854775808 ≤ x ∧ x ≤ 9223372036854775807) :
    Ints (w.alloc (.cells (xs.map iv).toArray 3)) (some ⟨w.heap.size, 0, none⟩) xs.length xs.length xs :=
  ⟨rfl, Nat.le_refl _, by omega, hw, fun _ => ⟨_, _, rfl, fun k hk => by
    simp only [World.cell?, Nat.zero_add, heap_alloc_new]
    rw [← getElem_iv hk]
    simp⟩⟩
theorem Ints.two (w : World) (x y : Int) (hx : -9223372036854775808 ≤ x ∧ x ≤ 9223372036854775807 := by omega) (hy : -9223372036854775808 ≤ y ∧ y ≤ 9223372036854775807 := by omega) : Ints (w.alloc (.cells #[iv x, iv y] 3)) (some ⟨w.heap.size, 0, none⟩) 2 2 [x, y] :=
  ⟨rfl, Nat.le_refl _, by omega, fun z hz => by simp at hz; omega, fun _ => ⟨_, _, rfl, fun k hk => by
    have h : k = 0 ∨ k = 1 := by omega
    rcases h with rfl | rfl <;> simp only [World.cell?, Nat.zero_add, heap_alloc_new] <;> rfl⟩⟩

end Go.Proofs.Ytjkmgpiiamffgaa

/- A table spoiled now and then: the walk. -/
namespace Go.Proofs.Ytjkmgpiiamffgaa
open Go.RowKit

/-- A row written out, of one number. -/
theorem TO.lit {w0 wb g A l c p v vs xss w} (h : TO w0 wb g A l c p v vs xss w) (x : Int) :
    TI w0 wb g A l c p w.heap.size v vs xss (.slice (some ⟨w.heap.size, 0, none⟩) 1 1) [x] (w.alloc (.cells #[iv x] 3)) :=
  ⟨h.rd.below_ (below_alloc _ _), h.bo.below (below_alloc _ _), by rw [World.size_alloc]; exact ⟨⟨by simp, .inr ⟨w.heap.size, 1, #[iv x], rfl, Nat.le_refl _, heap_alloc_new w _, Nat.le_refl _, by decide, rfl, by simp⟩⟩, fun k hk => by simp [Value.ownBlock] at hk; omega⟩, h.gl, h.up.size, by simp, grown_below h.up (below_alloc _ _)⟩

theorem Ints.drew {w A n c xs} (h : Ints w A n c xs) : Ints w.drew A n c xs := ⟨h.1, h.2, h.3, h.4, h.5⟩

theorem Bld.head_at {lo hi w b c n vs xss} (h : Bld lo hi w (.slice (some ⟨b, 0, none⟩) n c) vs xss) (h0 : 0 < xss.length) : w.cell? ⟨b, 0, none⟩ = vs[0]? := by
  obtain ⟨b', c', R, cc, e, _, h1, h2⟩ := h.head h0
  injection e with e
  injection e with e
  injection e with e _ _
  subst e
  rw [h1, h2]

theorem TO.set0_at {w0 wb g A l c p v vs xss w b o k cc} (h : TO w0 wb g A l c p v vs xss w) (h0 : 0 < xss.length) (h1 : 0 < (gr xss 0).length) (hv : vs[0]? = some (.slice (some ⟨b, o, none⟩) k cc)) {x : Int} (hx : -1000 ≤ x ∧ x ≤ 1000) :
    (∃ y, w.cell? ⟨b, o, none⟩ = some (.int .i64 y)) ∧ w.frozen? ⟨b, o, none⟩ = false ∧ TO w0 wb g A l c p v vs (xss.set 0 ((gr xss 0).set 0 x)) (w.setCell ⟨b, o, none⟩ (.int .i64 x)) := by
  obtain ⟨b', o', cc', e, h2⟩ := h.set0 h0 h1 hx
  rw [hv] at e
  injection e with e
  injection e with e _ _
  injection e with e
  injection e with e1 e2 _
  subst e1
  subst e2
  exact h2

def SpoilOut (w0 wb : World) (g : Nat) (A : Option Addr) (l c p : Nat) (e : Ending) (w' : World) : Prop :=
  ∃ v' vs' xss' p', e = .returned v' ∧ Small xss' ∧ TO w0 wb g A l c p' v' vs' xss' w' ∧ p' ≤ p + 2

set_option maxHeartbeats 1000000 in
theorem spoil_any (w0 wb w : World) (g : Nat) (A : Option Addr) (l c p : Nat) (Av : Option Addr) (cv : Nat) (vs : List Value) (xss : List (List Int)) (h : TO w0 wb g A l c p (.slice Av xss.length cv) vs xss w) (hp : p < 900000000) (hs : Small xss) (h7 : xss.length ≤ 7) :
    Calls Try.prog 90 #[.pointer (some ⟨g, 0, none⟩), .slice Av xss.length cv] w (SpoilOut w0 wb g A l c p) := by
  have HT := Lib.hid h
  have HC := Lib.hid (pick_any w0 w g A l c p 40 h.rd (by omega))
  have HS := Lib.hid hs
  clear h hs
  go_enter Try.func90, Try.ntmps90
  go_wp2_with fail
  refine HC.out.mono ?_
  rintro e w2 ⟨k, rfl, hk1, _, hr, z, hw⟩
  have hone := Rdr.one (g := g) w (.int .i64 (p + 1 : Nat)) z
  rw [← hw] at hone
  obtain ⟨k0, k1⟩ := hk1 (by omega)
  have HT2 := Lib.hid (HT.out.one hr hone)
  clear hr hone hw hk1 HC HT
  by_cases e0 : k = 0
  · subst e0
    by_cases hx0 : 0 < xss.length
    · obtain ⟨b0, c0, R0, cc0, ev, hb0, hv0, hcell0⟩ := HT2.out.bo.head hx0
      injection ev with ev1 _ ev3
      subst ev1
      subst ev3
      by_cases hx1 : 0 < (gr xss 0).length
      · obtain ⟨b, o, cc, ev, _⟩ := HT2.out.set0 hx0 hx1 (x := 10) (by omega)
        rw [hv0] at ev
        injection ev with ev
        injection ev with ev1 _ ev3
        subst ev1
        subst ev3
        have HTA := Lib.hid ((HT2.out.below (below_alloc w2 (.cells #[iv 10, iv (-10)] 3))).below ((Below.refl _ _).drew))
        have HCA := Lib.hid ((HTA.out.bo.head_at hx0).trans hv0)
        have HIA := Lib.hid (Ints.two w2 10 (-10)).drew
        have hgl := HT2.out.gl
        have hgw := HT2.out.up.size
        go_wp2_with fail
        go_region_held3 (fun W => W.cell? ⟨b0, 0, none⟩ = some (.slice (some ⟨b, o, none⟩) (gr xss 0).length cc0)) (first | exact hcell0 | exact HCA.out | exact HCB.out | exact HCC.out)
          (first
          | (go_at_call 57; refine (one_any w0 _ g A l c (p + 1) _ 2 2 [10, -10] ?_ (by omega) ?_ (by omega) ?_).mono ?_; exact HTA.out.rd; exact HIA.out; (intro b' o' e'; injection e' with e'; injection e' with e1 _ _; omega); rintro e w4 ⟨x, rfl, hx, hr, ho⟩; have HT4 := Lib.hid (HTA.out.one hr ho); have HCB := Lib.hid ((HT4.out.bo.head_at hx0).trans hv0); have hx3 : -1000 ≤ x ∧ x ≤ 1000 := (by simp at hx; omega); obtain ⟨⟨y, hc5⟩, hf5, hT5⟩ := HT4.out.set0_at hx0 hx1 hv0 hx3; have HT5 := Lib.hid hT5; have HCC := Lib.hid ((HT5.out.bo.head_at (by rw [List.length_set]; exact hx0)).trans hv0); clear hr ho hT5 hx HTA HIA))
        go_wp2
        go_ret
        exact ⟨_, _, _, _, rfl, HS.out.set0 hx0 hx3, HT5.out, by omega⟩
      · go_wp2
        go_ret
        exact ⟨_, _, _, _, rfl, HS.out, HT2.out, by omega⟩
    · go_wp2
      go_ret
      exact ⟨_, _, _, _, rfl, HS.out, HT2.out, by omega⟩
  · by_cases e1 : k = 1
    · subst e1
      have HI := Lib.hid (HT2.out.lit 1)
      clear HT2
      have hWs : (w2.alloc (.cells #[iv 1] 3)).heap.size = w2.heap.size + 1 := by simp
      obtain ⟨Ar, nr, cr, gg, e, hn, ho, _⟩ := HI.out.bi.owns (by simp) (fun x hx => by simp at hx; omega)
      injection e with e1 e2 e3
      subst e1
      subst e2
      subst e3
      have HO := Lib.hid ho
      have hb := below_alloc (w2.alloc (.cells #[iv 1] 3)) (.cells #[.slice (some ⟨w2.heap.size, 0, none⟩) 1 1] 30)
      have HB4 := Lib.hid (HI.out.bo.below hb).own
      have HN := Lib.hid (cell_one_new (w2.alloc (.cells #[iv 1] 3)) (.slice (some ⟨w2.heap.size, 0, none⟩) 1 1) 30)
      have hHs := HI.out.hs
      have hlh := HI.out.lh
      clear hb ho hn
      obtain ⟨i0, hi0, hz0, hz1, hz2⟩ := info_parts Try.info_row
      go_wp2_with (at_builtin; refine wpList_append_own_at _ rfl _ _ 23 rfl wb.heap.size 30 i0 (.slice none 0 0) 1 24 Try.underlying23 hi0 hz0 hz1 hz2 rfl (by decide) _ xss.length vs rfl HB4.out ⟨w2.heap.size + 1, 0, none⟩ 1 1 [.slice (some ⟨w2.heap.size, 0, none⟩) 1 1] rfl rfl ?d1 ?d2 ?d3 ?d4 ?d5 ?_)
      case d1 => have := HN.out; rw [hWs] at this; exact this
      case d2 => intro u hu; simp at hu; subst hu; rfl
      case d3 => unfold maxLen; omega
      case d4 => omega
      case d5 => simp; omega
      intro v' w5 hown' hgrow _ hat
      have HT5 := Lib.hid (TI.done (w := w2.alloc (.cells #[iv 1] 3)) (ys := [1]) (xss := xss) (v := .slice Av xss.length cv) (v' := v') (vs := vs) (Ar := some ⟨w2.heap.size, 0, none⟩) (cr := 1) HI.out HO.out hown' hgrow (by simpa using hat))
      clear HB4 HN hown' hgrow hat HI HO
      go_wp2
      go_ret
      exact ⟨_, _, _, _, rfl, HS.out.snoc h7 (by omega), HT5.out, by omega⟩
    · by_cases e2 : k = 2
      · subst e2
        have HF := Lib.hid HT2.out.fresh
        go_wp2
        go_ret
        exact ⟨_, _, _, _, rfl, Small.nil, HF.out, by omega⟩
      · go_wp2
        go_ret
        exact ⟨_, _, _, _, rfl, HS.out, HT2.out, by omega⟩
end Go.Proofs.Ytjkmgpiiamffgaa

/- Some table. -/
namespace Go.Proofs.Ytjkmgpiiamffgaa
open Go.RowKit

theorem grown_trans {g : Nat} {a b w : World} (h : a.grownBy b (some g)) (k : b.grownBy w (some g)) : a.grownBy w (some g) :=
  ⟨k.os.trans h.os, k.tape.trans h.tape, k.output.trans h.output, Nat.le_trans h.size k.size, fun i hi hne => (k.block i (Nat.lt_of_lt_of_le hi h.size) hne).trans (h.block i hi hne)⟩
theorem grown_of_below {g : Nat} {w w' : World} (k : Below w.heap.size w w') : w.grownBy w' (some g) := ⟨k.os, k.tape, k.output, k.size, fun i hi _ => k.block i hi⟩

/-- A number of a list that is written out. -/
def OneLit (w0 : World) (g : Nat) (A : Option Addr) (l c p : Nat) (xs : List Int) (w : World) (e : Ending) (w' : World) : Prop :=
  ∃ x, e = .returned (.int .i64 x) ∧ x ∈ xs ∧ Rdr w0 w' g A l c (p + 1) ∧ w.grownBy w' (some g)
theorem one_lit (w0 w W : World) (g : Nat) (A : Option Addr) (l c p b n : Nat) (xs : List Int) (h : Rdr w0 w g A l c p) (hp : p < 1000000000) (k : Below w.heap.size w W)
    (hb : w.heap.size ≤ b) (hi : Ints W (some ⟨b, 0, none⟩) n n xs) (h0 : 0 < n) :
    Calls Try.prog 57 #[.pointer (some ⟨g, 0, none⟩), .slice (some ⟨b, 0, none⟩) n n] W (OneLit w0 g A l c p xs w) := by
  have hg := blk_lt h.box
  refine (one_any w0 W g A l c p _ n n xs (h.below_ k) hp hi h0 (fun b' o' e' => by injection e' with e'; injection e' with e' _ _; omega)).mono ?_
  rintro e w4 ⟨x, rfl, hx, hr, ho⟩
  exact ⟨x, rfl, hx, hr, grown_trans (grown_of_below k) ho.grown⟩

/-- A table that the reader drew: its memory is from w on. -/
def SomeT (w0 : World) (g : Nat) (A : Option Addr) (l c p : Nat) (w : World) (e : Ending) (w' : World) : Prop :=
  ∃ wb v' vs' xss' p', e = .returned v' ∧ Small xss' ∧ TO w0 wb g A l c p' v' vs' xss' w' ∧ p' ≤ p + 30 ∧ w.grownBy wb (some g)

end Go.Proofs.Ytjkmgpiiamffgaa

/- Tables drawn from bytes. -/
namespace Go.Proofs.Ytjkmgpiiamffgaa
open Go.RowKit

/-- A table of small numbers, in memory of its own. -/
def DrawnT (w : World) (e : Ending) (w' : World) : Prop :=
  ∃ Av n c gg xss, e = .returned (.slice Av n c) ∧ Small xss ∧ OwnR w.heap.size w'.heap.size w' gg Av n c xss ∧ Below w.heap.size w w'

end Go.Proofs.Ytjkmgpiiamffgaa

/- A table spoiled now and then, beside the box of a game. -/
namespace Go.Proofs.Ytjkmgpiiamffgaa
open Go.RowKit

theorem box_ne_box {w : World} {h g : Nat} {t u : TypeId} {cs ds : Array Value} (a : Blk w h t cs) (b : Blk w g u ds) (ne : t ≠ u) : h ≠ g := by
  rintro rfl
  unfold Blk at a b
  rw [a] at b
  injection b with b
  injection b with _ b _
  exact ne b
theorem box_ne_int {w : World} {h b o : Nat} {t : TypeId} {cs : Array Value} {k : IntKind} (a : Blk w h t cs) (hcs : ∀ (k : Nat) (v : Value), cs[k]? = some v → ∀ (kk : IntKind) (x : Int), v ≠ Value.int kk x) (hc : ∃ y, w.cell? ⟨b, o, none⟩ = some (.int k y)) : h ≠ b := by
  rintro rfl
  obtain ⟨y, hc⟩ := hc
  unfold Blk at a
  simp only [World.cell?, a] at hc
  exact hcs o _ hc k y rfl
theorem box_ne_own {w : World} {h base n : Nat} {t e : TypeId} {cs : Array Value} {v : Value} {xs : List Value} (a : Blk w h t cs) (own : w.ownsRow base e 1 v n xs) (ne : t ≠ e) : v.ownBlock ≠ some h := by
  rcases own.2 with ⟨rfl, _⟩ | ⟨g, cap, cur, rfl, _, hg, _⟩
  · simp [Value.ownBlock]
  · intro e1
    have : g = h := by simpa [Value.ownBlock] using e1
    subst this
    unfold Blk at a
    rw [a] at hg
    injection hg with hg
    injection hg with _ hg _
    exact ne hg
def SpoilH (w0 wb : World) (g : Nat) (A : Option Addr) (l c p h : Nat) (cs : Array Value) (e : Ending) (w' : World) : Prop :=
  ∃ v' vs' xss' p', e = .returned v' ∧ Small xss' ∧ TO w0 wb g A l c p' v' vs' xss' w' ∧ p' ≤ p + 2 ∧ Blk w' h 54 cs

set_option maxHeartbeats 1000000 in
theorem spoilH_any (w0 wb w : World) (h : Nat) (cs : Array Value) (g : Nat) (A : Option Addr) (l c p : Nat) (Av : Option Addr) (cv : Nat) (vs : List Value) (xss : List (List Int)) (ht : TO w0 wb g A l c p (.slice Av xss.length cv) vs xss w) (hp : p < 900000000) (hs : Small xss) (h7 : xss.length ≤ 7) (hbx : Blk w h 54 cs) (hcs : ∀ (k : Nat) (v : Value), cs[k]? = some v → ∀ (kk : IntKind) (x : Int), v ≠ Value.int kk x) :
    Calls Try.prog 90 #[.pointer (some ⟨g, 0, none⟩), .slice Av xss.length cv] w (SpoilH w0 wb g A l c p h cs) := by
  have HT := Lib.hid ht
  have HBX := Lib.hid hbx
  have HCS := Lib.hid hcs
  have HNE := Lib.hid (box_ne_box (h := h) (g := g) hbx ht.rd.box (by decide))
  have HC := Lib.hid (pick_any w0 w g A l c p 40 ht.rd (by omega))
  have HS := Lib.hid hs
  clear ht hs hbx hcs
  go_enter Try.func90, Try.ntmps90
  go_wp2_with fail
  refine HC.out.mono ?_
  rintro e w2 ⟨k, rfl, hk1, _, hr, z, hw⟩
  have hone := Rdr.one (g := g) w (.int .i64 (p + 1 : Nat)) z
  rw [← hw] at hone
  obtain ⟨k0, k1⟩ := hk1 (by omega)
  have HT2 := Lib.hid (HT.out.one hr hone)
  have HB2 := Lib.hid (show Blk w2 h 54 cs from (hone.block h HNE.out).trans HBX.out)
  clear hr hone hw hk1 HC HT HBX
  by_cases e0 : k = 0
  · subst e0
    by_cases hx0 : 0 < xss.length
    · obtain ⟨b0, c0, R0, cc0, ev, hb0, hv0, hcell0⟩ := HT2.out.bo.head hx0
      injection ev with ev1 _ ev3
      subst ev1
      subst ev3
      by_cases hx1 : 0 < (gr xss 0).length
      · obtain ⟨b, o, cc, ev, _⟩ := HT2.out.set0 hx0 hx1 (x := 10) (by omega)
        rw [hv0] at ev
        injection ev with ev
        injection ev with ev1 _ ev3
        subst ev1
        subst ev3
        have HTA := Lib.hid ((HT2.out.below (below_alloc w2 (.cells #[iv 10, iv (-10)] 3))).below ((Below.refl _ _).drew))
        have HBA := Lib.hid (show Blk (w2.alloc (.cells #[iv 10, iv (-10)] 3)).drew h 54 cs from blk_below HB2.out (below_alloc w2 (.cells #[iv 10, iv (-10)] 3)).drew)
        have HCA := Lib.hid ((HTA.out.bo.head_at hx0).trans hv0)
        have HIA := Lib.hid (Ints.two w2 10 (-10)).drew
        have hgl := HT2.out.gl
        have hgw := HT2.out.up.size
        go_wp2_with fail
        go_region_held3 (fun W => W.cell? ⟨b0, 0, none⟩ = some (.slice (some ⟨b, o, none⟩) (gr xss 0).length cc0)) (first | exact hcell0 | exact HCA.out | exact HCB.out | exact HCC.out)
          (first
          | (go_at_call 57; refine (one_any w0 _ g A l c (p + 1) _ 2 2 [10, -10] ?_ (by omega) ?_ (by omega) ?_).mono ?_; exact HTA.out.rd; exact HIA.out; (intro b' o' e'; injection e' with e'; injection e' with e1 _ _; omega); rintro e w4 ⟨x, rfl, hx, hr, ho⟩; have HT4 := Lib.hid (HTA.out.one hr ho); have HCB := Lib.hid ((HT4.out.bo.head_at hx0).trans hv0); have hx3 : -1000 ≤ x ∧ x ≤ 1000 := (by simp at hx; omega); obtain ⟨⟨y, hc5⟩, hf5, hT5⟩ := HT4.out.set0_at hx0 hx1 hv0 hx3; have HT5 := Lib.hid hT5; have HBD := Lib.hid (show Blk w4 h 54 cs from (ho.block h HNE.out).trans HBA.out); have HBE := Lib.hid (blk_other HBD.out (p := ⟨b, o, none⟩) (box_ne_int (k := .i64) HBD.out HCS.out ⟨_, hc5⟩) (.int .i64 x)); have HCC := Lib.hid ((HT5.out.bo.head_at (by rw [List.length_set]; exact hx0)).trans hv0); clear hr ho hT5 hx HTA HIA))
        go_wp2
        go_ret
        exact ⟨_, _, _, _, rfl, HS.out.set0 hx0 hx3, HT5.out, by omega, HBE.out⟩
      · go_wp2
        go_ret
        exact ⟨_, _, _, _, rfl, HS.out, HT2.out, by omega, HB2.out⟩
    · go_wp2
      go_ret
      exact ⟨_, _, _, _, rfl, HS.out, HT2.out, by omega, HB2.out⟩
  · by_cases e1 : k = 1
    · subst e1
      have HI := Lib.hid (HT2.out.lit 1)
      have HNO := Lib.hid (box_ne_own HB2.out HT2.out.bo.own (by decide))
      have HBF := Lib.hid (blk_below (blk_below HB2.out (below_alloc w2 (.cells #[iv 1] 3))) (below_alloc _ (.cells #[.slice (some ⟨w2.heap.size, 0, none⟩) 1 1] 30)))
      clear HT2
      have hWs : (w2.alloc (.cells #[iv 1] 3)).heap.size = w2.heap.size + 1 := by simp
      obtain ⟨Ar, nr, cr, gg, e, hn, ho, _⟩ := HI.out.bi.owns (by simp) (fun x hx => by simp at hx; omega)
      injection e with e1 e2 e3
      subst e1
      subst e2
      subst e3
      have HO := Lib.hid ho
      have hb := below_alloc (w2.alloc (.cells #[iv 1] 3)) (.cells #[.slice (some ⟨w2.heap.size, 0, none⟩) 1 1] 30)
      have HB4 := Lib.hid (HI.out.bo.below hb).own
      have HN := Lib.hid (cell_one_new (w2.alloc (.cells #[iv 1] 3)) (.slice (some ⟨w2.heap.size, 0, none⟩) 1 1) 30)
      have hHs := HI.out.hs
      have hlh := HI.out.lh
      clear hb ho hn
      obtain ⟨i0, hi0, hz0, hz1, hz2⟩ := info_parts Try.info_row
      go_wp2_with (at_builtin; refine wpList_append_own_at _ rfl _ _ 23 rfl wb.heap.size 30 i0 (.slice none 0 0) 1 24 Try.underlying23 hi0 hz0 hz1 hz2 rfl (by decide) _ xss.length vs rfl HB4.out ⟨w2.heap.size + 1, 0, none⟩ 1 1 [.slice (some ⟨w2.heap.size, 0, none⟩) 1 1] rfl rfl ?d1 ?d2 ?d3 ?d4 ?d5 ?_)
      case d1 => have := HN.out; rw [hWs] at this; exact this
      case d2 => intro u hu; simp at hu; subst hu; rfl
      case d3 => unfold maxLen; omega
      case d4 => omega
      case d5 => simp; omega
      intro v' w5 hown' hgrow _ hat
      have HT5 := Lib.hid (TI.done (w := w2.alloc (.cells #[iv 1] 3)) (ys := [1]) (xss := xss) (v := .slice Av xss.length cv) (v' := v') (vs := vs) (Ar := some ⟨w2.heap.size, 0, none⟩) (cr := 1) HI.out HO.out hown' hgrow (by simpa using hat))
      have HBG := Lib.hid (show Blk w5 h 54 cs from (hgrow.block h (blk_lt HBF.out) (fun e => HNO.out e.symm)).trans HBF.out)
      clear HB4 HN hown' hgrow hat HI HO
      go_wp2
      go_ret
      exact ⟨_, _, _, _, rfl, HS.out.snoc h7 (by omega), HT5.out, by omega, HBG.out⟩
    · by_cases e2 : k = 2
      · subst e2
        have HF := Lib.hid HT2.out.fresh
        have HBF := Lib.hid (blk_below HB2.out (below_alloc w2 (.cells #[] 30)))
        go_wp2
        go_ret
        exact ⟨_, _, _, _, rfl, Small.nil, HF.out, by omega, HBF.out⟩
      · go_wp2
        go_ret
        exact ⟨_, _, _, _, rfl, HS.out, HT2.out, by omega, HB2.out⟩
end Go.Proofs.Ytjkmgpiiamffgaa

/- Chapter 1 as plain functions on lists. -/
namespace Go.Proofs.Ytjkmgpiiamffgaa

noncomputable def pb (p : Prop) : Bool := @decide p (Classical.propDecidable p)
theorem pb_true {p : Prop} (h : p) : pb p = true := by unfold pb; exact @decide_eq_true p (Classical.propDecidable p) h
theorem pb_false {p : Prop} (h : ¬ p) : pb p = false := by unfold pb; exact @decide_eq_false p (Classical.propDecidable p) h
theorem pb_iff {p : Prop} : pb p = true ↔ p := ⟨fun h => by unfold pb at h; exact @of_decide_eq_true p (Classical.propDecidable p) h, pb_true⟩
theorem pb_congr {p q : Prop} (h : p ↔ q) : pb p = pb q := by rw [propext h]

def InR (n lo hi : Int) : Prop := lo ≤ n ∧ n ≤ hi
def RowOk (a : List (List Int)) (i : Nat) : Prop := (gr a i).length = (gr a 0).length ∧ ∀ j, j < (gr a i).length → InR (gi (gr a i) j) (-9) 9
/-- A table: one to three rows of as many numbers, one to three, from -9 to 9. -/
structure VT (a : List (List Int)) : Prop where
  rows : ∀ i, i < a.length → RowOk a i
  n1 : 1 ≤ a.length
  n3 : a.length ≤ 3
  m1 : 1 ≤ (gr a 0).length
  m3 : (gr a 0).length ≤ 3

def RowV (r : List Int) : Prop := 1 ≤ r.length ∧ r.length ≤ 3 ∧ ∀ j, j < r.length → InR (gi r j) (-9) 9
theorem RowV_no {r : List Int} {j : Nat} (hj : j < r.length) (h : ¬ InR (gi r j) (-9) 9) : pb (RowV r) = false := pb_false fun v => h (v.2.2 j hj)
theorem VT_rowV {a : List (List Int)} (v : VT a) {i : Nat} (hi : i < a.length) : RowV (gr a i) := by
  have h := v.rows i hi
  have h1 := v.m1
  have h3 := v.m3
  exact ⟨by rw [h.1]; exact h1, by rw [h.1]; exact h3, h.2⟩
theorem VT_of {a : List (List Int)} (h1 : 1 ≤ a.length) (h3 : a.length ≤ 3) (h : ∀ i, i < a.length → (gr a i).length = (gr a 0).length ∧ RowV (gr a i)) : VT a :=
  ⟨fun i hi => ⟨(h i hi).1, (h i hi).2.2.2⟩, h1, h3, (h 0 (by omega)).2.1, (h 0 (by omega)).2.2.1⟩

structure VG (a b : List (List Int)) : Prop where
  ta : VT a
  tb : VT b
  n : a.length = b.length
  m : (gr a 0).length = (gr b 0).length

def g2 (a : List (List Int)) (i j : Nat) : Int := gi (gr a i) j
theorem VT.bd {a : List (List Int)} (v : VT a) {i j : Nat} (hi : i < a.length) (hj : j < (gr a 0).length) : -9 ≤ g2 a i j ∧ g2 a i j ≤ 9 := by
  have h := v.rows i hi
  exact h.2 j (by rw [h.1]; exact hj)

/-- The changes round four places. -/
def rnd (a b : List (List Int)) (i k j l : Nat) : Int := g2 a k j - g2 a i j + (g2 b k l - g2 b k j) + (g2 a i l - g2 a k l) + (g2 b i j - g2 b i l)
structure NR (a b : List (List Int)) : Prop where
  vg : VG a b
  no : ∀ i k j l, i < a.length → k < a.length → j < (gr a 0).length → l < (gr a 0).length → rnd a b i k j l = 0
theorem NR_half {a b : List (List Int)} (v : VG a b) (h : ∀ i k j l, i < a.length → k < i → j < (gr a 0).length → l < j → rnd a b i k j l = 0) : NR a b := by
  refine ⟨v, fun i k j l hi hk hj hl => ?_⟩
  have s1 : rnd a b i k j l = - rnd a b k i j l := by unfold rnd; omega
  have s2 : rnd a b i k j l = - rnd a b i k l j := by unfold rnd; omega
  have s3 : rnd a b i k j l = rnd a b k i l j := by unfold rnd; omega
  rcases Nat.lt_trichotomy k i with h1 | h1 | h1 <;> rcases Nat.lt_trichotomy l j with h2 | h2 | h2
  · exact h i k j l hi h1 hj h2
  · subst h2; unfold rnd; omega
  · rw [s2, h i k l j hi h1 hl h2]; rfl
  · subst h1; unfold rnd; omega
  · subst h1; unfold rnd; omega
  · subst h1; unfold rnd; omega
  · rw [s1, h k i j l hk h1 hj h2]; rfl
  · subst h2; unfold rnd; omega
  · rw [s3, h k i l j hk h1 hl h2]

/-- The least of the first k + 1 numbers; of a row. -/
def mn (xs : List Int) : Nat → Int
  | 0 => gi xs 0
  | k + 1 => min (mn xs k) (gi xs (k + 1))
def lst (xs : List Int) : Int := mn xs (xs.length - 1)
theorem mn_bd {xs : List Int} {lo hi : Int} : ∀ {k : Nat}, (∀ j, j ≤ k → lo ≤ gi xs j ∧ gi xs j ≤ hi) → lo ≤ mn xs k ∧ mn xs k ≤ hi
  | 0, h => h 0 (Nat.le_refl _)
  | k + 1, h => by
    have h1 := mn_bd (k := k) fun j hj => h j (by omega)
    have h2 := h (k + 1) (Nat.le_refl _)
    simp only [mn]
    omega
/-- The first row with the greatest least number, of the first k rows. -/
def bst (a : List (List Int)) : Nat → Nat
  | 0 => 0
  | k + 1 => if lst (gr a (bst a k)) < lst (gr a k) then k else bst a k
theorem bst_one (a : List (List Int)) : bst a 1 = 0 := by simp [bst]
theorem bst_lt (a : List (List Int)) : ∀ {k : Nat}, 0 < k → bst a k < k
  | 0, h => absurd h (by omega)
  | k + 1, _ => by
    rw [bst]
    split
    · omega
    · rcases Nat.eq_zero_or_pos k with h | h
      · subst h; simp [bst]
      · have := bst_lt a h; omega
theorem bst_up {a : List (List Int)} {k : Nat} (h : lst (gr a (bst a k)) < lst (gr a k)) : bst a (k + 1) = k := by rw [bst, if_pos h]
theorem bst_same {a : List (List Int)} {k : Nat} (h : ¬ lst (gr a (bst a k)) < lst (gr a k)) : bst a (k + 1) = bst a k := by rw [bst, if_neg h]

/-- Neither player has more by another act. -/
def RestAt (a b : List (List Int)) (n m i j : Nat) : Prop := (∀ k, k < n → g2 a k j ≤ g2 a i j) ∧ ∀ k, k < m → g2 b i k ≤ g2 b i j
noncomputable def rowRests (a b : List (List Int)) (n m i : Nat) : Nat → List (List Int)
  | 0 => []
  | j + 1 => rowRests a b n m i j ++ (if pb (RestAt a b n m i j) = true then [[(i : Int), (j : Int)]] else [])
noncomputable def allRests (a b : List (List Int)) (n m : Nat) : Nat → List (List Int)
  | 0 => []
  | i + 1 => allRests a b n m i ++ rowRests a b n m i m
noncomputable def pureR (a b : List (List Int)) : List (List Int) := if pb (VG a b) = true then allRests a b a.length (gr a 0).length a.length else []
theorem rowRests_yes {a b : List (List Int)} {n m i j : Nat} (h : RestAt a b n m i j) : rowRests a b n m i (j + 1) = rowRests a b n m i j ++ [[(i : Int), (j : Int)]] := by rw [rowRests, if_pos (pb_true h)]
theorem rowRests_no {a b : List (List Int)} {n m i j : Nat} (h : ¬ RestAt a b n m i j) : rowRests a b n m i (j + 1) = rowRests a b n m i j := by rw [rowRests, if_neg (by rw [pb_false h]; decide), List.append_nil]
theorem rowRests_len (a b : List (List Int)) (n m i : Nat) : ∀ j, (rowRests a b n m i j).length ≤ j
  | 0 => by simp [rowRests]
  | j + 1 => by
    have := rowRests_len a b n m i j
    rw [rowRests, List.length_append]
    split <;> simp <;> omega
theorem allRests_len (a b : List (List Int)) (n m : Nat) (hm : m ≤ 3) : ∀ i, (allRests a b n m i).length ≤ 3 * i
  | 0 => by simp [allRests]
  | i + 1 => by
    have h1 := allRests_len a b n m hm i
    have h2 := rowRests_len a b n m i m
    rw [allRests, List.length_append]
    omega

end Go.Proofs.Ytjkmgpiiamffgaa

/- A valid table in memory, every cell by its row and its column. -/
namespace Go.Proofs.Ytjkmgpiiamffgaa
open Go.RowKit

structure Tab (w : World) (b o : Nat) (rb ro cc : Nat → Nat) (n m : Nat) (xs : List (List Int)) : Prop where
  row : ∀ i, i < n → w.cell? ⟨b, o + i, none⟩ = some (.slice (some ⟨rb i, ro i, none⟩) m (cc i))
  cell : ∀ i j, i < n → j < m → w.cell? ⟨rb i, ro i + j, none⟩ = some (.int .i64 (g2 xs i j))
  bd : ∀ i j, i < n → j < m → -9 ≤ g2 xs i j ∧ g2 xs i j ≤ 9
  n1 : 1 ≤ n
  n3 : n ≤ 3
  m1 : 1 ≤ m
  m3 : m ≤ 3
  cap : ∀ i, i < n → m ≤ cc i
  ints : ∀ i, i < n → Ints w (some ⟨rb i, ro i, none⟩) m (cc i) (gr xs i)
theorem Tab.keep {w w' : World} {b o rb ro cc n m xs} (h : Tab w b o rb ro cc n m xs) (k : Keep w w') : Tab w' b o rb ro cc n m xs :=
  ⟨fun i hi => k _ _ (h.row i hi), fun i j hi hj => k _ _ (h.cell i j hi hj), h.bd, h.n1, h.n3, h.m1, h.m3, h.cap, fun i hi => (h.ints i hi).keep k⟩

theorem IntRows.tab {w A n c xs} (h : IntRows w A n c xs) (v : VT xs) : ∃ b o rb ro cc, A = some ⟨b, o, none⟩ ∧ Tab w b o rb ro cc n (gr xs 0).length xs := by
  have hl := h.len
  have n1 := v.n1
  have n3 := v.n3
  obtain ⟨b, o, rfl, hr⟩ := h.at_ (by omega)
  have each : ∀ i, i < n → ∃ y : Nat × Nat × Nat, w.cell? ⟨b, o + i, none⟩ = some (.slice (some ⟨y.1, y.2.1, none⟩) (gr xs 0).length y.2.2) ∧ (gr xs 0).length ≤ y.2.2 ∧
      (∀ j, j < (gr xs 0).length → w.cell? ⟨y.1, y.2.1 + j, none⟩ = some (.int .i64 (g2 xs i j))) ∧ Ints w (some ⟨y.1, y.2.1, none⟩) (gr xs 0).length y.2.2 (gr xs i) := by
    intro i hi
    obtain ⟨R, c', h1, h2⟩ := hr i hi
    have hrow := (v.rows i (by omega)).1
    have m1 := v.m1
    obtain ⟨b2, o2, rfl, hc⟩ := h2.at_ (by omega)
    refine ⟨(b2, o2, c'), by rw [← hrow]; exact h1, by rw [← hrow]; exact h2.cap, fun j hj => hc j (by omega), by rw [← hrow]; exact h2⟩
  obtain ⟨y, hy⟩ := Go.Deep.choose_lt each
  exact ⟨b, o, fun i => (y i).1, fun i => (y i).2.1, fun i => (y i).2.2, rfl, ⟨fun i hi => (hy i hi).1, fun i j hi hj => (hy i hi).2.2.1 j hj, fun i j hi hj => v.bd (by omega) hj, by omega, by omega, v.m1, v.m3, fun i hi => (hy i hi).2.1, fun i hi => (hy i hi).2.2.2⟩⟩

/-- Where a valid game lies: both tables' places. -/
structure GP where
  ba : Nat
  oa : Nat
  bb : Nat
  ob : Nat
  ra : Nat → Nat
  pa : Nat → Nat
  ca : Nat → Nat
  rb : Nat → Nat
  pb : Nat → Nat
  cb : Nat → Nat
  n : Nat
  m : Nat
  c : Nat
  d : Nat
structure GV (p : GP) (w : World) (xs ys : List (List Int)) : Prop where
  tx : Tab w p.ba p.oa p.ra p.pa p.ca p.n p.m xs
  ty : Tab w p.bb p.ob p.rb p.pb p.cb p.n p.m ys
  lx : xs.length = p.n
  mx : (gr xs 0).length = p.m
  capx : p.n ≤ p.c
  capy : p.n ≤ p.d
theorem GV.keep {p w w' xs ys} (h : GV p w xs ys) (k : Keep w w') : GV p w' xs ys := ⟨h.tx.keep k, h.ty.keep k, h.lx, h.mx, h.capx, h.capy⟩
theorem GV.of {w A B n c m d xs ys} (hx : IntRows w A n c xs) (hy : IntRows w B m d ys) (v : VG xs ys) :
    ∃ p : GP, A = some ⟨p.ba, p.oa, none⟩ ∧ B = some ⟨p.bb, p.ob, none⟩ ∧ n = p.n ∧ m = p.n ∧ c = p.c ∧ d = p.d ∧ GV p w xs ys := by
  obtain ⟨ba, oa, ra, pa, ca, rfl, tx⟩ := hx.tab v.ta
  obtain ⟨bb, ob, rb, pb, cb, rfl, ty⟩ := hy.tab v.tb
  have h1 := hx.len
  have h2 := hy.len
  have h3 := v.n
  obtain rfl : m = n := by omega
  exact ⟨⟨ba, oa, bb, ob, ra, pa, ca, rb, pb, cb, m, (gr xs 0).length, c, d⟩, rfl, rfl, rfl, rfl, rfl, rfl, tx, by rw [v.m]; exact ty, h1, rfl, hx.cap, hy.cap⟩

/-- A game that a function took by value: in its box g, with both tables. -/
structure GT (p : GP) (w0 w : World) (g : Nat) (xs ys : List (List Int)) : Prop where
  below : Below w0.heap.size w0 w
  box : Blk w g 54 #[.slice (some ⟨p.ba, p.oa, none⟩) p.n p.c, .slice (some ⟨p.bb, p.ob, none⟩) p.n p.d]
  gv0 : GV p w0 xs ys
theorem GT.gv {p w0 w g xs ys} (h : GT p w0 w g xs ys) : GV p w xs ys := h.gv0.keep (Keep.below h.below)
theorem GT.up {p w0 w w' g xs ys} (h : GT p w0 w g xs ys) (k : Below w.heap.size w w') : GT p w0 w' g xs ys :=
  ⟨below_up h.below k, blk_below h.box k, h.gv0⟩
theorem GT.up2 {p w0 w w' g xs ys} {B : Nat} (h : GT p w0 w g xs ys) (k : Below B w w') (hB : w0.heap.size ≤ B) (hg : g < B) : GT p w0 w' g xs ys :=
  ⟨h.below.trans (k.mono hB), (k.block g hg).trans h.box, h.gv0⟩
theorem GT.qu {p w0 w w' g xs ys} (h : GT p w0 w g xs ys) (k : Quiet w w') : GT p w0 w' g xs ys := h.up k.below
theorem GT.start {p w xs ys} (h : GV p w xs ys) : GT p w (w.alloc (.cells #[.slice (some ⟨p.ba, p.oa, none⟩) p.n p.c, .slice (some ⟨p.bb, p.ob, none⟩) p.n p.d] 54)) w.heap.size xs ys :=
  ⟨below_alloc _ _, blk_new _ _ _, h⟩
theorem GT.c0 {p w0 w g xs ys} (h : GT p w0 w g xs ys) : w.cell? ⟨g, 0, none⟩ = some (.slice (some ⟨p.ba, p.oa, none⟩) p.n p.c) := blk_cell h.box rfl
theorem GT.c1 {p w0 w g xs ys} (h : GT p w0 w g xs ys) : w.cell? ⟨g, 1, none⟩ = some (.slice (some ⟨p.bb, p.ob, none⟩) p.n p.d) := blk_cell h.box rfl
end Go.Proofs.Ytjkmgpiiamffgaa

