/- Texts merged: A4 A5 R3 R4 R5 R6 LitI R7 R8 R9. -/
import Derived.Test.YtgmicblfegjbnaaQ1
import Derived.Deep.RegionHeld3
/- What an exact law on a game knows at each step. -/
namespace Go.Proofs.Ytgmicblfegjbnaa
open Go.RowKit

end Go.Proofs.Ytgmicblfegjbnaa

/- The harness of the exact laws: every cell marked by a number of its own, and looked at again. -/
namespace Go.Proofs.Ytgmicblfegjbnaa
open Go.RowKit

def seqI (k : Int) (n : Nat) : List Int := (List.range n).map fun (i : Nat) => k + (i : Int)
theorem seqI_len (k : Int) (n : Nat) : (seqI k n).length = n := by simp [seqI]
theorem gi_seqI {k : Int} {n i : Nat} (h : i < n) : gi (seqI k n) i = k + i := by rw [gi_get (by rw [seqI_len]; exact h)]; simp [seqI]
theorem gi_set_eq {xs : List Int} {i : Nat} {v : Int} (h : i < xs.length) : gi (xs.set i v) i = v := by rw [gi_get (by simpa using h)]; simp
theorem gi_set_ne {xs : List Int} {i j : Nat} {v : Int} (h : j < xs.length) (hne : j ≠ i) : gi (xs.set i v) j = gi xs j := by
  rw [gi_get (by simpa using h), gi_get h, List.getElem_set]; simp [Ne.symm hne]

/-- Only block b has turned. -/
structure One (b : Nat) (w w' : World) : Prop where
  os : w'.os = w.os
  tape : w'.tape = w.tape
  output : w'.output = w.output
  size : w'.heap.size = w.heap.size
  block : ∀ g, g ≠ b → w'.heap[g]? = w.heap[g]?
theorem One.refl (b : Nat) (w : World) : One b w w := ⟨rfl, rfl, rfl, rfl, fun _ _ => rfl⟩
theorem One.set {b : Nat} {a w : World} (h : One b a w) (i : Nat) (u : Value) : One b a (w.setCell ⟨b, i, none⟩ u) :=
  ⟨h.os, h.tape, h.output, by simpa [World.setCell] using h.size, fun g hg => (Below.heap_setCell _ _ _ _ hg).trans (h.block g hg)⟩
theorem One.touch {b lo hi : Nat} {w w' : World} (h : One b w w') (h1 : lo ≤ b) (h2 : b < hi) : Touch lo hi w w' := ⟨h.os, h.tape, h.output, h.size, fun k hk => h.block k (by omega)⟩

theorem OwnI.set {lo hi w b o n c xs} (h : OwnI lo hi w b (some ⟨b, o, none⟩) n c xs) {i : Nat} (hi' : i < n) {v : Int} (hv : -9223372036854775808 ≤ v ∧ v ≤ 9223372036854775807) :
    OwnI lo hi (w.setCell ⟨b, o + i, none⟩ (.int .i64 v)) b (some ⟨b, o, none⟩) n c (xs.set i v) := by
  have hl := h.ints.len
  obtain ⟨o', e, h1, h2, hf⟩ := h.own (by omega)
  injection e with e
  injection e with _ e _
  subst e
  obtain ⟨b', o', e, hc⟩ := h.ints.at_ (by omega)
  injection e with e
  injection e with e1 e2 _
  subst e1
  subst e2
  refine ⟨⟨by rw [List.length_set]; exact hl, h.ints.cap, h.ints.max, fun x hx => ?_, fun _ => ⟨b, o, rfl, fun k hk => ?_⟩⟩, fun _ => ⟨o, rfl, h1, h2, fun k hk => ?_⟩⟩
  · rcases List.mem_or_eq_of_mem_set hx with hx | rfl
    · exact h.ints.wf x hx
    · exact hv
  · by_cases e : k = i
    · subst e
      rw [gi_set_eq (by omega), World.cell?_setCell_same w _ _ (hc k hk)]
    · rw [gi_set_ne (by omega) e, World.cell?_setCell_other w _ _ _ (fun e' => by injection e' with _ e' _; omega)]
      exact hc k hk
  · rw [World.frozen?_setCell]; exact hf k hk

def MarkedI (lo hi : Nat) (w : World) (b : Nat) (A : Option Addr) (n c : Nat) (k : Int) (e : Ending) (w' : World) : Prop :=
  e = .returned (.int .i64 (k + n)) ∧ OwnI lo hi w' b A n c (seqI k n) ∧ (n = 0 → w = w') ∧ One b w w'

/-- How many numbers stand ahead of row j; the rows as they are marked. -/
def offs (xss : List (List Int)) : Nat → Int
  | 0 => 0
  | j + 1 => offs xss j + (gr xss j).length
theorem offs_ge (xss : List (List Int)) : ∀ j, 0 ≤ offs xss j
  | 0 => Int.le_refl _
  | j + 1 => by have := offs_ge xss j; simp only [offs]; omega
theorem offs_mono (xss : List (List Int)) {i j : Nat} (h : i ≤ j) : offs xss i ≤ offs xss j := by
  induction j with
  | zero => obtain rfl : i = 0 := by omega
            exact Int.le_refl _
  | succ j ih =>
    by_cases e : i = j + 1
    · subst e; exact Int.le_refl _
    · have := ih (by omega); simp only [offs]; omega
def mkR (k : Int) (xss : List (List Int)) : List (List Int) := (List.range xss.length).map fun j => seqI (k + offs xss j) (gr xss j).length
theorem mkR_len (k : Int) (xss : List (List Int)) : (mkR k xss).length = xss.length := by simp [mkR]
theorem gr_mkR {k : Int} {xss : List (List Int)} {j : Nat} (h : j < xss.length) : gr (mkR k xss) j = seqI (k + offs xss j) (gr xss j).length := by
  rw [gr_get (by rw [mkR_len]; exact h)]; simp [mkR]

theorem gr_set_eq {xs : List (List Int)} {i : Nat} {v : List Int} (h : i < xs.length) : gr (xs.set i v) i = v := by rw [gr_get (by simpa using h)]; simp
theorem gr_set_ne {xs : List (List Int)} {i j : Nat} {v : List Int} (hne : j ≠ i) : gr (xs.set i v) j = gr xs j := by
  unfold gr; rw [List.getD_eq_getElem?_getD, List.getD_eq_getElem?_getD, List.getElem?_set_ne (Ne.symm hne)]

/-- A row of its own, and what comes of the rows when it alone is written. -/
theorem OwnR.at_row {lo hi w b A n c xss} (h : OwnR lo hi w b A n c xss) {i : Nat} (hi' : i < n) :
    ∃ o g R cc, A = some ⟨b, o, none⟩ ∧ w.cell? ⟨b, o + i, none⟩ = some (.slice R (gr xss i).length cc) ∧ OwnI lo hi w g R (gr xss i).length cc (gr xss i) ∧
      ∀ w' r, r.length = (gr xss i).length → OwnI lo hi w' g R (gr xss i).length cc r → ((gr xss i).length = 0 → w = w') → One g w w' → OwnR lo hi w' b A n c (xss.set i r) ∧ Touch lo hi w w' := by
  obtain ⟨o, G, R, C, rfl, h1, h2, hr, hd⟩ := h.at_ (by omega)
  have hl := h.len
  refine ⟨o, G i, R i, C i, rfl, (hr i hi').2.1, (hr i hi').2.2.1, fun w' r hrl hown h0 hone => ?_⟩
  have hsame : ∀ g, (0 < (gr xss i).length → g ≠ G i) → w'.heap[g]? = w.heap[g]? := fun g hg => by
    by_cases e : 0 < (gr xss i).length
    · exact hone.block g (hg e)
    · rw [h0 (by omega)]
  refine ⟨⟨by rw [List.length_set]; exact hl, h.cap, h.max, fun _ => ⟨o, G, R, C, rfl, h1, h2, fun k hk => ?_, fun j k hjk hk hj0 hk0 => ?_⟩⟩, ?_⟩
  · have eb := hsame b (fun hp => (Ne.symm ((hr i hi').2.2.2 hp)))
    have el : (gr (xss.set i r) k).length = (gr xss k).length := by
      by_cases e : k = i
      · subst e; rw [gr_set_eq (by omega), hrl]
      · rw [gr_set_ne e]
    rw [el]
    refine ⟨by rw [World.frozen?_of_block (w := w) eb]; exact (hr k hk).1, by rw [World.cell?_of_block (w := w) eb]; exact (hr k hk).2.1, ?_, (hr k hk).2.2.2⟩
    by_cases e : k = i
    · subst e; rw [gr_set_eq (by omega)]; exact hown
    · rw [gr_set_ne e]
      exact (hr k hk).2.2.1.of_block fun hp => hsame _ fun hp' => by
        rcases Nat.lt_or_gt_of_ne e with h | h
        · exact hd k i h hi' hp hp'
        · exact Ne.symm (hd i k h hk hp' hp)
  · have el : ∀ k, (gr (xss.set i r) k).length = (gr xss k).length := fun k => by
      by_cases e : k = i
      · subst e; rw [gr_set_eq (by omega), hrl]
      · rw [gr_set_ne e]
    rw [el] at hj0 hk0
    exact hd j k hjk hk hj0 hk0
  · by_cases e : 0 < (gr xss i).length
    · obtain ⟨_, _, q1, q2, _⟩ := (hr i hi').2.2.1.own e
      exact hone.touch q1 q2
    · rw [h0 (by omega)]; exact Touch.refl _ _ _

def MarkedR (lo hi : Nat) (w : World) (b : Nat) (A : Option Addr) (n c : Nat) (xss : List (List Int)) (k : Int) (e : Ending) (w' : World) : Prop :=
  e = .returned (.int .i64 (k + offs xss n)) ∧ OwnR lo hi w' b A n c (mkR k xss) ∧ Touch lo hi w w'

end Go.Proofs.Ytgmicblfegjbnaa

/- The reader made; one of some numbers. -/
namespace Go.Proofs.Ytgmicblfegjbnaa
open Go.RowKit

def MadeRdr (w : World) (l : Nat) (e : Ending) (w' : World) : Prop :=
  ∃ A n c, e = .returned (.pointer (some ⟨w.heap.size, 0, none⟩)) ∧ n = min l 2000 ∧ Rdr w w' w.heap.size A n c 0 ∧ w'.heap.size = w.heap.size + 1

theorem Bytes.cut {w A n c} (h : Bytes w A n c) (hn : 2000 < n) : Bytes w A 2000 c :=
  ⟨by have := h.cap; omega, by omega, fun _ => let ⟨b, o, e, hc⟩ := h.at_ (by omega); ⟨b, o, e, fun k hk => hc k (by omega)⟩⟩

set_option maxHeartbeats 400000 in
theorem newReader_any (A : Option Addr) (n c : Nat) (w : World) (h : Bytes w A n c) :
    Calls Try.prog 56 #[.slice A n c] w (MadeRdr w n) := by
  have hm := h.max
  have hcap := h.cap
  by_cases hn : 2000 < n
  · obtain ⟨b, o, rfl, _⟩ := h.at_ (by omega)
    have HR := Lib.hid (show Rdr w (w.alloc (.cells #[.slice (some ⟨b, o, none⟩) 2000 c, .int .i64 0] 70)) w.heap.size (some ⟨b, o, none⟩) 2000 c 0 from
      ⟨blk_new _ _ _, h.cut hn, below_alloc _ _, Nat.le_refl _, Nat.le_refl _⟩)
    have HM := Lib.hid (show 2000 = min n 2000 by omega)
    have hc2 : 2000 ≤ c := by omega
    clear h
    go_enter Try.func56, Try.ntmps56
    go_wp2
    go_ret
    exact ⟨_, _, _, rfl, HM.out, HR.out, by simp⟩
  · have HR := Lib.hid (show Rdr w (w.alloc (.cells #[.slice A n c, .int .i64 0] 70)) w.heap.size A n c 0 from
      ⟨blk_new _ _ _, h, below_alloc _ _, Nat.le_refl _, by omega⟩)
    have HM := Lib.hid (show n = min n 2000 by omega)
    clear h
    go_enter Try.func56, Try.ntmps56
    go_wp2
    go_ret
    exact ⟨_, _, _, rfl, HM.out, HR.out, by simp⟩

/-- Some draws by the reader in block g: it alone has turned, p has grown by some; new blocks may be there. -/
structure Drawn (w0 : World) (g : Nat) (A : Option Addr) (l c p p' : Nat) (w w' : World) : Prop where
  rd : Rdr w0 w' g A l c p'
  grown : w.grownBy w' (some g)

theorem One.grown {g : Nat} {w w' : World} (h : One g w w') : w.grownBy w' (some g) := ⟨h.os, h.tape, h.output, by rw [h.size]; exact Nat.le_refl _, fun k _ hne => h.block k (fun e => hne (by rw [e]))⟩
theorem Rdr.one {g : Nat} (w : World) (v : Value) (q : Nat) : One g w ((w.setCell ⟨g, 1, none⟩ v).drewN q) :=
  let h := (One.refl g w).set 1 v
  ⟨h.os, h.tape, h.output, h.size, h.block⟩
theorem Rdr.below_ {w0 w w' g A n c p} (h : Rdr w0 w g A n c p) (k : Below w.heap.size w w') : Rdr w0 w' g A n c p :=
  ⟨blk_below h.box k, h.bytes, below_up h.below k, h.lt, h.small⟩

def OneOf (w0 : World) (g : Nat) (A : Option Addr) (l c p : Nat) (xs : List Int) (w : World) (e : Ending) (w' : World) : Prop :=
  ∃ x, e = .returned (.int .i64 x) ∧ x ∈ xs ∧ Rdr w0 w' g A l c (p + 1) ∧ One g w w'

set_option maxHeartbeats 400000 in
theorem one_any (w0 w : World) (g : Nat) (A : Option Addr) (l c p : Nat) (B : Option Addr) (n d : Nat) (xs : List Int) (h : Rdr w0 w g A l c p) (hp : p < 1000000000)
    (hx : Ints w B n d xs) (h0 : 0 < n) (hne : ∀ b o, B = some ⟨b, o, none⟩ → b ≠ g) :
    Calls Try.prog 60 #[.pointer (some ⟨g, 0, none⟩), .slice B n d] w (OneOf w0 g A l c p xs w) := by
  have hm := hx.max
  have HX := Lib.hid hx
  have HC := Lib.hid (pick_any w0 w g A l c p n h hp)
  have HNE := Lib.hid hne
  obtain ⟨b, o, rfl, _⟩ := hx.at_ h0
  clear h hx hne
  go_enter Try.func60, Try.ntmps60
  go_wp2_with fail
  refine HC.out.mono ?_
  rintro e w1 ⟨m, rfl, hm1, _, hr, q, hw⟩
  have H1 := Lib.hid hr
  have hone := Rdr.one (g := g) w (.int .i64 (p + 1 : Nat)) q
  rw [← hw] at hone
  have HO := Lib.hid hone
  obtain ⟨m0, m1⟩ := hm1 (by omega)
  obtain ⟨k, rfl⟩ := Int.eq_ofNat_of_zero_le m0
  have hk : k < n := by omega
  obtain ⟨b', o', e', hc⟩ := HX.out.at_ h0
  injection e' with e'
  injection e' with e1 e2 _
  subst e1
  subst e2
  have ck := hc k hk
  rw [← World.cell?_of_block (w := w) (w' := w1) (hone.block b (HNE.out b o rfl))] at ck
  have HM := Lib.hid (gi_mem (xs := xs) (k := k) (by rw [HX.out.len]; exact hk))
  clear hr hone hc hm1 hw HC HX
  go_wp2
  go_ret
  exact ⟨_, rfl, HM.out, H1.out, HO.out⟩
end Go.Proofs.Ytgmicblfegjbnaa

/- A table drawn. -/
namespace Go.Proofs.Ytgmicblfegjbnaa
open Go.RowKit

theorem grown_below {g : Nat} {a b w : World} (h : a.grownBy b (some g)) (k : Below b.heap.size b w) : a.grownBy w (some g) :=
  ⟨k.os.trans h.os, k.tape.trans h.tape, k.output.trans h.output, Nat.le_trans h.size k.size, fun i hi hne => (k.block i (Nat.lt_of_lt_of_le hi h.size)).trans (h.block i hi hne)⟩
/-- An append onto a row from lo on. -/
theorem grown_app {g : Nat} {a b w : World} {row : Option Nat} (h : a.grownBy b (some g)) (k : b.grownBy w row) (hr : ∀ x, row = some x → a.heap.size ≤ x) : a.grownBy w (some g) :=
  ⟨k.os.trans h.os, k.tape.trans h.tape, k.output.trans h.output, Nat.le_trans h.size k.size, fun i hi hne => (k.block i (Nat.lt_of_lt_of_le hi h.size) (fun e => by have := hr i e.symm; omega)).trans (h.block i hi hne)⟩

/-- A table under way: the reader, the rows that are there. -/
structure TO (w0 wb : World) (g : Nat) (A : Option Addr) (l c p : Nat) (v : Value) (vs : List Value) (xss : List (List Int)) (w : World) : Prop where
  rd : Rdr w0 w g A l c p
  bo : Bld wb.heap.size w.heap.size w v vs xss
  gl : g < wb.heap.size
  up : wb.grownBy w (some g)
/-- .. and the row that is begun. -/
structure TI (w0 wb : World) (g : Nat) (A : Option Addr) (l c p H : Nat) (v : Value) (vs : List Value) (xss : List (List Int)) (u : Value) (ys : List Int) (w : World) : Prop where
  rd : Rdr w0 w g A l c p
  bo : Bld wb.heap.size H w v vs xss
  bi : BldI H w.heap.size w u ys
  gl : g < wb.heap.size
  lh : wb.heap.size ≤ H
  hs : H ≤ w.heap.size
  up : wb.grownBy w (some g)
theorem TO.start {w0 wb g A l c p} (h : Rdr w0 wb g A l c p) :
    TO w0 wb g A l c p (.slice (some ⟨wb.heap.size, 0, none⟩) 0 0) [] [] (wb.alloc (.cells #[] 43)) :=
  ⟨h.below_ (below_alloc _ _), by rw [World.size_alloc]; exact Bld.make (Nat.le_refl _), blk_lt h.box, World.grownBy_alloc _ _ _⟩
theorem TO.row {w0 wb g A l c p v vs xss w} (h : TO w0 wb g A l c p v vs xss w) :
    TI w0 wb g A l c p w.heap.size v vs xss (.slice (some ⟨w.heap.size, 0, none⟩) 0 0) [] (w.alloc (.cells #[] 3)) :=
  ⟨h.rd.below_ (below_alloc _ _), h.bo.below (below_alloc _ _), by rw [World.size_alloc]; exact BldI.make (Nat.le_refl _), h.gl, h.up.size, by simp, grown_below h.up (below_alloc _ _)⟩
theorem TI.one {w0 wb g A l c p p' H v vs xss u ys w w'} (h : TI w0 wb g A l c p H v vs xss u ys w) (hr : Rdr w0 w' g A l c p') (ho : One g w w') :
    TI w0 wb g A l c p' H v vs xss u ys w' := by
  have hgl := h.gl
  have hlh := h.lh
  refine ⟨hr, h.bo.of_blocks fun k h1 _ _ => ho.block k (by omega), ?_, h.gl, h.lh, by rw [ho.size]; exact h.hs, ?_⟩
  · rw [ho.size]; exact h.bi.of_blocks fun k h1 _ _ => ho.block k (by omega)
  · exact ⟨ho.os.trans h.up.os, ho.tape.trans h.up.tape, ho.output.trans h.up.output, by rw [ho.size]; exact h.up.size, fun k hk hne => (ho.block k (fun e => hne (by rw [e]))).trans (h.up.block k hk hne)⟩
theorem TI.push {w0 wb g A l c p H v vs xss u u' ys w w' x} (h : TI w0 wb g A l c p H v vs xss u ys w)
    (hown : w'.ownsRow H 3 1 u' (ys.length + 1) (ys.map iv ++ [iv x])) (hgrow : (w.alloc (.cells #[iv x] 3)).grownBy w' u.ownBlock)
    (hat : u'.ownBlock = u.ownBlock ∨ u'.ownBlock = some (w.heap.size + 1)) : TI w0 wb g A l c p H v vs xss u' (ys ++ [x]) w' := by
  have hgl := h.gl
  have hlh := h.lh
  have hhs := h.hs
  have hsz := hgrow.size
  simp only [World.size_alloc] at hsz
  have hu : ∀ k, u.ownBlock = some k → H ≤ k := fun k hk => (h.bi.own.lt k hk).1
  have hbelow : ∀ k, k < H → w'.heap[k]? = w.heap[k]? := fun k hk =>
    (hgrow.block k (by simp; omega) (fun e => by have := hu k e.symm; omega)).trans (Below.heap_alloc _ _ _ (by omega))
  refine ⟨⟨(hbelow g (by omega)).trans h.rd.box, h.rd.bytes, ?_, h.rd.lt, h.rd.small⟩, h.bo.of_blocks fun k _ hk _ => hbelow k hk, ⟨by rw [List.length_append, List.length_singleton, List.map_append]; exact hown, fun k hk => ?_⟩, h.gl, h.lh, by omega, ?_⟩
  · exact ⟨hgrow.os.trans h.rd.below.os, hgrow.tape.trans h.rd.below.tape, hgrow.output.trans h.rd.below.output, by have := h.rd.below.size; omega, fun k hk => (hbelow k (by have := h.rd.lt; omega)).trans (h.rd.below.block k hk)⟩
  · rcases hat with hat | hat
    · have := h.bi.hi_ k (by rw [← hat]; exact hk); omega
    · have := (hown.lt k hk).2; omega
  · exact grown_app (grown_below h.up (below_alloc _ _)) hgrow fun k hk => by have := hu k hk; omega
theorem TI.done {w0 wb g A l c p H v v' vs xss ys w w' Ar cr gr_} (h : TI w0 wb g A l c p H v vs xss (.slice Ar ys.length cr) ys w) (ho : OwnI H w.heap.size w gr_ Ar ys.length cr ys)
    (hown : w'.ownsRow wb.heap.size 43 1 v' (xss.length + 1) (vs ++ [.slice Ar ys.length cr])) (hgrow : (w.alloc (.cells #[.slice Ar ys.length cr] 43)).grownBy w' v.ownBlock)
    (hat : v'.ownBlock = v.ownBlock ∨ v'.ownBlock = some (w.heap.size + 1)) : TO w0 wb g A l c p v' (vs ++ [.slice Ar ys.length cr]) (xss ++ [ys]) w' := by
  have hgl := h.gl
  have hlh := h.lh
  have hhs := h.hs
  have hsz := hgrow.size
  simp only [World.size_alloc] at hsz
  have hv : ∀ k, v.ownBlock = some k → wb.heap.size ≤ k := fun k hk => (h.bo.own.lt k hk).1
  have hbelow : ∀ k, k < wb.heap.size → w'.heap[k]? = w.heap[k]? := fun k hk =>
    (hgrow.block k (by simp; omega) (fun e => by have := hv k e.symm; omega)).trans (Below.heap_alloc _ _ _ (by omega))
  have hb := below_alloc w (.cells #[.slice Ar ys.length cr] 43)
  refine ⟨⟨(hbelow g hgl).trans h.rd.box, h.rd.bytes, ?_, h.rd.lt, h.rd.small⟩, ?_, h.gl, ?_⟩
  · exact ⟨hgrow.os.trans h.rd.below.os, hgrow.tape.trans h.rd.below.tape, hgrow.output.trans h.rd.below.output, by have := h.rd.below.size; omega, fun k hk => (hbelow k (by have := h.rd.lt; omega)).trans (h.rd.below.block k hk)⟩
  · have hbo : Bld wb.heap.size H w v vs xss := h.bo
    exact Bld.push (hi := H) (w := w) hbo hb ((ho.below hb).mono (Nat.le_refl _) (by simp)) hown hgrow (by simpa using hat) hlh hhs
  · exact grown_app (grown_below h.up hb) hgrow fun k hk => hv k hk
end Go.Proofs.Ytgmicblfegjbnaa

/- A table drawn: the walk. -/
namespace Go.Proofs.Ytgmicblfegjbnaa
open Go.RowKit
theorem Try.info_row : (Try.prog.info? 43).map (fun i => (i.zero, i.size, i.bytes)) = some (some (.slice none 0 0), 1, 24) := by kernel_rfl
theorem Try.info_int : (Try.prog.info? 3).map (fun i => (i.zero, i.size, i.bytes)) = some (some (.int .i64 0), 1, 8) := by kernel_rfl

def RowIn (m : Nat) (lo hi : Int) (r : List Int) : Prop := r.length = m ∧ ∀ x ∈ r, lo ≤ x ∧ x ≤ hi
def TableOut (w0 : World) (g : Nat) (A : Option Addr) (l c p n m : Nat) (lo hi : Int) (w : World) (e : Ending) (w' : World) : Prop :=
  ∃ Av cv vs xss p', e = .returned (.slice Av n cv) ∧ xss.length = n ∧ (∀ r ∈ xss, RowIn m lo hi r) ∧ TO w0 w g A l c p' (.slice Av n cv) vs xss w' ∧ p' ≤ p + 16

set_option maxHeartbeats 1000000 in
theorem tableOf_any (w0 w : World) (g : Nat) (A : Option Addr) (l c p n m : Nat) (lo hi : Int) (h : Rdr w0 w g A l c p) (hp : p < 900000000) (hn : n ≤ 4) (hm : m ≤ 4) (hl1 : -100 ≤ lo) (hl2 : lo ≤ hi) (hl3 : hi ≤ 100) :
    Calls Try.prog 71 #[.pointer (some ⟨g, 0, none⟩), .int .i64 n, .int .i64 m, .int .i64 lo, .int .i64 hi] w (TableOut w0 g A l c p n m lo hi w) := by
  have HS := Lib.hid (TO.start h)
  clear h
  go_enter Try.func71, Try.ntmps71
  go_wp2
  go_loopw [11] (fun v wr => ∃ (xss : List (List Int)) (vs : List Value) (p' : Nat), xss.length ≤ n ∧ p' ≤ p + 4 * xss.length ∧ Hid (∀ r ∈ xss, RowIn m lo hi r) ∧ Hid (TO w0 w g A l c p' v vs xss wr)) (fun v _ => n - (match v with | .slice _ k _ => k | _ => 0))
  case atStart => exact ⟨[], [], p, Nat.zero_le _, by simp, Lib.hid (fun r hr => by simp at hr), HS⟩
  case round =>
    clear HS
    obtain ⟨xss, vs, p', hxn, hpp, HA, HT⟩ := hrel
    obtain ⟨Av, cv, rfl⟩ := HT.out.bo.form
    by_cases hlt : xss.length < n
    · have HI := Lib.hid HT.out.row
      clear HT
      go_wp2
      generalize wr.heap.size = N at *
      go_loopw [12] (fun u wi => ∃ (ys : List Int) (q : Nat), ys.length ≤ m ∧ q ≤ p' + ys.length ∧ Hid (∀ x ∈ ys, lo ≤ x ∧ x ≤ hi) ∧ Hid (TI w0 w g A l c q N (.slice Av xss.length cv) vs xss u ys wi)) (fun u _ => m - (match u with | .slice _ k _ => k | _ => 0))
      case atStart => exact ⟨[], p', Nat.zero_le _, by simp, Lib.hid (fun r hr => by simp at hr), HI⟩
      case round =>
        clear HI
        obtain ⟨ys, q, hym, hq, HR, HI⟩ := hrel
        obtain ⟨Au, cu, rfl⟩ := HI.out.bi.form
        by_cases hlm : ys.length < m
        · have HC := Lib.hid (pick_any w0 _ g A l c q (hi - lo + 1) HI.out.rd (by omega))
          go_wp2_with fail
          refine HC.out.mono ?_
          rintro e w2 ⟨k, rfl, hk1, _, hr, z, hw⟩
          have hone := Rdr.one (g := g) wr (.int .i64 (q + 1 : Nat)) z
          rw [← hw] at hone
          obtain ⟨k0, k1⟩ := hk1 (by omega)
          have HI2 := Lib.hid (HI.out.one hr hone)
          clear hr hone hw hk1 HC HI
          have hb := below_alloc w2 (.cells #[iv (lo + k)] 3)
          have HB4 := Lib.hid (HI2.out.bi.below hb).own
          have HN := Lib.hid (cell_one_new w2 (iv (lo + k)) 3)
          have hHs := HI2.out.hs
          have hlh := HI2.out.lh
          clear hb
          obtain ⟨i0, hi0, hz0, hz1, hz2⟩ := info_parts Try.info_int
          go_wp2_with (at_builtin; refine wpList_append_own_at _ rfl _ _ 43 rfl N 3 i0 (.int .i64 0) 1 8 Try.underlying43 hi0 hz0 hz1 hz2 rfl (by decide) _ ys.length (ys.map iv) rfl HB4.out ⟨w2.heap.size, 0, none⟩ 1 1 [iv (lo + k)] rfl rfl ?c1 ?c2 ?c3 ?c4 ?c5 ?_)
          case c1 => exact HN.out
          case c2 => intro u hu; simp at hu; subst hu; rfl
          case c3 => unfold maxLen; omega
          case c4 => omega
          case c5 => simp; omega
          intro v' w5 hown' hgrow _ hat
          have HI5 := Lib.hid (HI2.out.push hown' hgrow (by simpa using hat))
          clear HB4 HN hown' hgrow hat HI2
          obtain ⟨Au2, cu2, rfl⟩ := HI5.out.bi.form
          go_wp2
          go_roundw
          case rel => exact ⟨ys ++ [lo + k], q + 1, by simp; omega, by simp; omega, Lib.hid (fun x hx => by
            rcases List.mem_append.1 hx with hx | hx
            · exact HR.out x hx
            · simp at hx; omega), HI5⟩
          case measure => simp; omega
        · obtain ⟨Ar, nr, cr, gg, e, rfl, ho, _⟩ := HI.out.bi.owns (by omega) (fun x hx => by have := HR.out x hx; omega)
          injection e with e1 _ e3
          subst e1
          subst e3
          have HO := Lib.hid ho
          have hym2 : ys.length = m := by omega
          have hb := below_alloc wr (.cells #[.slice Au ys.length cu] 43)
          have HB4 := Lib.hid (HI.out.bo.below hb).own
          have HN := Lib.hid (cell_one_new wr (.slice Au ys.length cu) 43)
          have hHs := HI.out.hs
          have hlh := HI.out.lh
          clear hb ho
          have HYM := Lib.hid hym2
          clear hym2
          obtain ⟨i0, hi0, hz0, hz1, hz2⟩ := info_parts Try.info_row
          go_wp2_with (at_builtin; refine wpList_append_own_at _ rfl _ _ 22 rfl w.heap.size 43 i0 (.slice none 0 0) 1 24 Try.underlying22 hi0 hz0 hz1 hz2 rfl (by decide) _ xss.length vs rfl HB4.out ⟨wr.heap.size, 0, none⟩ 1 1 [.slice Au ys.length cu] rfl rfl ?d1 ?d2 ?d3 ?d4 ?d5 ?_)
          case d2 => rfl
          case d3 => unfold maxLen; omega
          case d4 => omega
          case d5 => omega
          intro v' w5 hown' hgrow _ hat
          have HT5 := Lib.hid (HI.out.done HO.out hown' hgrow (by simpa using hat))
          clear HB4 HN hown' hgrow hat HI HO
          obtain ⟨Av2, cv2, rfl⟩ := HT5.out.bo.form
          go_wp2
          go_roundw
          case rel => exact ⟨xss ++ [ys], _, q, by simp; omega, by have := HYM.out; simp; omega, Lib.hid (fun r hr => by
            rcases List.mem_append.1 hr with hr | hr
            · exact HA.out r hr
            · simp at hr; subst hr; exact ⟨HYM.out, HR.out⟩), HT5⟩
          case measure => simp; omega
    · have hnx : xss.length = n := by omega
      have HNX := Lib.hid hnx
      clear hnx
      go_wp2
      go_ret
      exact ⟨Av, cv, vs, xss, p', by rw [← HNX.out]; rfl, HNX.out, HA.out, by rw [← HNX.out]; exact HT.out, by have := HNX.out; omega⟩
end Go.Proofs.Ytgmicblfegjbnaa

/- A table spoiled now and then: what becomes of its memory. -/
namespace Go.Proofs.Ytgmicblfegjbnaa
open Go.RowKit

theorem Bld.head {lo hi w v vs xss} (h : Bld lo hi w v vs xss) (h0 : 0 < xss.length) : ∃ b c R cc, v = .slice (some ⟨b, 0, none⟩) xss.length c ∧ lo ≤ b ∧ vs[0]? = some (.slice R (gr xss 0).length cc) ∧ w.cell? ⟨b, 0, none⟩ = some (.slice R (gr xss 0).length cc) := by
  obtain ⟨h1, h4, G, R, C, h2, h3⟩ := h
  have hv := (h2 0 h0).1
  rcases h1.2 with ⟨_, h5⟩ | ⟨g, cap, cur, rfl, hb, _⟩
  · omega
  · have hc := h1.cells (g := g) rfl 0 _ hv
    exact ⟨g, cap, R 0, C 0, rfl, hb, hv, by simpa [Addr.add] using hc⟩

theorem Bld.set0 {lo hi w v vs xss} (h : Bld lo hi w v vs xss) (h0 : 0 < xss.length) (h1 : 0 < (gr xss 0).length) {x : Int} (hx : -9223372036854775808 ≤ x ∧ x ≤ 9223372036854775807) :
    ∃ b o cc, vs[0]? = some (.slice (some ⟨b, o, none⟩) (gr xss 0).length cc) ∧ lo ≤ b ∧ (∃ y, w.cell? ⟨b, o, none⟩ = some (.int .i64 y)) ∧ w.frozen? ⟨b, o, none⟩ = false ∧
      Bld lo hi (w.setCell ⟨b, o, none⟩ (.int .i64 x)) v vs (xss.set 0 ((gr xss 0).set 0 x)) := by
  obtain ⟨ho, h4, G, R, C, h2, h3⟩ := h
  obtain ⟨q0, q1, q2⟩ := h2 0 h0
  obtain ⟨o, e, l1, l2, hf⟩ := q1.own h1
  have q1' := q1
  rw [e] at q1' q0
  have hset := q1'.set h1 hx
  rw [Nat.add_zero] at hset
  obtain ⟨b', o', e', hc⟩ := q1.ints.at_ h1
  rw [e] at e'
  injection e' with e'
  injection e' with e1 e2 _
  have hc0 := hc 0 h1
  rw [Nat.add_zero, ← e1, ← e2] at hc0
  have hf0 := hf 0 h1
  rw [Nat.add_zero] at hf0
  have hlen : ∀ k, (gr (xss.set 0 ((gr xss 0).set 0 x)) k).length = (gr xss k).length := fun k => by
    by_cases e : k = 0
    · subst e; rw [gr_set_eq h0, List.length_set]
    · rw [gr_set_ne e]
  refine ⟨G 0, o, C 0, q0, l1, ⟨_, hc0⟩, hf0, ⟨?_, h4, G, R, C, fun k hk => ?_, fun j k hjk hk hj0 hk0 => ?_⟩⟩
  · rw [List.length_set]
    exact blk_kept ho fun g hg => Below.heap_setCell _ _ _ _ (fun e => q2 h1 (by rw [hg, e]))
  · rw [List.length_set] at hk
    rw [hlen]
    obtain ⟨a, b, c⟩ := h2 k hk
    refine ⟨a, ?_, c⟩
    by_cases ek : k = 0
    · subst ek
      rw [gr_set_eq h0, e]
      exact hset
    · rw [gr_set_ne ek]
      exact b.of_block fun hp => Below.heap_setCell _ _ _ _ (Ne.symm (h3 0 k (by omega) hk h1 hp))
  · rw [List.length_set] at hk
    rw [hlen] at hj0 hk0
    exact h3 j k hjk hk hj0 hk0

/-- The rows' lengths and numbers are small. -/
structure Small (xss : List (List Int)) : Prop where
  n : xss.length ≤ 8
  rows : ∀ r ∈ xss, r.length ≤ 8 ∧ ∀ x ∈ r, -1000 ≤ x ∧ x ≤ 1000
theorem Small.set0 {xss : List (List Int)} (h : Small xss) (h0 : 0 < xss.length) {x : Int} (hx : -1000 ≤ x ∧ x ≤ 1000) : Small (xss.set 0 ((gr xss 0).set 0 x)) := by
  have hm := h.rows _ (gr_mem h0)
  refine ⟨by rw [List.length_set]; exact h.n, fun r hr => ?_⟩
  rcases List.mem_or_eq_of_mem_set hr with hr | rfl
  · exact h.rows r hr
  · refine ⟨by rw [List.length_set]; exact hm.1, fun y hy => ?_⟩
    rcases List.mem_or_eq_of_mem_set hy with hy | rfl
    · exact hm.2 y hy
    · exact hx
theorem Small.snoc {xss : List (List Int)} (h : Small xss) (hn : xss.length ≤ 7) {x : Int} (hx : -1000 ≤ x ∧ x ≤ 1000) : Small (xss ++ [[x]]) :=
  ⟨by simp; omega, fun r hr => by
    rcases List.mem_append.1 hr with hr | hr
    · exact h.rows r hr
    · simp at hr; subst hr; exact ⟨by simp, fun y hy => by simp at hy; subst hy; exact hx⟩⟩
theorem Small.nil : Small [] := ⟨by simp, fun r hr => by simp at hr⟩

theorem TO.below {w0 wb g A l c p v vs xss w w'} (h : TO w0 wb g A l c p v vs xss w) (k : Below w.heap.size w w') : TO w0 wb g A l c p v vs xss w' :=
  ⟨h.rd.below_ k, (h.bo.below k).mono k.size, h.gl, grown_below h.up k⟩
theorem TO.one {w0 wb g A l c p p' v vs xss w w'} (h : TO w0 wb g A l c p v vs xss w) (hr : Rdr w0 w' g A l c p') (ho : One g w w') : TO w0 wb g A l c p' v vs xss w' := by
  have hgl := h.gl
  refine ⟨hr, ?_, h.gl, ?_⟩
  · rw [ho.size]; exact h.bo.of_blocks fun k h1 _ _ => ho.block k (by omega)
  · exact ⟨ho.os.trans h.up.os, ho.tape.trans h.up.tape, ho.output.trans h.up.output, by rw [ho.size]; exact h.up.size, fun k hk hne => (ho.block k (fun e => hne (by rw [e]))).trans (h.up.block k hk hne)⟩
theorem TO.fresh {w0 wb g A l c p v vs xss w} (h : TO w0 wb g A l c p v vs xss w) : TO w0 wb g A l c p (.slice (some ⟨w.heap.size, 0, none⟩) 0 0) [] [] (w.alloc (.cells #[] 43)) :=
  ⟨h.rd.below_ (below_alloc _ _), by rw [World.size_alloc]; exact Bld.make h.up.size, h.gl, grown_below h.up (below_alloc _ _)⟩
theorem TO.set0 {w0 wb g A l c p v vs xss w} (h : TO w0 wb g A l c p v vs xss w) (h0 : 0 < xss.length) (h1 : 0 < (gr xss 0).length) {x : Int} (hx : -1000 ≤ x ∧ x ≤ 1000) :
    ∃ b o cc, vs[0]? = some (.slice (some ⟨b, o, none⟩) (gr xss 0).length cc) ∧ (∃ y, w.cell? ⟨b, o, none⟩ = some (.int .i64 y)) ∧ w.frozen? ⟨b, o, none⟩ = false ∧
      TO w0 wb g A l c p v vs (xss.set 0 ((gr xss 0).set 0 x)) (w.setCell ⟨b, o, none⟩ (.int .i64 x)) := by
  obtain ⟨b, o, cc, e, hl, hc, hf, hb⟩ := h.bo.set0 h0 h1 (x := x) (by omega)
  have hgl := h.gl
  have hs : (w.setCell ⟨b, o, none⟩ (.int .i64 x)).heap.size = w.heap.size := by simp [World.setCell]
  refine ⟨b, o, cc, e, hc, hf, ⟨⟨blk_other h.rd.box (by show g ≠ b; omega) _, h.rd.bytes, h.rd.below.setCell (by show w0.heap.size ≤ b; have := h.rd.lt; omega) _, h.rd.lt, h.rd.small⟩, by rw [hs]; exact hb, h.gl, ?_⟩⟩
  exact ⟨h.up.os, h.up.tape, h.up.output, by rw [hs]; exact h.up.size, fun k hk hne => (Below.heap_setCell _ _ _ _ (by show k ≠ b; omega)).trans (h.up.block k hk hne)⟩
end Go.Proofs.Ytgmicblfegjbnaa

/- A list of ints that is written out. -/
namespace Go.Proofs.Ytgmicblfegjbnaa
open Go.RowKit

theorem Ints.lit (w : World) (xs : List Int) (hl : xs.length ≤ 1000) (hw : ∀ x ∈ xs, -9223372036854775808 ≤ x ∧ x ≤ 9223372036854775807) :
    Ints (w.alloc (.cells (xs.map iv).toArray 3)) (some ⟨w.heap.size, 0, none⟩) xs.length xs.length xs :=
  ⟨rfl, Nat.le_refl _, by omega, hw, fun _ => ⟨_, _, rfl, fun k hk => by
    simp only [World.cell?, Nat.zero_add, heap_alloc_new]
    rw [← getElem_iv hk]
    simp⟩⟩
theorem Ints.two (w : World) (x y : Int) (hx : -9223372036854775808 ≤ x ∧ x ≤ 9223372036854775807 := by omega) (hy : -9223372036854775808 ≤ y ∧ y ≤ 9223372036854775807 := by omega) : Ints (w.alloc (.cells #[iv x, iv y] 3)) (some ⟨w.heap.size, 0, none⟩) 2 2 [x, y] :=
  ⟨rfl, Nat.le_refl _, by omega, fun z hz => by simp at hz; omega, fun _ => ⟨_, _, rfl, fun k hk => by
    have h : k = 0 ∨ k = 1 := by omega
    rcases h with rfl | rfl <;> simp only [World.cell?, Nat.zero_add, heap_alloc_new] <;> rfl⟩⟩

end Go.Proofs.Ytgmicblfegjbnaa

/- A table spoiled now and then: the walk. -/
namespace Go.Proofs.Ytgmicblfegjbnaa
open Go.RowKit

/-- A row written out, of one number. -/
theorem TO.lit {w0 wb g A l c p v vs xss w} (h : TO w0 wb g A l c p v vs xss w) (x : Int) :
    TI w0 wb g A l c p w.heap.size v vs xss (.slice (some ⟨w.heap.size, 0, none⟩) 1 1) [x] (w.alloc (.cells #[iv x] 3)) :=
  ⟨h.rd.below_ (below_alloc _ _), h.bo.below (below_alloc _ _), by rw [World.size_alloc]; exact ⟨⟨by simp, .inr ⟨w.heap.size, 1, #[iv x], rfl, Nat.le_refl _, heap_alloc_new w _, Nat.le_refl _, by decide, rfl, by simp⟩⟩, fun k hk => by simp [Value.ownBlock] at hk; omega⟩, h.gl, h.up.size, by simp, grown_below h.up (below_alloc _ _)⟩

theorem Ints.drew {w A n c xs} (h : Ints w A n c xs) : Ints w.drew A n c xs := ⟨h.1, h.2, h.3, h.4, h.5⟩

theorem Bld.head_at {lo hi w b c n vs xss} (h : Bld lo hi w (.slice (some ⟨b, 0, none⟩) n c) vs xss) (h0 : 0 < xss.length) : w.cell? ⟨b, 0, none⟩ = vs[0]? := by
  obtain ⟨b', c', R, cc, e, _, h1, h2⟩ := h.head h0
  injection e with e
  injection e with e
  injection e with e _ _
  subst e
  rw [h1, h2]

theorem TO.set0_at {w0 wb g A l c p v vs xss w b o k cc} (h : TO w0 wb g A l c p v vs xss w) (h0 : 0 < xss.length) (h1 : 0 < (gr xss 0).length) (hv : vs[0]? = some (.slice (some ⟨b, o, none⟩) k cc)) {x : Int} (hx : -1000 ≤ x ∧ x ≤ 1000) :
    (∃ y, w.cell? ⟨b, o, none⟩ = some (.int .i64 y)) ∧ w.frozen? ⟨b, o, none⟩ = false ∧ TO w0 wb g A l c p v vs (xss.set 0 ((gr xss 0).set 0 x)) (w.setCell ⟨b, o, none⟩ (.int .i64 x)) := by
  obtain ⟨b', o', cc', e, h2⟩ := h.set0 h0 h1 hx
  rw [hv] at e
  injection e with e
  injection e with e _ _
  injection e with e
  injection e with e1 e2 _
  subst e1
  subst e2
  exact h2

def SpoilOut (w0 wb : World) (g : Nat) (A : Option Addr) (l c p : Nat) (e : Ending) (w' : World) : Prop :=
  ∃ v' vs' xss' p', e = .returned v' ∧ Small xss' ∧ TO w0 wb g A l c p' v' vs' xss' w' ∧ p' ≤ p + 2

set_option maxHeartbeats 1000000 in
theorem spoil_any (w0 wb w : World) (g : Nat) (A : Option Addr) (l c p : Nat) (Av : Option Addr) (cv : Nat) (vs : List Value) (xss : List (List Int)) (h : TO w0 wb g A l c p (.slice Av xss.length cv) vs xss w) (hp : p < 900000000) (hs : Small xss) (h7 : xss.length ≤ 7) :
    Calls Try.prog 72 #[.pointer (some ⟨g, 0, none⟩), .slice Av xss.length cv] w (SpoilOut w0 wb g A l c p) := by
  have HT := Lib.hid h
  have HC := Lib.hid (pick_any w0 w g A l c p 40 h.rd (by omega))
  have HS := Lib.hid hs
  clear h hs
  go_enter Try.func72, Try.ntmps72
  go_wp2_with fail
  refine HC.out.mono ?_
  rintro e w2 ⟨k, rfl, hk1, _, hr, z, hw⟩
  have hone := Rdr.one (g := g) w (.int .i64 (p + 1 : Nat)) z
  rw [← hw] at hone
  obtain ⟨k0, k1⟩ := hk1 (by omega)
  have HT2 := Lib.hid (HT.out.one hr hone)
  clear hr hone hw hk1 HC HT
  by_cases e0 : k = 0
  · subst e0
    by_cases hx0 : 0 < xss.length
    · obtain ⟨b0, c0, R0, cc0, ev, hb0, hv0, hcell0⟩ := HT2.out.bo.head hx0
      injection ev with ev1 _ ev3
      subst ev1
      subst ev3
      by_cases hx1 : 0 < (gr xss 0).length
      · obtain ⟨b, o, cc, ev, _⟩ := HT2.out.set0 hx0 hx1 (x := 10) (by omega)
        rw [hv0] at ev
        injection ev with ev
        injection ev with ev1 _ ev3
        subst ev1
        subst ev3
        have HTA := Lib.hid ((HT2.out.below (below_alloc w2 (.cells #[iv 10, iv (-10)] 3))).below ((Below.refl _ _).drew))
        have HCA := Lib.hid ((HTA.out.bo.head_at hx0).trans hv0)
        have HIA := Lib.hid (Ints.two w2 10 (-10)).drew
        have hgl := HT2.out.gl
        have hgw := HT2.out.up.size
        go_wp2_with fail
        go_region_held3 (fun W => W.cell? ⟨b0, 0, none⟩ = some (.slice (some ⟨b, o, none⟩) (gr xss 0).length cc0)) (first | exact hcell0 | exact HCA.out | exact HCB.out | exact HCC.out)
          (first
          | (go_at_call 60; refine (one_any w0 _ g A l c (p + 1) _ 2 2 [10, -10] ?_ (by omega) ?_ (by omega) ?_).mono ?_; exact HTA.out.rd; exact HIA.out; (intro b' o' e'; injection e' with e'; injection e' with e1 _ _; omega); rintro e w4 ⟨x, rfl, hx, hr, ho⟩; have HT4 := Lib.hid (HTA.out.one hr ho); have HCB := Lib.hid ((HT4.out.bo.head_at hx0).trans hv0); have hx3 : -1000 ≤ x ∧ x ≤ 1000 := (by simp at hx; omega); obtain ⟨⟨y, hc5⟩, hf5, hT5⟩ := HT4.out.set0_at hx0 hx1 hv0 hx3; have HT5 := Lib.hid hT5; have HCC := Lib.hid ((HT5.out.bo.head_at (by rw [List.length_set]; exact hx0)).trans hv0); clear hr ho hT5 hx HTA HIA))
        go_wp2
        go_ret
        exact ⟨_, _, _, _, rfl, HS.out.set0 hx0 hx3, HT5.out, by omega⟩
      · go_wp2
        go_ret
        exact ⟨_, _, _, _, rfl, HS.out, HT2.out, by omega⟩
    · go_wp2
      go_ret
      exact ⟨_, _, _, _, rfl, HS.out, HT2.out, by omega⟩
  · by_cases e1 : k = 1
    · subst e1
      have HI := Lib.hid (HT2.out.lit 1)
      clear HT2
      have hWs : (w2.alloc (.cells #[iv 1] 3)).heap.size = w2.heap.size + 1 := by simp
      obtain ⟨Ar, nr, cr, gg, e, hn, ho, _⟩ := HI.out.bi.owns (by simp) (fun x hx => by simp at hx; omega)
      injection e with e1 e2 e3
      subst e1
      subst e2
      subst e3
      have HO := Lib.hid ho
      have hb := below_alloc (w2.alloc (.cells #[iv 1] 3)) (.cells #[.slice (some ⟨w2.heap.size, 0, none⟩) 1 1] 43)
      have HB4 := Lib.hid (HI.out.bo.below hb).own
      have HN := Lib.hid (cell_one_new (w2.alloc (.cells #[iv 1] 3)) (.slice (some ⟨w2.heap.size, 0, none⟩) 1 1) 43)
      have hHs := HI.out.hs
      have hlh := HI.out.lh
      clear hb ho hn
      obtain ⟨i0, hi0, hz0, hz1, hz2⟩ := info_parts Try.info_row
      go_wp2_with (at_builtin; refine wpList_append_own_at _ rfl _ _ 22 rfl wb.heap.size 43 i0 (.slice none 0 0) 1 24 Try.underlying22 hi0 hz0 hz1 hz2 rfl (by decide) _ xss.length vs rfl HB4.out ⟨w2.heap.size + 1, 0, none⟩ 1 1 [.slice (some ⟨w2.heap.size, 0, none⟩) 1 1] rfl rfl ?d1 ?d2 ?d3 ?d4 ?d5 ?_)
      case d1 => have := HN.out; rw [hWs] at this; exact this
      case d2 => intro u hu; simp at hu; subst hu; rfl
      case d3 => unfold maxLen; omega
      case d4 => omega
      case d5 => simp; omega
      intro v' w5 hown' hgrow _ hat
      have HT5 := Lib.hid (TI.done (w := w2.alloc (.cells #[iv 1] 3)) (ys := [1]) (xss := xss) (v := .slice Av xss.length cv) (v' := v') (vs := vs) (Ar := some ⟨w2.heap.size, 0, none⟩) (cr := 1) HI.out HO.out hown' hgrow (by simpa using hat))
      clear HB4 HN hown' hgrow hat HI HO
      go_wp2
      go_ret
      exact ⟨_, _, _, _, rfl, HS.out.snoc h7 (by omega), HT5.out, by omega⟩
    · by_cases e2 : k = 2
      · subst e2
        have HF := Lib.hid HT2.out.fresh
        go_wp2
        go_ret
        exact ⟨_, _, _, _, rfl, Small.nil, HF.out, by omega⟩
      · go_wp2
        go_ret
        exact ⟨_, _, _, _, rfl, HS.out, HT2.out, by omega⟩
end Go.Proofs.Ytgmicblfegjbnaa

/- Some table. -/
namespace Go.Proofs.Ytgmicblfegjbnaa
open Go.RowKit

theorem grown_trans {g : Nat} {a b w : World} (h : a.grownBy b (some g)) (k : b.grownBy w (some g)) : a.grownBy w (some g) :=
  ⟨k.os.trans h.os, k.tape.trans h.tape, k.output.trans h.output, Nat.le_trans h.size k.size, fun i hi hne => (k.block i (Nat.lt_of_lt_of_le hi h.size) hne).trans (h.block i hi hne)⟩
theorem grown_of_below {g : Nat} {w w' : World} (k : Below w.heap.size w w') : w.grownBy w' (some g) := ⟨k.os, k.tape, k.output, k.size, fun i hi _ => k.block i hi⟩

/-- A number of a list that is written out. -/
def OneLit (w0 : World) (g : Nat) (A : Option Addr) (l c p : Nat) (xs : List Int) (w : World) (e : Ending) (w' : World) : Prop :=
  ∃ x, e = .returned (.int .i64 x) ∧ x ∈ xs ∧ Rdr w0 w' g A l c (p + 1) ∧ w.grownBy w' (some g)
theorem one_lit (w0 w W : World) (g : Nat) (A : Option Addr) (l c p b n : Nat) (xs : List Int) (h : Rdr w0 w g A l c p) (hp : p < 1000000000) (k : Below w.heap.size w W)
    (hb : w.heap.size ≤ b) (hi : Ints W (some ⟨b, 0, none⟩) n n xs) (h0 : 0 < n) :
    Calls Try.prog 60 #[.pointer (some ⟨g, 0, none⟩), .slice (some ⟨b, 0, none⟩) n n] W (OneLit w0 g A l c p xs w) := by
  have hg := blk_lt h.box
  refine (one_any w0 W g A l c p _ n n xs (h.below_ k) hp hi h0 (fun b' o' e' => by injection e' with e'; injection e' with e' _ _; omega)).mono ?_
  rintro e w4 ⟨x, rfl, hx, hr, ho⟩
  exact ⟨x, rfl, hx, hr, grown_trans (grown_of_below k) ho.grown⟩

/-- A table that the reader drew: its memory is from w on. -/
def SomeT (w0 : World) (g : Nat) (A : Option Addr) (l c p : Nat) (w : World) (e : Ending) (w' : World) : Prop :=
  ∃ wb v' vs' xss' p', e = .returned v' ∧ Small xss' ∧ TO w0 wb g A l c p' v' vs' xss' w' ∧ p' ≤ p + 30 ∧ w.grownBy wb (some g)

end Go.Proofs.Ytgmicblfegjbnaa

/- Tables drawn from bytes. -/
namespace Go.Proofs.Ytgmicblfegjbnaa
open Go.RowKit

/-- A table of small numbers, in memory of its own. -/
def DrawnT (w : World) (e : Ending) (w' : World) : Prop :=
  ∃ Av n c gg xss, e = .returned (.slice Av n c) ∧ Small xss ∧ OwnR w.heap.size w'.heap.size w' gg Av n c xss ∧ Below w.heap.size w w'

end Go.Proofs.Ytgmicblfegjbnaa

