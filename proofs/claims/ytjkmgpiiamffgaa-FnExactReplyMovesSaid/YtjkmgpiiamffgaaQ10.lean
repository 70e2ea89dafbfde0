/- Texts merged: LiftB LiftC Enter G1 G2 G7 N22 Math54 Math56 N16 Math50 W7. -/
import Derived.Test.YtjkmgpiiamffgaaQ9
import Derived.ChangeSlices
/- An argument of bytes, opened. -/
namespace Go.Proofs.Ytjkmgpiiamffgaa
open Go.ChangeShapes Go.WideShapes Go.ChangeAt Go.RowKit Go.Deep

theorem Try.cells_u8 : Try.prog.cellsOf 5 = 1 := by kernel_rfl
theorem Try.bytes_u8 : Try.prog.bytesOf 5 = 1 := by kernel_rfl
set_option maxRecDepth 100000 in
theorem open_bytes {H : Type} {enc : TypeId × Value → H} {W : World} {v : Value} {d : DataW H} {p : List MemPlace} {b0 : Nat} (hval : Value.okWide Try.prog W .any b0 22 v)
    (h : DataW.Trod enc Try.prog W 0 (fun _ => true) true 22 v d p) (hw : ∀ n ∈ d.weights Try.prog 22, n ≤ reachBytes) :
    ∃ A n c, v = .slice A n c ∧ Bytes W A n c := by
  obtain ⟨a1, len, cap, rfl⟩ := okWide_slice Try.underlying22 hval
  obtain ⟨fuel, hf⟩ := h
  rcases open_ints Try.underlying22 Try.underlying5 Try.cells_u8 hf with ⟨hcs, hx⟩ | ⟨a, len', cap', zs, hcs, _, hl, hm, hz, hx, hcell, hwz⟩
  · simp [Value.cells] at hcs
    obtain ⟨rfl, rfl, rfl⟩ := hcs
    exact ⟨none, 0, 0, rfl, Nat.le_refl _, by omega, fun h => absurd h (by omega)⟩
  · simp [Value.cells] at hcs
    obtain ⟨rfl, rfl, rfl⟩ := hcs
    simp only [Prod.mk.injEq] at hx
    obtain ⟨rfl, rfl⟩ := hx
    simp only [if_true] at hz
    have h1 := hw _ (weights_slice Try.underlying22 (.inl rfl))
    simp only [lits, List.length_map, List.length_take, List.length_drop, Try.bytes_u8, reachBytes] at h1
    refine ⟨some a, len, cap, rfl, hl, by omega, fun hn => ?_⟩
    have hspot : a.spot = none := by simpa [Addr.add] using World.cell?_spot (hcell 0 (by omega))
    obtain ⟨b, o, sp⟩ := a
    simp only at hspot
    subst hspot
    refine ⟨b, o, rfl, fun k hk => ⟨zs.getD k 0, ?_, ?_, by rw [← add_plain]; exact hcell k (by omega)⟩⟩
    · rw [List.getD_eq_getElem?_getD]; have := hwz (zs.getD k 0) (by rw [List.getD_eq_getElem?_getD, List.getElem?_eq_getElem (show k < zs.length by omega)]; simp)
      simp [Lit.wf, IntKind.min, IntKind.max, IntKind.signed, IntKind.bits] at this
      omega
    · rw [List.getD_eq_getElem?_getD]; have := hwz (zs.getD k 0) (by rw [List.getD_eq_getElem?_getD, List.getElem?_eq_getElem (show k < zs.length by omega)]; simp)
      simp [Lit.wf, IntKind.min, IntKind.max, IntKind.signed, IntKind.bits] at this
      omega
end Go.Proofs.Ytjkmgpiiamffgaa

/- Arguments that are a slice of ints, or an int, opened. -/
namespace Go.Proofs.Ytjkmgpiiamffgaa
open Go.ChangeShapes Go.WideShapes Go.ChangeAt Go.RowKit Go.Deep

set_option maxRecDepth 100000 in
theorem open_intS {H : Type} {enc : TypeId × Value → H} {W : World} {v : Value} {d : DataW H} {p : List MemPlace} {b0 : Nat} (hval : Value.okWide Try.prog W .any b0 30 v)
    (h : DataW.Trod enc Try.prog W 0 (fun _ => true) true 30 v d p) (hw : ∀ n ∈ d.weights Try.prog 30, n ≤ reachBytes) :
    ∃ A n c xs, v = .slice A n c ∧ Ints W A n c xs := by
  obtain ⟨a1, len, cap, rfl⟩ := okWide_slice Try.underlying30 hval
  obtain ⟨fuel, hf⟩ := h
  rcases open_ints Try.underlying30 Try.underlying3 Try.cells3 hf with ⟨hcs, hx⟩ | ⟨a, len', cap', zs, hcs, _, hl, hm, hz, hx, hcell, hwz⟩
  · simp [Value.cells] at hcs
    obtain ⟨rfl, rfl, rfl⟩ := hcs
    exact ⟨none, 0, 0, [], rfl, rfl, Nat.le_refl _, by omega, fun _ h => by simp at h, fun h => absurd h (by omega)⟩
  · simp [Value.cells] at hcs
    obtain ⟨rfl, rfl, rfl⟩ := hcs
    simp only [Prod.mk.injEq] at hx
    obtain ⟨rfl, rfl⟩ := hx
    simp only [if_true] at hz
    have h1 := hw _ (weights_slice Try.underlying30 (.inl rfl))
    simp only [lits, List.length_map, List.length_take, List.length_drop, Try.bytes3, reachBytes] at h1
    have hlen : (zs.take len).length = len := by rw [List.length_take]; omega
    refine ⟨some a, len, cap, zs.take len, rfl, hlen, hl, by omega, fun x hx => ?_, fun hn => ?_⟩
    · have := hwz x (List.mem_of_mem_take hx)
      simp [Lit.wf, IntKind.min, IntKind.max, IntKind.signed, IntKind.bits] at this
      omega
    have hspot : a.spot = none := by simpa [Addr.add] using World.cell?_spot (hcell 0 (by omega))
    obtain ⟨b, o, sp⟩ := a
    simp only at hspot
    subst hspot
    refine ⟨b, o, rfl, fun k hk => ?_⟩
    rw [← add_plain, hcell k (by omega)]
    congr 2
    rw [gi_get (by rw [hlen]; exact hk), List.getElem_take]
    simp [List.getD, show k < zs.length by omega]

set_option maxRecDepth 100000 in
theorem open_num {H : Type} {enc : TypeId × Value → H} {W : World} {v : Value} {d : DataW H} {p : List MemPlace} {b0 : Nat} (hval : Value.okWide Try.prog W .any b0 3 v)
    (h : DataW.Trod enc Try.prog W 0 (fun _ => true) true 3 v d p) : ∃ x, v = .int .i64 x ∧ Fit x := by
  obtain ⟨x, rfl, _, _, hw⟩ := open_int Try.underlying3 hval h
  refine ⟨x, rfl, ?_⟩
  simp [Lit.wf, IntKind.min, IntKind.max, IntKind.signed, IntKind.bits] at hw
  unfold Fit
  omega
end Go.Proofs.Ytjkmgpiiamffgaa

/- The program may be entered: facts of its head, once for all laws. -/
namespace Go.Proofs.Ytjkmgpiiamffgaa

theorem prog_enters : Try.pinned.checked.prog.mayEnter = true := by kernel_rfl
theorem prog_lifts0 : (false == Try.pinned.checked.prog.liftsFinal) = true := by kernel_rfl
theorem prog_make0 : (Try.pinned.checked.prog.make == some .cut) = true := by kernel_rfl
theorem prog_lifts {b : Bool} (h : b = false) : (b == Try.pinned.checked.prog.liftsFinal) = true := by subst h; exact prog_lifts0
theorem prog_make {m : Make} (h : m = .cut) : (Try.pinned.checked.prog.make == some m) = true := by subst h; exact prog_make0
end Go.Proofs.Ytjkmgpiiamffgaa

/- A table spoiled now and then, beside the box of a game. -/
namespace Go.Proofs.Ytjkmgpiiamffgaa
open Go.RowKit

theorem box_ne_box {w : World} {h g : Nat} {t u : TypeId} {cs ds : Array Value} (a : Blk w h t cs) (b : Blk w g u ds) (ne : t ≠ u) : h ≠ g := by
  rintro rfl
  unfold Blk at a b
  rw [a] at b
  injection b with b
  injection b with _ b _
  exact ne b
theorem box_ne_int {w : World} {h b o : Nat} {t : TypeId} {cs : Array Value} {k : IntKind} (a : Blk w h t cs) (hcs : ∀ (k : Nat) (v : Value), cs[k]? = some v → ∀ (kk : IntKind) (x : Int), v ≠ Value.int kk x) (hc : ∃ y, w.cell? ⟨b, o, none⟩ = some (.int k y)) : h ≠ b := by
  rintro rfl
  obtain ⟨y, hc⟩ := hc
  unfold Blk at a
  simp only [World.cell?, a] at hc
  exact hcs o _ hc k y rfl
theorem box_ne_own {w : World} {h base n : Nat} {t e : TypeId} {cs : Array Value} {v : Value} {xs : List Value} (a : Blk w h t cs) (own : w.ownsRow base e 1 v n xs) (ne : t ≠ e) : v.ownBlock ≠ some h := by
  rcases own.2 with ⟨rfl, _⟩ | ⟨g, cap, cur, rfl, _, hg, _⟩
  · simp [Value.ownBlock]
  · intro e1
    have : g = h := by simpa [Value.ownBlock] using e1
    subst this
    unfold Blk at a
    rw [a] at hg
    injection hg with hg
    injection hg with _ hg _
    exact ne hg
def SpoilH (w0 wb : World) (g : Nat) (A : Option Addr) (l c p h : Nat) (cs : Array Value) (e : Ending) (w' : World) : Prop :=
  ∃ v' vs' xss' p', e = .returned v' ∧ Small xss' ∧ TO w0 wb g A l c p' v' vs' xss' w' ∧ p' ≤ p + 2 ∧ Blk w' h 54 cs

set_option maxHeartbeats 1000000 in
theorem spoilH_any (w0 wb w : World) (h : Nat) (cs : Array Value) (g : Nat) (A : Option Addr) (l c p : Nat) (Av : Option Addr) (cv : Nat) (vs : List Value) (xss : List (List Int)) (ht : TO w0 wb g A l c p (.slice Av xss.length cv) vs xss w) (hp : p < 900000000) (hs : Small xss) (h7 : xss.length ≤ 7) (hbx : Blk w h 54 cs) (hcs : ∀ (k : Nat) (v : Value), cs[k]? = some v → ∀ (kk : IntKind) (x : Int), v ≠ Value.int kk x) :
    Calls Try.prog 90 #[.pointer (some ⟨g, 0, none⟩), .slice Av xss.length cv] w (SpoilH w0 wb g A l c p h cs) := by
  have HT := Lib.hid ht
  have HBX := Lib.hid hbx
  have HCS := Lib.hid hcs
  have HNE := Lib.hid (box_ne_box (h := h) (g := g) hbx ht.rd.box (by decide))
  have HC := Lib.hid (pick_any w0 w g A l c p 40 ht.rd (by omega))
  have HS := Lib.hid hs
  clear ht hs hbx hcs
  go_enter Try.func90, Try.ntmps90
  go_wp2_with fail
  refine HC.out.mono ?_
  rintro e w2 ⟨k, rfl, hk1, _, hr, z, hw⟩
  have hone := Rdr.one (g := g) w (.int .i64 (p + 1 : Nat)) z
  rw [← hw] at hone
  obtain ⟨k0, k1⟩ := hk1 (by omega)
  have HT2 := Lib.hid (HT.out.one hr hone)
  have HB2 := Lib.hid (show Blk w2 h 54 cs from (hone.block h HNE.out).trans HBX.out)
  clear hr hone hw hk1 HC HT HBX
  by_cases e0 : k = 0
  · subst e0
    by_cases hx0 : 0 < xss.length
    · obtain ⟨b0, c0, R0, cc0, ev, hb0, hv0, hcell0⟩ := HT2.out.bo.head hx0
      injection ev with ev1 _ ev3
      subst ev1
      subst ev3
      by_cases hx1 : 0 < (gr xss 0).length
      · obtain ⟨b, o, cc, ev, _⟩ := HT2.out.set0 hx0 hx1 (x := 10) (by omega)
        rw [hv0] at ev
        injection ev with ev
        injection ev with ev1 _ ev3
        subst ev1
        subst ev3
        have HTA := Lib.hid ((HT2.out.below (below_alloc w2 (.cells #[iv 10, iv (-10)] 3))).below ((Below.refl _ _).drew))
        have HBA := Lib.hid (show Blk (w2.alloc (.cells #[iv 10, iv (-10)] 3)).drew h 54 cs from blk_below HB2.out (below_alloc w2 (.cells #[iv 10, iv (-10)] 3)).drew)
        have HCA := Lib.hid ((HTA.out.bo.head_at hx0).trans hv0)
        have HIA := Lib.hid (Ints.two w2 10 (-10)).drew
        have hgl := HT2.out.gl
        have hgw := HT2.out.up.size
        go_wp2_with fail
        go_region_held3 (fun W => W.cell? ⟨b0, 0, none⟩ = some (.slice (some ⟨b, o, none⟩) (gr xss 0).length cc0)) (first | exact hcell0 | exact HCA.out | exact HCB.out | exact HCC.out)
          (first
          | (go_at_call 57; refine (one_any w0 _ g A l c (p + 1) _ 2 2 [10, -10] ?_ (by omega) ?_ (by omega) ?_).mono ?_; exact HTA.out.rd; exact HIA.out; (intro b' o' e'; injection e' with e'; injection e' with e1 _ _; omega); rintro e w4 ⟨x, rfl, hx, hr, ho⟩; have HT4 := Lib.hid (HTA.out.one hr ho); have HCB := Lib.hid ((HT4.out.bo.head_at hx0).trans hv0); have hx3 : -1000 ≤ x ∧ x ≤ 1000 := (by simp at hx; omega); obtain ⟨⟨y, hc5⟩, hf5, hT5⟩ := HT4.out.set0_at hx0 hx1 hv0 hx3; have HT5 := Lib.hid hT5; have HBD := Lib.hid (show Blk w4 h 54 cs from (ho.block h HNE.out).trans HBA.out); have HBE := Lib.hid (blk_other HBD.out (p := ⟨b, o, none⟩) (box_ne_int (k := .i64) HBD.out HCS.out ⟨_, hc5⟩) (.int .i64 x)); have HCC := Lib.hid ((HT5.out.bo.head_at (by rw [List.length_set]; exact hx0)).trans hv0); clear hr ho hT5 hx HTA HIA))
        go_wp2
        go_ret
        exact ⟨_, _, _, _, rfl, HS.out.set0 hx0 hx3, HT5.out, by omega, HBE.out⟩
      · go_wp2
        go_ret
        exact ⟨_, _, _, _, rfl, HS.out, HT2.out, by omega, HB2.out⟩
    · go_wp2
      go_ret
      exact ⟨_, _, _, _, rfl, HS.out, HT2.out, by omega, HB2.out⟩
  · by_cases e1 : k = 1
    · subst e1
      have HI := Lib.hid (HT2.out.lit 1)
      have HNO := Lib.hid (box_ne_own HB2.out HT2.out.bo.own (by decide))
      have HBF := Lib.hid (blk_below (blk_below HB2.out (below_alloc w2 (.cells #[iv 1] 3))) (below_alloc _ (.cells #[.slice (some ⟨w2.heap.size, 0, none⟩) 1 1] 30)))
      clear HT2
      have hWs : (w2.alloc (.cells #[iv 1] 3)).heap.size = w2.heap.size + 1 := by simp
      obtain ⟨Ar, nr, cr, gg, e, hn, ho, _⟩ := HI.out.bi.owns (by simp) (fun x hx => by simp at hx; omega)
      injection e with e1 e2 e3
      subst e1
      subst e2
      subst e3
      have HO := Lib.hid ho
      have hb := below_alloc (w2.alloc (.cells #[iv 1] 3)) (.cells #[.slice (some ⟨w2.heap.size, 0, none⟩) 1 1] 30)
      have HB4 := Lib.hid (HI.out.bo.below hb).own
      have HN := Lib.hid (cell_one_new (w2.alloc (.cells #[iv 1] 3)) (.slice (some ⟨w2.heap.size, 0, none⟩) 1 1) 30)
      have hHs := HI.out.hs
      have hlh := HI.out.lh
      clear hb ho hn
      obtain ⟨i0, hi0, hz0, hz1, hz2⟩ := info_parts Try.info_row
      go_wp2_with (at_builtin; refine wpList_append_own_at _ rfl _ _ 23 rfl wb.heap.size 30 i0 (.slice none 0 0) 1 24 Try.underlying23 hi0 hz0 hz1 hz2 rfl (by decide) _ xss.length vs rfl HB4.out ⟨w2.heap.size + 1, 0, none⟩ 1 1 [.slice (some ⟨w2.heap.size, 0, none⟩) 1 1] rfl rfl ?d1 ?d2 ?d3 ?d4 ?d5 ?_)
      case d1 => have := HN.out; rw [hWs] at this; exact this
      case d2 => intro u hu; simp at hu; subst hu; rfl
      case d3 => unfold maxLen; omega
      case d4 => omega
      case d5 => simp; omega
      intro v' w5 hown' hgrow _ hat
      have HT5 := Lib.hid (TI.done (w := w2.alloc (.cells #[iv 1] 3)) (ys := [1]) (xss := xss) (v := .slice Av xss.length cv) (v' := v') (vs := vs) (Ar := some ⟨w2.heap.size, 0, none⟩) (cr := 1) HI.out HO.out hown' hgrow (by simpa using hat))
      have HBG := Lib.hid (show Blk w5 h 54 cs from (hgrow.block h (blk_lt HBF.out) (fun e => HNO.out e.symm)).trans HBF.out)
      clear HB4 HN hown' hgrow hat HI HO
      go_wp2
      go_ret
      exact ⟨_, _, _, _, rfl, HS.out.snoc h7 (by omega), HT5.out, by omega, HBG.out⟩
    · by_cases e2 : k = 2
      · subst e2
        have HF := Lib.hid HT2.out.fresh
        have HBF := Lib.hid (blk_below HB2.out (below_alloc w2 (.cells #[] 30)))
        go_wp2
        go_ret
        exact ⟨_, _, _, _, rfl, Small.nil, HF.out, by omega, HBF.out⟩
      · go_wp2
        go_ret
        exact ⟨_, _, _, _, rfl, HS.out, HT2.out, by omega, HB2.out⟩
end Go.Proofs.Ytjkmgpiiamffgaa

/- A game under way: both tables and the box. -/
namespace Go.Proofs.Ytjkmgpiiamffgaa
open Go.RowKit

theorem add_at (b o i : Nat) : (⟨b, o, none⟩ : Addr).add i = ⟨b, o + i, none⟩ := by unfold Addr.add; split <;> simp_all
theorem OwnI.mono_lo {lo hi lo' w b A n c xs} (h : OwnI lo hi w b A n c xs) (k : lo' ≤ lo) : OwnI lo' hi w b A n c xs := h.mono k (Nat.le_refl _)
theorem ownsRow_lo {w : World} {base base' : Nat} {e : TypeId} {size n : Nat} {v : Value} {xs : List Value} (h : w.ownsRow base e size v n xs) (k : base' ≤ base) : w.ownsRow base' e size v n xs := by
  obtain ⟨h1, h2⟩ := h
  refine ⟨h1, ?_⟩
  rcases h2 with h2 | ⟨g, cap, cur, rfl, hb, r⟩
  · exact .inl h2
  · exact .inr ⟨g, cap, cur, rfl, Nat.le_trans k hb, r⟩
theorem Bld.mono_lo {lo hi lo' w v vs xss} (h : Bld lo hi w v vs xss) (k : lo' ≤ lo) : Bld lo' hi w v vs xss := by
  obtain ⟨h1, h4, G, R, C, h2, h3⟩ := h
  exact ⟨ownsRow_lo h1 k, h4, G, R, C, fun j hj => ⟨(h2 j hj).1, (h2 j hj).2.1.mono_lo k, (h2 j hj).2.2⟩, h3⟩

/-- A number of a table that append has made is set. -/
theorem Bld.set_at {lo hi w v vs xss} (h : Bld lo hi w v vs xss) {i j : Nat} (h0 : i < xss.length) (h1 : j < (gr xss i).length) {x : Int} (hx : -9223372036854775808 ≤ x ∧ x ≤ 9223372036854775807) :
    ∃ bo c b o cc, v = .slice (some ⟨bo, 0, none⟩) xss.length c ∧ w.cell? ⟨bo, i, none⟩ = some (.slice (some ⟨b, o, none⟩) (gr xss i).length cc) ∧ lo ≤ b ∧ b < hi ∧ (∃ y, w.cell? ⟨b, o + j, none⟩ = some (.int .i64 y)) ∧ w.frozen? ⟨b, o + j, none⟩ = false ∧
      Bld lo hi (w.setCell ⟨b, o + j, none⟩ (.int .i64 x)) v vs (xss.set i ((gr xss i).set j x)) := by
  obtain ⟨ho, h4, G, R, C, h2, h3⟩ := h
  obtain ⟨q0, q1, q2⟩ := h2 i h0
  obtain ⟨o, e, l1, l2, hf⟩ := q1.own (by omega)
  have q1' := q1
  rw [e] at q1' q0
  have hset := q1'.set h1 hx
  obtain ⟨b', o', e', hc⟩ := q1.ints.at_ (by omega)
  rw [e] at e'
  injection e' with e'
  injection e' with e1 e2 _
  have hc0 := hc j h1
  rw [← e1, ← e2] at hc0
  have hlen : ∀ k, (gr (xss.set i ((gr xss i).set j x)) k).length = (gr xss k).length := fun k => by
    by_cases e : k = i
    · subst e; rw [gr_set_eq h0, List.length_set]
    · rw [gr_set_ne e]
  have hv : ∃ bo c, v = .slice (some ⟨bo, 0, none⟩) xss.length c ∧ w.cell? ⟨bo, i, none⟩ = vs[i]? := by
    rcases ho.2 with ⟨_, h5⟩ | ⟨g, cap, cur, rfl, hb, _⟩
    · omega
    · have hcx := ho.cells (g := g) rfl i _ q0
      rw [add_at, Nat.zero_add] at hcx
      exact ⟨g, cap, rfl, by rw [q0]; exact hcx⟩
  obtain ⟨bo, c, ev, hcv⟩ := hv
  refine ⟨bo, c, G i, o, C i, ev, by rw [hcv, q0], l1, l2, ⟨_, hc0⟩, hf j h1, ⟨?_, h4, G, R, C, fun k hk => ?_, fun k l hkl hl hk0 hl0 => ?_⟩⟩
  · rw [List.length_set]
    exact blk_kept ho fun g hg => Below.heap_setCell _ _ _ _ (fun e => q2 (by omega) (by rw [hg, e]))
  · rw [List.length_set] at hk
    rw [hlen]
    obtain ⟨a, b, c⟩ := h2 k hk
    refine ⟨a, ?_, c⟩
    by_cases ek : k = i
    · subst ek
      rw [gr_set_eq h0, e]
      exact hset
    · rw [gr_set_ne ek]
      exact b.of_block fun hp => Below.heap_setCell _ _ _ _ (by
        show G k ≠ G i
        rcases Nat.lt_or_gt_of_ne ek with hl | hl
        · exact h3 k i hl h0 hp (by omega)
        · exact Ne.symm (h3 i k hl hk (by omega) hp))
  · rw [List.length_set] at hl
    rw [hlen] at hk0 hl0
    exact h3 k l hkl hl hk0 hl0
/-- .. and of a table of one's own. -/
theorem OwnR.set_at {lo hi w b A n c xss} (h : OwnR lo hi w b A n c xss) {i j : Nat} (h0 : i < n) (h1 : j < (gr xss i).length) {x : Int} (hx : -9223372036854775808 ≤ x ∧ x ≤ 9223372036854775807) :
    ∃ o g r cc, A = some ⟨b, o, none⟩ ∧ w.cell? ⟨b, o + i, none⟩ = some (.slice (some ⟨g, r, none⟩) (gr xss i).length cc) ∧ lo ≤ g ∧ g < hi ∧ (∃ y, w.cell? ⟨g, r + j, none⟩ = some (.int .i64 y)) ∧ w.frozen? ⟨g, r + j, none⟩ = false ∧
      OwnR lo hi (w.setCell ⟨g, r + j, none⟩ (.int .i64 x)) b A n c (xss.set i ((gr xss i).set j x)) := by
  obtain ⟨o, g, R, cc, e, c1, hI, hset⟩ := h.at_row h0
  obtain ⟨r, e2, l1, l2, hf⟩ := hI.own (by omega)
  subst e2
  obtain ⟨b', o', e', hc⟩ := hI.ints.at_ (by omega)
  injection e' with e'
  injection e' with e3 e4 _
  subst e3
  subst e4
  exact ⟨o, g, r, cc, e, c1, l1, l2, ⟨_, hc j h1⟩, hf j h1, (hset _ _ (by rw [List.length_set]) (hI.set h1 hx) (fun hz => absurd hz (by omega)) ((One.refl g w).set _ _)).1⟩

/-- Rows of as many numbers. -/
structure Shp (n m : Nat) (xss : List (List Int)) : Prop where
  len : xss.length = n
  row : ∀ k, k < n → (gr xss k).length = m
  sm : Small xss
theorem Shp.set {n m xss} (h : Shp n m xss) {i j : Nat} (hi : i < n) {x : Int} (hx : -1000 ≤ x ∧ x ≤ 1000) : Shp n m (xss.set i ((gr xss i).set j x)) := by
  have hl := h.len
  have hm := h.sm.rows _ (gr_mem (xs := xss) (k := i) (by omega))
  refine ⟨by rw [List.length_set]; exact hl, fun k hk => ?_, ⟨by rw [List.length_set]; exact h.sm.n, fun r hr => ?_⟩⟩
  · by_cases e : k = i
    · subst e; rw [gr_set_eq (by omega), List.length_set]; exact h.row k hk
    · rw [gr_set_ne e]; exact h.row k hk
  · rcases List.mem_or_eq_of_mem_set hr with hr | rfl
    · exact h.sm.rows r hr
    · refine ⟨by rw [List.length_set]; exact hm.1, fun y hy => ?_⟩
      rcases List.mem_or_eq_of_mem_set hy with hy | rfl
      · exact hm.2 y hy
      · exact hx

structure GO (w0 w3 : World) (mid g : Nat) (A : Option Addr) (l c p : Nat) (Aa : Option Addr) (na ca ga : Nat) (xa : List (List Int)) (v : Value) (vs : List Value) (xb : List (List Int)) (h : Nat) (w : World) : Prop where
  rd : Rdr w0 w g A l c p
  a : OwnR w3.heap.size mid w ga Aa na ca xa
  b : Bld mid w.heap.size w v vs xb
  gl : g < w3.heap.size
  lm : w3.heap.size ≤ mid
  mw : mid ≤ w.heap.size
  up : w3.grownBy w (some g)
  box : Blk w h 54 #[.slice Aa na ca, v]
theorem box_slices (Aa Bb : Option Addr) (na ca nb cb : Nat) : ∀ (k : Nat) (v : Value), (#[.slice Aa na ca, .slice Bb nb cb] : Array Value)[k]? = some v → ∀ (kk : IntKind) (x : Int), v ≠ Value.int kk x := by
  intro k v h kk x e
  subst e
  match k, h with
  | 0, h => simp at h
  | 1, h => simp at h
  | k + 2, h => simp at h
theorem GO.below {w0 w3 mid g A l c p Aa na ca ga xa v vs xb h w w'} (o : GO w0 w3 mid g A l c p Aa na ca ga xa v vs xb h w) (k : Below w.heap.size w w') : GO w0 w3 mid g A l c p Aa na ca ga xa v vs xb h w' :=
  ⟨o.rd.below_ k, o.a.below k, (o.b.below k).mono k.size, o.gl, o.lm, Nat.le_trans o.mw k.size, grown_below o.up k, blk_below o.box k⟩
theorem GO.one {w0 w3 mid g A l c p p' Aa na ca ga xa v vs xb h w w'} (o : GO w0 w3 mid g A l c p Aa na ca ga xa v vs xb h w) (hr : Rdr w0 w' g A l c p') (ho : One g w w') : GO w0 w3 mid g A l c p' Aa na ca ga xa v vs xb h w' := by
  have hgl := o.gl
  have hlm := o.lm
  have hne : h ≠ g := box_ne_box o.box o.rd.box (by decide)
  exact ⟨hr, o.a.of_blocks fun k h1 _ _ => ho.block k (by omega), by rw [ho.size]; exact o.b.of_blocks fun k h1 _ _ => ho.block k (by omega), o.gl, o.lm, by rw [ho.size]; exact o.mw,
    ⟨ho.os.trans o.up.os, ho.tape.trans o.up.tape, ho.output.trans o.up.output, by rw [ho.size]; exact o.up.size, fun k hk hne' => (ho.block k (fun e => hne' (by rw [e]))).trans (o.up.block k hk hne')⟩, (ho.block h hne).trans o.box⟩
/-- A cell from the third world on is set: what has its memory elsewhere stays. -/
theorem GO.setA {w0 w3 mid g A l c p Aa na ca ga xa Bb nb cb vs xb h w} (o : GO w0 w3 mid g A l c p Aa na ca ga xa (.slice Bb nb cb) vs xb h w) {i j : Nat} (h0 : i < na) (h1 : j < (gr xa i).length) {x : Int} (hx : -1000 ≤ x ∧ x ≤ 1000) :
    ∃ oo gg r cc, Aa = some ⟨ga, oo, none⟩ ∧ w.cell? ⟨ga, oo + i, none⟩ = some (.slice (some ⟨gg, r, none⟩) (gr xa i).length cc) ∧ (∃ y, w.cell? ⟨gg, r + j, none⟩ = some (.int .i64 y)) ∧ w.frozen? ⟨gg, r + j, none⟩ = false ∧
      GO w0 w3 mid g A l c p Aa na ca ga (xa.set i ((gr xa i).set j x)) (.slice Bb nb cb) vs xb h (w.setCell ⟨gg, r + j, none⟩ (.int .i64 x)) := by
  obtain ⟨oo, gg, r, cc, e, c1, l1, l2, hy, hf, hown⟩ := o.a.set_at h0 h1 (x := x) (by omega)
  have hgl := o.gl
  have hlm := o.lm
  have hs : (w.setCell ⟨gg, r + j, none⟩ (.int .i64 x)).heap.size = w.heap.size := by simp [World.setCell]
  have hne : h ≠ gg := box_ne_int (k := .i64) o.box (box_slices _ _ _ _ _ _) hy
  refine ⟨oo, gg, r, cc, e, c1, hy, hf, ⟨⟨blk_other o.rd.box (by show g ≠ gg; omega) _, o.rd.bytes, o.rd.below.setCell (by show w0.heap.size ≤ gg; have := o.rd.lt; omega) _, o.rd.lt, o.rd.small⟩, hown, by rw [hs]; exact o.b.of_blocks fun k h1 _ _ => Below.heap_setCell _ _ _ _ (by show k ≠ gg; omega), o.gl, o.lm, by rw [hs]; exact o.mw, ?_, blk_other o.box hne _⟩⟩
  exact ⟨o.up.os, o.up.tape, o.up.output, by rw [hs]; exact o.up.size, fun k hk hne => (Below.heap_setCell _ _ _ _ (by show k ≠ gg; omega)).trans (o.up.block k hk hne)⟩
theorem GO.setB {w0 w3 mid g A l c p Aa na ca ga xa Bb nb cb vs xb h w} (o : GO w0 w3 mid g A l c p Aa na ca ga xa (.slice Bb nb cb) vs xb h w) {i j : Nat} (h0 : i < xb.length) (h1 : j < (gr xb i).length) {x : Int} (hx : -1000 ≤ x ∧ x ≤ 1000) :
    ∃ bo gg r cc, Bb = some ⟨bo, 0, none⟩ ∧ w.cell? ⟨bo, i, none⟩ = some (.slice (some ⟨gg, r, none⟩) (gr xb i).length cc) ∧ (∃ y, w.cell? ⟨gg, r + j, none⟩ = some (.int .i64 y)) ∧ w.frozen? ⟨gg, r + j, none⟩ = false ∧
      GO w0 w3 mid g A l c p Aa na ca ga xa (.slice Bb nb cb) vs (xb.set i ((gr xb i).set j x)) h (w.setCell ⟨gg, r + j, none⟩ (.int .i64 x)) := by
  obtain ⟨bo, c', gg, r, cc, e, c1, l1, l2, hy, hf, hown⟩ := o.b.set_at h0 h1 (x := x) (by omega)
  have hgl := o.gl
  have hlm := o.lm
  have hs : (w.setCell ⟨gg, r + j, none⟩ (.int .i64 x)).heap.size = w.heap.size := by simp [World.setCell]
  have hne : h ≠ gg := box_ne_int (k := .i64) o.box (box_slices _ _ _ _ _ _) hy
  injection e with e1 _ _
  refine ⟨bo, gg, r, cc, e1, c1, hy, hf, ⟨⟨blk_other o.rd.box (by show g ≠ gg; omega) _, o.rd.bytes, o.rd.below.setCell (by show w0.heap.size ≤ gg; have := o.rd.lt; omega) _, o.rd.lt, o.rd.small⟩, o.a.of_blocks fun k _ h2 _ => Below.heap_setCell _ _ _ _ (by show k ≠ gg; omega), by rw [hs]; exact hown, o.gl, o.lm, by rw [hs]; exact o.mw, ?_, blk_other o.box hne _⟩⟩
  exact ⟨o.up.os, o.up.tape, o.up.output, by rw [hs]; exact o.up.size, fun k hk hne => (Below.heap_setCell _ _ _ _ (by show k ≠ gg; omega)).trans (o.up.block k hk hne)⟩
end Go.Proofs.Ytjkmgpiiamffgaa

/- Squares and fields drawn from bytes. -/
namespace Go.Proofs.Ytjkmgpiiamffgaa
open Go.RowKit

/-- A number of a drawn table is set. -/
theorem TO.set_at {w0 wb g A l c p v vs xss w} (h : TO w0 wb g A l c p v vs xss w) {i j : Nat} (h0 : i < xss.length) (h1 : j < (gr xss i).length) {x : Int} (hx : -1000 ≤ x ∧ x ≤ 1000) :
    ∃ bo c' b o cc, v = .slice (some ⟨bo, 0, none⟩) xss.length c' ∧ w.cell? ⟨bo, i, none⟩ = some (.slice (some ⟨b, o, none⟩) (gr xss i).length cc) ∧ (∃ y, w.cell? ⟨b, o + j, none⟩ = some (.int .i64 y)) ∧ w.frozen? ⟨b, o + j, none⟩ = false ∧
      TO w0 wb g A l c p v vs (xss.set i ((gr xss i).set j x)) (w.setCell ⟨b, o + j, none⟩ (.int .i64 x)) := by
  obtain ⟨bo, c', b, o, cc, ev, hc, l1, l2, hy, hf, hb⟩ := h.bo.set_at h0 h1 (x := x) (by omega)
  have hgl := h.gl
  have hs : (w.setCell ⟨b, o + j, none⟩ (.int .i64 x)).heap.size = w.heap.size := by simp [World.setCell]
  refine ⟨bo, c', b, o, cc, ev, hc, hy, hf, ⟨⟨blk_other h.rd.box (by show g ≠ b; omega) _, h.rd.bytes, h.rd.below.setCell (by show w0.heap.size ≤ b; have := h.rd.lt; omega) _, h.rd.lt, h.rd.small⟩, by rw [hs]; exact hb, h.gl, ?_⟩⟩
  exact ⟨h.up.os, h.up.tape, h.up.output, by rw [hs]; exact h.up.size, fun k hk hne => (Below.heap_setCell _ _ _ _ (by show k ≠ b; omega)).trans (h.up.block k hk hne)⟩
/-- .. and read. -/
theorem TO.get_at {w0 wb g A l c p bo c' vs xss w} (h : TO w0 wb g A l c p (.slice (some ⟨bo, 0, none⟩) xss.length c') vs xss w) {i j : Nat} (h0 : i < xss.length) (h1 : j < (gr xss i).length) :
    ∃ b o cc, w.cell? ⟨bo, i, none⟩ = some (.slice (some ⟨b, o, none⟩) (gr xss i).length cc) ∧ w.cell? ⟨b, o + j, none⟩ = some (.int .i64 (g2 xss i j)) := by
  obtain ⟨ho, h4, G, R, C, h2, h3⟩ := h.bo
  obtain ⟨q0, q1, q2⟩ := h2 i h0
  have hcx := ho.cells (g := bo) rfl i _ q0
  rw [add_at, Nat.zero_add] at hcx
  obtain ⟨b, o, e, hc⟩ := q1.ints.at_ (by omega)
  rw [e] at hcx
  exact ⟨b, o, C i, hcx, hc j h1⟩
theorem g2_small {xss : List (List Int)} (h : Small xss) {i j : Nat} (h0 : i < xss.length) (h1 : j < (gr xss i).length) : -1000 ≤ g2 xss i j ∧ g2 xss i j ≤ 1000 :=
  (h.rows _ (gr_mem h0)).2 _ (gi_mem h1)
theorem TO.qu {w0 wb g A l c p v vs xss w w'} (h : TO w0 wb g A l c p v vs xss w) (k : Quiet w w') : TO w0 wb g A l c p v vs xss w' := h.below k.below
theorem Shp.of {n m : Nat} {lo hi : Int} {xss : List (List Int)} (hl : xss.length = n) (h : ∀ r ∈ xss, RowIn m lo hi r) (hn : n ≤ 4) (hm : m ≤ 4) (h1 : -1000 ≤ lo) (h2 : hi ≤ 1000) : Shp n m xss :=
  ⟨hl, fun k hk => (h _ (gr_mem (by omega))).1, ⟨by omega, fun r hr => ⟨by have := (h r hr).1; omega, fun y hy => by have := (h r hr).2 y hy; omega⟩⟩⟩

set_option maxRecDepth 100000 in
set_option maxHeartbeats 3200000 in
theorem someSquare_any (w0 w : World) (g : Nat) (A : Option Addr) (l c p : Nat) (h : Rdr w0 w g A l c p) (hp : p < 800000000) :
    Calls Try.prog 72 #[.pointer (some ⟨g, 0, none⟩)] w (SomeT w0 g A l c p w) := by
  have HR := Lib.hid h
  have H1 := Lib.hid (one_lit w0 w _ g A l c (p) w.heap.size 5 [2, 3, 3, 2, 1] h (by omega) (below_alloc w (.cells #[iv 2, iv 3, iv 3, iv 2, iv 1] 3)) (Nat.le_refl _) (Ints.lit w [2, 3, 3, 2, 1] (by decide) (by decide)) (by omega))
  clear h
  go_enter Try.func72, Try.ntmps72
  go_wp2_with fail
  refine H1.out.mono ?_
  rintro e w1 ⟨n, rfl, hx, hr, hgr⟩
  have hn1 : 1 ≤ n ∧ n ≤ 3 := by simp at hx; omega
  have HG1 := Lib.hid hgr
  have H2 := Lib.hid (one_lit w0 w1 _ g A l c (p + 1) w1.heap.size 3 [3, 9, 1] hr (by omega) (below_alloc w1 (.cells #[iv 3, iv 9, iv 1] 3)) (Nat.le_refl _) (Ints.lit w1 [3, 9, 1] (by decide) (by decide)) (by omega))
  clear hx hr hgr H1 HR
  go_wp2_with fail
  refine H2.out.mono ?_
  rintro e w2 ⟨x, rfl, hx, hr, hgr⟩
  have hx1 : 1 ≤ x ∧ x ≤ 9 := by simp at hx; omega
  have HG2 := Lib.hid (grown_trans HG1.out hgr)
  obtain ⟨n, rfl⟩ := Int.eq_ofNat_of_zero_le (show 0 ≤ n by omega)
  have hn3 : n ≤ 3 := by omega
  have hn0 : 1 ≤ n := by omega
  have H4 := Lib.hid (tableOf_any w0 w2 g A l c (p + 2) n n (-x) x hr (by omega) (by omega) (by omega) (by omega) (by omega) (by omega))
  clear hx hr hgr H2 HG1 hn1
  go_wp2_with fail
  refine H4.out.mono ?_
  rintro e w4 ⟨Av, cv, vs, xss, p4, rfl, hl, hxs, hto, hp4⟩
  have HTO := Lib.hid hto
  have HSP := Lib.hid (Shp.of hl hxs (by omega) (by omega) (by omega) (by omega))
  have H5 := Lib.hid (pick_any w0 w4 g A l c p4 4 hto.rd (by omega))
  clear hxs hto H4 hl
  go_wp2_with fail
  refine H5.out.mono ?_
  rintro e w5 ⟨k, rfl, hk1, _, hr, z, hw⟩
  have hone := Rdr.one (g := g) w4 (.int .i64 (p4 + 1 : Nat)) z
  rw [← hw] at hone
  have HT5 := Lib.hid (HTO.out.one hr hone)
  clear hr hone hw hk1 H5 HTO
  by_cases e0 : k = 0
  · subst e0
    have HL0 := Lib.hid (show ∃ zs, Shp n n zs ∧ TO w0 w2 g A l c (p4 + 1) (.slice Av n cv) vs zs w5 from ⟨xss, HSP.out, HT5.out⟩)
    clear HSP HT5
    go_wp2
    go_loopw [6] (fun i_ wr => ∃ i : Nat, i ≤ n ∧ i_ = .int .i64 i ∧ Hid (∃ zs, Shp n n zs ∧ TO w0 w2 g A l c (p4 + 1) (.slice Av n cv) vs zs wr)) (fun i_ _ => n - (intOf i_).toNat)
    case atStart => exact ⟨0, Nat.zero_le _, rfl, HL0⟩
    case round =>
      clear HL0
      obtain ⟨i, hi, rfl, HL⟩ := hrel
      by_cases hlt : i < n
      · go_wp2
        go_loopw [7] (fun j_ wi => ∃ j : Nat, j ≤ i ∧ j_ = .int .i64 j ∧ Hid (∃ zs, Shp n n zs ∧ TO w0 w2 g A l c (p4 + 1) (.slice Av n cv) vs zs wi)) (fun j_ _ => i - (intOf j_).toNat)
        case atStart => exact ⟨0, Nat.zero_le _, rfl, HL⟩
        case round =>
          clear HL
          obtain ⟨j, hj, rfl, HL⟩ := hrel
          by_cases hjl : j < i
          · obtain ⟨xs, hsp, hto⟩ := HL.out
            have HSX := Lib.hid hsp
            have hlen := hsp.len
            have hri := hsp.row i hlt
            have hrj := hsp.row j (by omega)
            have hv := g2_small hsp.sm (i := j) (j := i) (by omega) (by omega)
            obtain ⟨bo, c', b, o, cc, ev, q1, ⟨y, q2⟩, q3, hts⟩ := hto.set_at (i := i) (j := j) (by omega) (by omega) hv
            injection ev with ev1 ev2 ev3
            subst ev1
            subst ev3
            clear ev2
            have hto' := hto
            rw [← hlen] at hto'
            obtain ⟨b2, o2, cc2, q4, q5⟩ := hto'.get_at (i := j) (j := i) (by omega) (by omega)
            rw [hri] at q1
            rw [hrj] at q4
            have HN := Lib.hid (show ∃ zs, Shp n n zs ∧ TO w0 w2 g A l c (p4 + 1) (.slice (some ⟨bo, 0, none⟩) n cv) vs zs (wr.setCell ⟨b, o + j, none⟩ (.int .i64 (g2 xs j i))) from ⟨_, hsp.set hlt hv, hts⟩)
            have hjn : j < n := by omega
            clear hsp hto hto' hlen hri hrj hv hts HL
            generalize g2 xs j i = x0 at *
            go_wp2
            go_region
            all_goals
              clear q1 q2 q3 q4 q5
              go_wp2
              go_roundw
              case rel => exact ⟨j + 1, by omega, by go_num, Lib.hid (by obtain ⟨xs', h1, h2⟩ := HN.out; exact ⟨xs', h1, by first | exact h2 | exact h2.qu ⟨1, rfl⟩ | exact h2.qu ⟨_, rfl⟩⟩)⟩
              case measure => simp [intOf]; omega
          · obtain rfl : j = i := by omega
            go_wp2
            go_roundw
            case rel => exact ⟨j + 1, by omega, by go_num, HL⟩
            case measure => simp [intOf]; omega
      · obtain rfl : i = n := by omega
        obtain ⟨xs, hsp, hto⟩ := HL.out
        have HSX := Lib.hid hsp
        have HTX := Lib.hid hto
        clear hsp hto HL
        generalize wr = w6 at *
        have H6 := Lib.hid (spoil_any w0 w2 w6 g A l c (p4 + 1) _ _ _ _ (by rw [HSX.out.len]; exact HTX.out) (by omega) HSX.out.sm (by have := HSX.out.len; omega))
        rw [HSX.out.len] at H6
        go_wp2_with fail
        refine H6.out.mono ?_
        rintro e w9 ⟨v', vs', xss', p', rfl, hs, hto, hp5⟩
        have HTO := Lib.hid hto
        have HSM2 := Lib.hid hs
        clear hs hto H6
        go_wp2
        go_ret
        exact ⟨_, _, _, _, _, rfl, HSM2.out, HTO.out, by omega, HG2.out⟩
  · have e0' : (k == 0) = false := by simpa using e0
    have H6 := Lib.hid (spoil_any w0 w2 w5 g A l c (p4 + 1) _ _ _ _ (by rw [HSP.out.len]; exact HT5.out) (by omega) HSP.out.sm (by have := HSP.out.len; omega))
    rw [HSP.out.len] at H6
    go_wp2_with fail
    refine H6.out.mono ?_
    rintro e w9 ⟨v', vs', xss', p', rfl, hs, hto, hp5⟩
    have HTO := Lib.hid hto
    have HSM2 := Lib.hid hs
    clear hs hto H6
    go_wp2
    go_ret
    exact ⟨_, _, _, _, _, rfl, HSM2.out, HTO.out, by omega, HG2.out⟩

end Go.Proofs.Ytjkmgpiiamffgaa

/- A square and a ring drawn. -/
namespace Go.Proofs.Ytjkmgpiiamffgaa
open Go.RowKit

theorem SH.ints2 {w0 wb g A l c p u ys w} (h : SH w0 wb g A l c p u ys w) (hl : ys.length ≤ 100) (hb : ∀ x ∈ ys, -1000000 ≤ x ∧ x ≤ 1000000) : ∃ Av cv, u = .slice Av ys.length cv ∧ Ints w Av ys.length cv ys := by
  obtain ⟨Av, n, cv, b, rfl, rfl, ho, _⟩ := h.bi.owns (by omega) (fun x hx => by have := hb x hx; omega)
  exact ⟨Av, cv, rfl, ho.ints⟩
set_option maxRecDepth 100000 in
set_option maxHeartbeats 2000000 in
theorem DrawCopyRing_any (A : Option Addr) (n c : Nat) (w : World) (h : Bytes w A n c) :
    Calls Try.prog 28 #[.slice A n c] w (DrawnTS w) := by
  have H0 := Lib.hid (newReader_any A n c w h)
  clear h
  obtain ⟨i0, hi0, hz0, hz1, hz2⟩ := info_parts Try.info_int
  go_enter Try.func28, Try.ntmps28
  go_wp2_with fail
  refine H0.out.mono ?_
  rintro e w1 ⟨A1, l, c1, rfl, hl, hr, hs⟩
  have H1 := Lib.hid (someSquare_any w w1 w.heap.size A1 l c1 0 hr (by omega))
  clear hr hl H0
  go_wp2_with fail
  refine H1.out.mono ?_
  rintro e w2 ⟨wb, v', vs', xss', p', rfl, hsm, hto, hp, hg⟩
  have hsz := hg.size
  obtain ⟨Av, nv, cv, gg, rfl, hnv, hown⟩ := hto.bo.owns (by have := hsm.n; omega)
  have HO := Lib.hid (hown.mono (show w.heap.size + 1 ≤ wb.heap.size by have := hto.gl; omega) (Nat.le_refl _))
  have HS := Lib.hid hsm
  have hn8 : nv ≤ 8 := by rw [hnv]; exact hsm.n
  have HS0 := Lib.hid (SH.start hto.rd)
  have HS1 := Lib.hid (HS0.out.below (below_alloc _ (.cells #[iv 5, iv 6, iv 4, iv 3, iv 8, iv 7, iv 2, iv 9] 3)))
  have hgw : w.heap.size < (w2.alloc (.cells #[] 3)).heap.size := blk_lt HS0.out.rd.box
  have HIN := Lib.hid (Ints.lit (w2.alloc (.cells #[] 3)) [5, 6, 4, 3, 8, 7, 2, 9] (by simp) (by intro x hx; simp at hx; omega))
  have hsa : (w2.alloc (.cells #[] 3)).heap.size = w2.heap.size + 1 := World.size_alloc _ _
  rw [hsa] at HIN
  have HC := Lib.hid (one_any w ((w2.alloc (.cells #[] 3)).alloc (.cells #[iv 5, iv 6, iv 4, iv 3, iv 8, iv 7, iv 2, iv 9] 3)) w.heap.size A1 l c1 p' _ 8 8 [5, 6, 4, 3, 8, 7, 2, 9] HS1.out.rd (by omega) HIN.out (by omega) (fun b' o' e' => by injection e' with e'; injection e' with e' _ _; omega))
  clear hsm hto hown hg H1 hnv HS0 HIN
  go_wp2_with fail
  refine HC.out.mono ?_
  rintro e w3 ⟨K, rfl, hx, hr, ho⟩
  have HS2 := Lib.hid (HS1.out.one hr ho)
  obtain ⟨k, rfl, hk9, hk1⟩ : ∃ k : Nat, K = (k : Int) ∧ k ≤ 9 ∧ 1 ≤ k := ⟨K.toNat, by simp at hx; omega⟩
  clear hx hr ho HC HS1 hgw hsa
  go_wp2
  go_loopw [6] (fun u wr => ∃ (ys : List Int) (q : Nat), ys.length ≤ k ∧ q ≤ p' + 1 + ys.length ∧ Hid (∀ x ∈ ys, 0 ≤ x ∧ x ≤ 8) ∧ Hid (SH w w2 w.heap.size A1 l c1 q u ys wr)) (fun u _ => k - (match u with | .slice _ k _ => k | _ => 0))
  case atStart => exact ⟨[], p' + 1, Nat.zero_le _, by simp, Lib.hid (by simp), HS2⟩
  case round =>
    clear HS2
    obtain ⟨ys, q, hyn, hq, HR, HI⟩ := hrel
    obtain ⟨Au, cu, rfl⟩ := HI.out.bi.form
    by_cases hlt : ys.length < k
    · have HC := Lib.hid (pick_any w _ w.heap.size A1 l c1 q nv HI.out.rd (by omega))
      go_wp2_with fail
      refine HC.out.mono ?_
      rintro e w4 ⟨x, rfl, hx1, hx2, hr, z, hw⟩
      have hone := Rdr.one (g := w.heap.size) wr (.int .i64 (q + 1 : Nat)) z
      rw [← hw] at hone
      have hx : 0 ≤ x ∧ x ≤ 8 := by
        by_cases h0 : 1 ≤ (nv : Int)
        · have := hx1 h0; omega
        · have := hx2 (by omega); omega
      have HX := Lib.hid hx
      have HI5 := Lib.hid (HI.out.one hr hone)
      clear hr hone hw hx1 hx2 hx HC HI
      have hb := below_alloc w4 (.cells #[iv x] 3)
      have HB4 := Lib.hid (HI5.out.bi.below hb).own
      have HN := Lib.hid (cell_one_new w4 (iv x) 3)
      have hHs := HI5.out.hs
      clear hb
      go_wp2_with (at_builtin; refine wpList_append_own_at _ rfl _ _ 30 rfl w2.heap.size 3 i0 (.int .i64 0) 1 8 Try.underlying30 hi0 hz0 hz1 hz2 rfl (by decide) _ ys.length (ys.map iv) rfl HB4.out ⟨w4.heap.size, 0, none⟩ 1 1 [iv x] rfl rfl ?c1 ?c2 ?c3 ?c4 ?c5 ?_)
      case c1 => exact HN.out
      case c2 => intro u hu; simp at hu; subst hu; rfl
      case c3 => unfold maxLen; omega
      case c4 => omega
      case c5 => simp; omega
      intro v' w5 hown' hgrow _ hat
      have HI6 := Lib.hid (show SH w w2 w.heap.size A1 l c1 (q + 1) v' (ys ++ [x]) w5 from TI.push HI5.out hown' hgrow (by simpa using hat))
      clear HB4 HN hown' hgrow hat HI5
      obtain ⟨Au2, cu2, rfl⟩ := HI6.out.bi.form
      go_wp2
      go_roundw
      case rel => exact ⟨ys ++ [x], q + 1, by simp; omega, by simp; omega, Lib.hid (fun y hy => by
        rcases List.mem_append.1 hy with hy | hy
        · exact HR.out y hy
        · simp at hy; subst hy; exact HX.out), HI6⟩
      case measure => simp; omega
    · have hnx : ys.length = k := by omega
      have HC := Lib.hid (pick_any w _ w.heap.size A1 l c1 q 30 HI.out.rd (by omega))
      go_wp2_with fail
      refine HC.out.mono ?_
      rintro e w4 ⟨m, rfl, hx1, hx2, hr, z, hw⟩
      have hone := Rdr.one (g := w.heap.size) wr (.int .i64 (q + 1 : Nat)) z
      rw [← hw] at hone
      have HI5 := Lib.hid (HI.out.one hr hone)
      clear hr hone hw hx1 hx2 HC HI
      by_cases h0 : m = 0
      · have hz : (m == 0) = true := by simpa using h0
        clear h0
        have HI4 := Lib.hid (HI5.out.below (below_alloc w4 (.cells #[iv (-1), iv 3] 3)))
        have HIN := Lib.hid (Ints.lit w4 [-1, 3] (by simp) (by intro x hx; simp at hx; omega))
        have hgw : w.heap.size < w4.heap.size := blk_lt HI5.out.rd.box
        have HC := Lib.hid (one_any w (w4.alloc (.cells #[iv (-1), iv 3] 3)) w.heap.size A1 l c1 (q + 1) _ 2 2 [-1, 3] HI4.out.rd (by omega) HIN.out (by omega) (fun b' o' e' => by injection e' with e'; injection e' with e' _ _; omega))
        clear HIN HI5
        go_wp2_with fail
        refine HC.out.mono ?_
        rintro e w5 ⟨x, rfl, hx, hr, ho⟩
        have hx5 : -1 ≤ x ∧ x ≤ 3 := by simp at hx; omega
        have HI6 := Lib.hid (HI4.out.one hr ho)
        clear hx hr ho HC HI4
        obtain ⟨b0, cc0, e, hc0, hf0, hset⟩ := HI6.out.set (j := 0) (by omega) x
        injection e with e1 e2 e3
        subst e1
        have HI7 := Lib.hid hset
        have HE := Lib.hid (show ∃ e', e' = (Value.slice (some ⟨b0, 0, none⟩) ys.length cu) ∧ DrawnTS w (.returned (.tuple #[.slice Av nv cv, e'])) (w5.setCell ⟨b0, 0, none⟩ (.int .i64 x)) from by
          obtain ⟨Bv, cb, e, hi⟩ := HI7.out.ints2 (by rw [List.length_set]; omega) (fun y hy => by
            rcases List.mem_or_eq_of_mem_set hy with hy | rfl
            · have := HR.out y hy; omega
            · omega)
          rw [List.length_set] at e hi
          injection e with e1 e2 e3
          subst e1
          subst e3
          exact ⟨_, rfl, Av, nv, cv, gg, xss', _, _, _, _, rfl, HS.out, (HO.out.grown HI7.out.up (by omega)).mono (Nat.le_succ _) HI7.out.up.size, hi, HI7.out.rd.below⟩)
        rw [hnx] at HE
        clear hset HI6 e2 e3
        go_wp2
        go_ret2
        obtain ⟨_, rfl, h⟩ := HE.out
        exact h
      · have hz : (m == 0) = false := by simpa using h0
        clear h0
        have HE := Lib.hid (show DrawnTS w (.returned (.tuple #[.slice Av nv cv, .slice Au ys.length cu])) w4 from by
          obtain ⟨Bv, cb, e, hi⟩ := HI5.out.ints2 (by omega) (fun y hy => by have := HR.out y hy; omega)
          injection e with e1 e2 e3
          subst e1
          subst e3
          exact ⟨Av, nv, cv, gg, xss', _, _, _, _, rfl, HS.out, (HO.out.grown HI5.out.up (by omega)).mono (Nat.le_succ _) HI5.out.up.size, hi, HI5.out.rd.below⟩)
        rw [hnx] at HE
        clear HI5
        go_wp2
        go_ret2
        exact HE.out
end Go.Proofs.Ytjkmgpiiamffgaa

/- Rings that copy: plain. -/
namespace Go.Proofs.Ytjkmgpiiamffgaa

/-- The places ahead and behind; the strategy of a place; what it has. -/
def rl (n i : Nat) : Nat := (i + n - 1) % n
def rr (n i : Nat) : Nat := (i + 1) % n
def rix (x : List Int) (i : Nat) : Nat := (gi x i).toNat
def scv (a : List (List Int)) (x : List Int) (n i : Nat) : Int := g2 a (rix x i) (rix x (rr n i)) + g2 a (rix x i) (rix x (rl n i))
def bat1 (a : List (List Int)) (x : List Int) (n i : Nat) : Nat := if scv a x n i < scv a x n (rl n i) then rl n i else i
def bat (a : List (List Int)) (x : List Int) (n i : Nat) : Nat := if scv a x n (bat1 a x n i) < scv a x n (rr n i) then rr n i else bat1 a x n i
def scL (a : List (List Int)) (x : List Int) (n k : Nat) : List Int := (List.range k).map (scv a x n)
def cpL (a : List (List Int)) (x : List Int) (n k : Nat) : List Int := (List.range k).map fun i => gi x (bat a x n i)
theorem rl_lt {n i : Nat} (h : 0 < n) : rl n i < n := Nat.mod_lt _ h
theorem rr_lt {n i : Nat} (h : 0 < n) : rr n i < n := Nat.mod_lt _ h
theorem bat1_lt {a x n i} (h : i < n) : bat1 a x n i < n := by unfold bat1; split; exact rl_lt (by omega); exact h
theorem bat_lt {a x n i} (h : i < n) : bat a x n i < n := by unfold bat; split; exact rr_lt (by omega); exact bat1_lt h
/-- A ring of strategies. -/
structure RgQ (a : List (List Int)) (x : List Int) : Prop where
  v : VQ a
  s : ∀ i, i < x.length → InR (gi x i) 0 ((a.length : Int) - 1)
  n3 : 3 ≤ x.length
  n8 : x.length ≤ 8
theorem RgQ.ix {a x} (h : RgQ a x) {i : Nat} (hi : i < x.length) : gi x i = ((rix x i : Nat) : Int) ∧ rix x i < a.length := by
  have := h.s i hi
  unfold InR at this
  unfold rix
  omega
noncomputable def cpF (a : List (List Int)) (x : List Int) : List Int := if pb (RgQ a x) = true then cpL a x x.length x.length else []
theorem cpF_yes {a x} (h : RgQ a x) : cpF a x = cpL a x x.length x.length := if_pos (pb_true h)
theorem cpF_no {a x} (h : ¬ RgQ a x) : cpF a x = [] := if_neg (by rw [pb_false h]; decide)
theorem cpL_len (a : List (List Int)) (x : List Int) (n k : Nat) : (cpL a x n k).length = k := by simp [cpL]
theorem scL_len (a : List (List Int)) (x : List Int) (n k : Nat) : (scL a x n k).length = k := by simp [scL]
theorem cpF_le (a : List (List Int)) (x : List Int) : (cpF a x).length ≤ 100 := by
  by_cases h : RgQ a x
  · rw [cpF_yes h, cpL_len]; have := h.n8; omega
  · rw [cpF_no h]; simp

end Go.Proofs.Ytjkmgpiiamffgaa

/- A ring turned by one place; a ring of one strategy. -/
namespace Go.Proofs.Ytjkmgpiiamffgaa

theorem rr_eq {n i : Nat} (h : i < n) : rr n i = if i + 1 = n then 0 else i + 1 := by
  unfold rr
  split
  · next e => rw [e]; exact Nat.mod_self n
  · exact Nat.mod_eq_of_lt (by omega)
theorem rl_eq {n i : Nat} (h : i < n) : rl n i = if i = 0 then n - 1 else i - 1 := by
  unfold rl
  split
  · next e => subst e; rw [Nat.mod_eq_of_lt (by omega)]; omega
  · rw [show i + n - 1 = (i - 1) + n by omega, Nat.add_mod_right]; exact Nat.mod_eq_of_lt (by omega)
theorem rr_rl {n i : Nat} (h : i < n) : rr n (rl n i) = i := by
  rw [rr_eq (rl_lt (by omega)), rl_eq h]
  split <;> split <;> omega
theorem rl_rr {n i : Nat} (h : i < n) : rl n (rr n i) = i := by
  rw [rl_eq (rr_lt (by omega)), rr_eq h]
  split <;> split <;> omega
/-- The ring turned by one place. -/
def nxt (x : List Int) : List Int := x.drop 1 ++ [gi x 0]
theorem nxt_len {x : List Int} (h : 0 < x.length) : (nxt x).length = x.length := by simp [nxt]; omega
theorem gi_nxt {x : List Int} {i : Nat} (h : i < x.length) : gi (nxt x) i = gi x (rr x.length i) := by
  rw [rr_eq h]
  unfold nxt
  by_cases e : i + 1 = x.length
  · rw [if_pos e]
    have : (x.drop 1).length = i := by rw [List.length_drop]; omega
    rw [← this]; exact gi_snoc_eq
  · rw [if_neg e, gi_snoc_lt (by rw [List.length_drop]; omega), gi_get (by rw [List.length_drop]; omega), gi_get (by omega), List.getElem_drop]
    congr 1; omega
theorem RgQ.nxt {a x} (h : RgQ a x) : RgQ a (nxt x) := by
  have h3 := h.n3
  have hl := nxt_len (x := x) (by omega)
  refine ⟨h.v, fun i hi => ?_, by rw [hl]; exact h.n3, by rw [hl]; exact h.n8⟩
  rw [hl] at hi
  rw [gi_nxt hi]
  exact h.s _ (rr_lt (by omega))
theorem rix_nxt {x : List Int} {i : Nat} (h : i < x.length) : rix (nxt x) i = rix x (rr x.length i) := by unfold rix; rw [gi_nxt h]
theorem scv_nxt {a : List (List Int)} {x : List Int} {i : Nat} (h : i < x.length) : scv a (nxt x) x.length i = scv a x x.length (rr x.length i) := by
  unfold scv
  rw [rix_nxt h, rix_nxt (rr_lt (by omega)), rix_nxt (rl_lt (by omega)), rr_rl h, rl_rr h]
theorem bat1_nxt {a : List (List Int)} {x : List Int} {i : Nat} (h : i < x.length) : rr x.length (bat1 a (nxt x) x.length i) = bat1 a x x.length (rr x.length i) := by
  have hr : rl x.length i < x.length := rl_lt (by omega)
  unfold bat1
  rw [scv_nxt h, scv_nxt hr, rr_rl h, rl_rr h]
  split
  · exact rr_rl h
  · rfl
theorem bat_nxt {a : List (List Int)} {x : List Int} {i : Nat} (h : i < x.length) : rr x.length (bat a (nxt x) x.length i) = bat a x x.length (rr x.length i) := by
  have hr : rr x.length i < x.length := rr_lt (by omega)
  unfold bat
  rw [scv_nxt (bat1_lt h), scv_nxt hr, bat1_nxt h]
  split
  · rfl
  · exact bat1_nxt h
theorem gi_cpL' {a x} {n k : Nat} (h : k < n) : gi (cpL a x n n) k = gi x (bat a x n k) := by
  unfold cpL; rw [gi_get (by simpa using h)]; simp
theorem cpF_len {a x} (h : RgQ a x) : (cpF a x).length = x.length := by rw [cpF_yes h, cpL_len]
/-- The turned ring's copy is the copy turned. -/
theorem cp_turn {a x} (h : RgQ a x) {i : Nat} (hi : i < x.length) : gi (cpF a (nxt x)) i = gi (cpF a x) (rr x.length i) := by
  have hl := nxt_len (x := x) (by omega)
  rw [cpF_yes h, cpF_yes h.nxt, hl, gi_cpL' hi, gi_cpL' (rr_lt (by omega)), gi_nxt (bat_lt hi), bat_nxt hi]
/-- Copied strategies are the ring's own. -/
theorem cp_in {a x} (h : RgQ a x) {i : Nat} (hi : i < x.length) : ∃ k, k < x.length ∧ gi x k = gi (cpF a x) i := by
  rw [cpF_yes h, gi_cpL' hi]
  exact ⟨_, bat_lt hi, rfl⟩
/-- A ring of one strategy. -/
def rpl (x : List Int) (k : Nat) : List Int := List.replicate k (gi x 0)
theorem rpl_len (x : List Int) (k : Nat) : (rpl x k).length = k := by simp [rpl]
theorem rpl_succ (x : List Int) (k : Nat) : rpl x (k + 1) = rpl x k ++ [gi x 0] := by unfold rpl; rw [List.replicate_succ']
theorem gi_rpl {x : List Int} {k i : Nat} (h : i < k) : gi (rpl x k) i = gi x 0 := by
  rw [gi_get (by rw [rpl_len]; exact h)]; simp [rpl]
theorem RgQ.rpl {a x} (h : RgQ a x) : RgQ a (rpl x x.length) := by
  have h3 := h.n3
  refine ⟨h.v, fun i hi => ?_, by rw [rpl_len]; exact h.n3, by rw [rpl_len]; exact h.n8⟩
  rw [rpl_len] at hi
  rw [gi_rpl hi]
  exact h.s 0 (by omega)
theorem cp_same {a x} (h : RgQ a x) : cpF a (rpl x x.length) = rpl x x.length := by
  have hl := rpl_len x x.length
  rw [cpF_yes h.rpl, hl]
  apply List.ext_getElem
  · rw [cpL_len, hl]
  · intro i h1 h2
    rw [cpL_len] at h1
    rw [← gi_get (by rw [cpL_len]; exact h1), ← gi_get h2, gi_cpL' h1, gi_rpl (bat_lt h1), gi_rpl h1]
end Go.Proofs.Ytjkmgpiiamffgaa

/- CopyRing, by the model. -/
namespace Go.Proofs.Ytjkmgpiiamffgaa
open Go.RowKit

set_option maxRecDepth 100000 in
set_option maxHeartbeats 800000 in
theorem validRing_any (X : Option Addr) (n c : Nat) (x : List Int) (s : Nat) (w : World) (hx : Ints w X n c x) (hs : s ≤ 3) :
    Calls Try.prog 77 #[.slice X n c, .int .i64 s] w fun e w' => e = .returned (.bool (pb ((∀ i, i < x.length → InR (gi x i) 0 ((s : Int) - 1)) ∧ 3 ≤ x.length ∧ x.length ≤ 8))) ∧ Quiet w w' := by
  have HX := Lib.hid hx
  have HL := Lib.hid hx.len
  have hmx := hx.max
  clear hx
  go_enter Try.func77, Try.ntmps77
  go_wp2
  go_loop [5] (fun i => ∃ v : Nat, v ≤ n ∧ i = .int .i64 v ∧ Hid (∀ j, j < v → InR (gi x j) 0 ((s : Int) - 1))) (fun i => n - (intOf i).toNat)
  case atStart => exact ⟨0, Nat.zero_le _, rfl, Lib.hid (fun _ h => absurd h (by omega))⟩
  case round =>
    obtain ⟨v, hv, rfl, HI⟩ := hrel
    by_cases hlt : v < n
    · obtain ⟨b, o, rfl, hc⟩ := HX.out.at_ (by omega)
      have c1 := hc v hlt
      clear hc
      by_cases hin : InR (gi x v) 0 ((s : Int) - 1)
      · have HIN := Lib.hid (fun W => pb_true hin ▸ inRange_any (gi x v) 0 ((s : Int) - 1) W)
        have HN := Lib.hid (show ∀ j, j < v + 1 → InR (gi x j) 0 ((s : Int) - 1) from fun j hj => by
          by_cases hjv : j < v
          · exact HI.out j hjv
          · obtain rfl : j = v := by omega
            exact hin)
        clear hin
        go_wp2_with (go_at_call 62; refine (HIN.out _).mono ?_; rintro e w' ⟨rfl, rfl⟩)
        go_round
        case rel => exact ⟨v + 1, by omega, by go_num, HN⟩
        case measure => simp [intOf]; omega
      · have HIN := Lib.hid (fun W => pb_false hin ▸ inRange_any (gi x v) 0 ((s : Int) - 1) W)
        have HE := Lib.hid (pb_false (p := (∀ i, i < x.length → InR (gi x i) 0 ((s : Int) - 1)) ∧ 3 ≤ x.length ∧ x.length ≤ 8) (fun k => hin (k.1 v (by rw [HL.out]; exact hlt))))
        clear hin
        go_wp2_with (go_at_call 62; refine (HIN.out _).mono ?_; rintro e w' ⟨rfl, rfl⟩)
        go_ret
        exact ⟨ret_bool HE.out.symm, Quiet.refl _⟩
    · obtain rfl : v = n := by omega
      have HE : Hid (pb (InR (v : Int) 3 8) = pb ((∀ i, i < x.length → InR (gi x i) 0 ((s : Int) - 1)) ∧ 3 ≤ x.length ∧ x.length ≤ 8)) := Lib.hid (pb_congr ⟨fun h => ⟨fun i hi => HI.out i (by rw [← HL.out]; exact hi), by rw [HL.out]; unfold InR at h; omega⟩, fun h => by have := h.2; rw [HL.out] at this; unfold InR; omega⟩)
      have HIN := Lib.hid (fun W => HE.out ▸ inRange_any (v : Int) 3 8 W)
      clear HI HE
      generalize hr : pb ((∀ i, i < x.length → InR (gi x i) 0 ((s : Int) - 1)) ∧ 3 ≤ x.length ∧ x.length ≤ 8) = r at *
      have HR := Lib.hid hr
      clear hr
      go_wp2_with (go_at_call 62; refine (HIN.out _).mono ?_; rintro e w' ⟨rfl, rfl⟩)
      go_ret
      exact ⟨ret_bool HR.out.symm, Quiet.refl _⟩
theorem tmod_nat (a n : Nat) : ((a : Nat) : Int).tmod (n : Int) = ((a % n : Nat) : Int) := by
  rw [Int.tmod_eq_emod_of_nonneg (by omega)]; simp
theorem scv_bd {a : List (List Int)} {x : List Int} (h : RgQ a x) {i : Nat} (hi : i < x.length) : -18 ≤ scv a x x.length i ∧ scv a x x.length i ≤ 18 := by
  have h0 : 0 < x.length := by omega
  have b1 := h.v.1.bd (i := rix x i) (j := rix x (rr x.length i)) (h.ix hi).2 (by rw [← h.v.2]; exact (h.ix (rr_lt h0)).2)
  have b2 := h.v.1.bd (i := rix x i) (j := rix x (rl x.length i)) (h.ix hi).2 (by rw [← h.v.2]; exact (h.ix (rl_lt h0)).2)
  unfold scv; omega
set_option maxRecDepth 100000 in
set_option maxHeartbeats 3200000 in
theorem scores_any (b o : Nat) (rb ro cc : Nat → Nat) (s ca : Nat) (X : Option Addr) (n c : Nat) (a : List (List Int)) (x : List Int) (w : World) (ht : Tab w b o rb ro cc s s a) (hx : Ints w X n c x) (h : RgQ a x) (hs : a.length = s) :
    Calls Try.prog 102 #[.slice (some ⟨b, o, none⟩) s ca, .slice X n c] w (NewI w (scL a x n n)) := by
  have HT := Lib.hid ht
  have hl := hx.len
  have hn3 : 3 ≤ n := by rw [← hl]; exact h.n3
  have hn8 : n ≤ 8 := by rw [← hl]; exact h.n8
  obtain ⟨bx, ox, rfl, hcx⟩ := hx.at_ (by omega)
  have HCX := Lib.hid hcx
  have HIX := Lib.hid (fun i (hi : i < n) => show gi x i = ((rix x i : Nat) : Int) ∧ rix x i < s from by rw [← hs]; exact h.ix (by rw [hl]; exact hi))
  have HSB := Lib.hid (fun i (hi : i < n) => show -18 ≤ scv a x n i ∧ scv a x n i ≤ 18 from by have := scv_bd h (i := i) (by rw [hl]; exact hi); rwa [hl] at this)
  have HSV := Lib.hid (fun i => show scv a x n i = g2 a (rix x i) (rix x (rr n i)) + g2 a (rix x i) (rix x (rl n i)) from rfl)
  have HS0 := Lib.hid (show IU w (.slice (some ⟨w.heap.size, 0, none⟩) 0 0) (scL a x n 0) (w.alloc (.cells #[] 3)) from IU.start w)
  obtain ⟨i0, hi0, hz0, hz1, hz2⟩ := info_parts Try.info_int
  clear ht hx h hs hl hcx
  go_enter Try.func102, Try.ntmps102
  go_wp2
  go_loopw [5, 7] (fun v i wr => ∃ k : Nat, k ≤ n ∧ i = .int .i64 k ∧ Hid (IU w v (scL a x n k) wr)) (fun _ i _ => n - (intOf i).toNat)
  case atStart => exact ⟨0, Nat.zero_le _, rfl, HS0⟩
  case round =>
    clear HS0
    obtain ⟨k, hk, rfl, HI⟩ := hrel
    obtain ⟨Av, cv, rfl⟩ := HI.out.bi.form
    by_cases hlt : k < n
    · have hr := rr_lt (n := n) (i := k) (by omega)
      have hll := rl_lt (n := n) (i := k) (by omega)
      obtain ⟨e1, j1⟩ := HIX.out k hlt
      obtain ⟨e2, j2⟩ := HIX.out (rr n k) hr
      obtain ⟨e3, j3⟩ := HIX.out (rl n k) hll
      have p1 := HCX.out k hlt
      have p2 := HCX.out (rr n k) hr
      have p3 := HCX.out (rl n k) hll
      rw [e1] at p1
      rw [e2] at p2
      rw [e3] at p3
      have hb1 := HT.out.bd (rix x k) (rix x (rr n k)) j1 j2
      have hb2 := HT.out.bd (rix x k) (rix x (rl n k)) j1 j3
      have hsv := HSV.out k
      have HSW := Lib.hid (fun W (q : Below w.heap.size w W) => show (W.cell? ⟨bx, ox + k, none⟩ = some (.int .i64 (rix x k : Nat)) ∧ W.cell? ⟨bx, ox + rr n k, none⟩ = some (.int .i64 (rix x (rr n k) : Nat)) ∧ W.cell? ⟨bx, ox + rl n k, none⟩ = some (.int .i64 (rix x (rl n k) : Nat))) ∧ W.cell? ⟨b, o + rix x k, none⟩ = some (.slice (some ⟨rb (rix x k), ro (rix x k), none⟩) s (cc (rix x k))) ∧ W.cell? ⟨rb (rix x k), ro (rix x k) + rix x (rr n k), none⟩ = some (.int .i64 (g2 a (rix x k) (rix x (rr n k)))) ∧ W.cell? ⟨rb (rix x k), ro (rix x k) + rix x (rl n k), none⟩ = some (.int .i64 (g2 a (rix x k) (rix x (rl n k)))) from
        ⟨⟨Keep.below q _ _ p1, Keep.below q _ _ p2, Keep.below q _ _ p3⟩, Keep.below q _ _ (HT.out.row _ j1), Keep.below q _ _ (HT.out.cell _ _ j1 j2), Keep.below q _ _ (HT.out.cell _ _ j1 j3)⟩)
      have HNX := Lib.hid (show scL a x n (k + 1) = scL a x n k ++ [scv a x n k] by simp [scL, List.range_succ])
      have HYL : Hid ((scL a x n k).length = k) := Lib.hid (scL_len _ _ _ _)
      have t1 : ((k : Int) + 1).tmod (n : Int) = ((rr n k : Nat) : Int) := by have := tmod_nat (k + 1) n; rw [Int.natCast_add] at this; exact this
      have t2 : ((k : Int) + (n : Int) - 1).tmod (n : Int) = ((rl n k : Nat) : Int) := by
        have := tmod_nat (k + n - 1) n
        rw [show ((k + n - 1 : Nat) : Int) = (k : Int) + (n : Int) - 1 by omega] at this
        exact this
      have w1_ : IntKind.i64.wrap ((k : Int) + 1) = (k : Int) + 1 := wrapIn (by omega)
      have w2_ : IntKind.i64.wrap ((k : Int) + (n : Int)) = (k : Int) + (n : Int) := wrapIn (by omega)
      have w3_ : IntKind.i64.wrap ((k : Int) + (n : Int) - 1) = (k : Int) + (n : Int) - 1 := wrapIn (by omega)
      have w4_ : IntKind.i64.wrap (((rr n k : Nat) : Int)) = ((rr n k : Nat) : Int) := wrapIn (by omega)
      have w5_ : IntKind.i64.wrap (((rl n k : Nat) : Int)) = ((rl n k : Nat) : Int) := wrapIn (by omega)
      clear p1 p2 p3 e1 e2 e3
      have hup := HI.out.up
      have hwz := hup.size
      have HSE := Lib.hid hsv
      clear hsv
      have hn0 : ((n : Int) == 0) = false := by rw [beq_eq_false_iff_ne]; omega
      have hn0' : ¬ (n = 0) := by omega
      have hw6 : IntKind.i64.wrap (g2 a (rix x k) (rix x (rr n k)) + g2 a (rix x k) (rix x (rl n k))) = g2 a (rix x k) (rix x (rr n k)) + g2 a (rix x k) (rix x (rl n k)) := wrapIn (by omega)
      have HCAP := Lib.hid (HT.out.cap _ j1)
      generalize g2 a (rix x k) (rix x (rr n k)) = ga at *
      generalize g2 a (rix x k) (rix x (rl n k)) = gb at *
      generalize rix x (rr n k) = xr at *
      generalize rix x (rl n k) = xl at *
      generalize rix x k = xk at *
      generalize rr n k = r1 at *
      generalize rl n k = l1 at *
      generalize hys : scL a x n k = ys at *
      clear hys
      have SX := Lib.hid (HSW.out wr hup)
      have DX := Lib.hid hup
      have HHUP := Lib.hid hup
      clear hup
      go_wp2
      go_region_held3 (fun W => (W.cell? ⟨bx, ox + k, none⟩ = some (.int .i64 (xk : Nat)) ∧ W.cell? ⟨bx, ox + r1, none⟩ = some (.int .i64 (xr : Nat)) ∧ W.cell? ⟨bx, ox + l1, none⟩ = some (.int .i64 (xl : Nat))) ∧ W.cell? ⟨b, o + xk, none⟩ = some (.slice (some ⟨rb xk, ro xk, none⟩) s (cc xk)) ∧ W.cell? ⟨rb xk, ro xk + xr, none⟩ = some (.int .i64 ga) ∧ W.cell? ⟨rb xk, ro xk + xl, none⟩ = some (.int .i64 gb))
        (first | exact SX.out | exact HSW.out _ DX.out | exact HSW.out _ DX.out.drew | exact HSW.out _ (below_up DX.out (below_alloc _ _)) | exact HSW.out _ (below_up DX.out (below_alloc _ _)).drew | go_keep)
        (first
        | (refine step_append_lies _ (by rfl) _ _ _ (by rfl) w.heap.size 3 i0 _ 1 8 Try.underlying30 hi0 hz0 hz1 hz2 rfl (by omega) (.slice Av ys.length cv) ys.length (ys.map iv) (by rfl) ((HI.out.bi.own.alloc _).drew) ⟨wr.heap.size, 0, none⟩ 1 1 [iv (ga + gb)] (by rfl) (by rfl) (World.news_of_block (w := (wr.alloc (.cells #[iv (ga + gb)] 3)).drew) (cs := #[iv (ga + gb)]) (t := 3) (fr := (0, 0)) (heap_alloc_new wr _)) (by simp [Value.oneCell', iv]) (by omega) (by have := HYL.out; unfold maxLen; omega) (by have := HYL.out; omega) (by simp; omega) (wr.heap.size + 1) (by simp) ?_; intro gg cap w1a hown1 hgrow hat hlt1; have HI2 := Lib.hid (show IU w (.slice (some ⟨gg, 0, none⟩) (ys.length + 1) cap) (ys ++ [ga + gb]) w1a from IU.push (w := wr.drew) (HI.out.next (Quiet.below ⟨1, rfl⟩)) hown1 hgrow (hat.elim (fun h => .inl h.symm) (fun h => .inr (congrArg some h)))); have SX := Lib.hid (HSW.out _ HI2.out.up); clear hown1 hgrow hat hlt1)
        | fail)
      all_goals
        clear SX DX HSW HHUP HI
        go_wp2
        go_roundw
        case rel => exact ⟨k + 1, by omega, by go_num, Lib.hid (by rw [HNX.out, HSE.out]; exact HI2.out)⟩
        case measure => simp [intOf]; omega
    · obtain rfl : k = n := by omega
      have HNW := Lib.hid (HI.out.new (by rw [scL_len]; omega) (fun y hy => by
        obtain ⟨i, hi, rfl⟩ := List.mem_map.1 hy
        have := HSB.out i (List.mem_range.1 hi); omega))
      go_wp2
      go_ret
      exact HNW.out
set_option maxRecDepth 100000 in
set_option maxHeartbeats 3200000 in
theorem copied_any (b o : Nat) (rb ro cc : Nat → Nat) (s ca : Nat) (X : Option Addr) (n c : Nat) (a : List (List Int)) (x : List Int) (w : World) (ht : Tab w b o rb ro cc s s a) (hx : Ints w X n c x) (h : RgQ a x) (hs : a.length = s) :
    Calls Try.prog 78 #[.slice (some ⟨b, o, none⟩) s ca, .slice X n c] w (NewI w (cpL a x n n)) := by
  have HSC := Lib.hid (scores_any b o rb ro cc s ca X n c a x w ht hx h hs)
  have hl := hx.len
  have hn3 : 3 ≤ n := by rw [← hl]; exact h.n3
  have hn8 : n ≤ 8 := by rw [← hl]; exact h.n8
  have HXB := Lib.hid (fun i (hi : i < n) => show -1000 ≤ gi x i ∧ gi x i ≤ 1000 from by have := h.s i (by rw [hl]; exact hi); have := h.v.1.n3; unfold InR at *; omega)
  obtain ⟨bx, ox, rfl, hcx⟩ := hx.at_ (by omega)
  have HCX := Lib.hid hcx
  obtain ⟨i0, hi0, hz0, hz1, hz2⟩ := info_parts Try.info_int
  clear ht hx h hs hl hcx
  go_enter Try.func78, Try.ntmps78
  go_wp2_with fail
  refine HSC.out.mono ?_
  rintro e w1 ⟨As, ns, cs, gs, rfl, hns, ho, hb⟩
  rw [scL_len] at hns
  obtain rfl : n = ns := hns.symm
  clear hns
  have HB3 := Lib.hid hb
  obtain ⟨bs, os, rfl, hcs⟩ := ho.ints.at_ (by omega)
  have HCS := Lib.hid (fun i (hi : i < n) => show w1.cell? ⟨bs, os + i, none⟩ = some (.int .i64 (scv a x n i)) from by
    have := hcs i hi
    rwa [show gi (scL a x n n) i = scv a x n i from by unfold scL; rw [gi_get (by simpa using hi)]; simp] at this)
  have HS0 := Lib.hid (show IU w1 (.slice (some ⟨w1.heap.size, 0, none⟩) 0 0) (cpL a x n 0) (w1.alloc (.cells #[] 3)) from IU.start w1)
  clear hcs ho hb HSC
  go_wp2
  go_loopw [7, 8] (fun v i wr => ∃ k : Nat, k ≤ n ∧ i = .int .i64 k ∧ Hid (IU w1 v (cpL a x n k) wr)) (fun _ i _ => n - (intOf i).toNat)
  case atStart => exact ⟨0, Nat.zero_le _, rfl, HS0⟩
  case round =>
    clear HS0
    obtain ⟨k, hk, rfl, HI⟩ := hrel
    obtain ⟨Av, cv, rfl⟩ := HI.out.bi.form
    by_cases hlt : k < n
    · have hr := rr_lt (n := n) (i := k) (by omega)
      have hll := rl_lt (n := n) (i := k) (by omega)
      have t1 : ((k : Int) + 1).tmod (n : Int) = ((rr n k : Nat) : Int) := by have := tmod_nat (k + 1) n; rw [Int.natCast_add] at this; exact this
      have t2 : ((k : Int) + (n : Int) - 1).tmod (n : Int) = ((rl n k : Nat) : Int) := by
        have := tmod_nat (k + n - 1) n
        rw [show ((k + n - 1 : Nat) : Int) = (k : Int) + (n : Int) - 1 by omega] at this
        exact this
      have hn0 : ((n : Int) == 0) = false := by rw [beq_eq_false_iff_ne]; omega
      have hn0' : ¬ (n = 0) := by omega
      have q1 := Keep.below HI.out.up _ _ (HCS.out k hlt)
      have q2 := Keep.below HI.out.up _ _ (HCS.out (rr n k) hr)
      have q3 := Keep.below HI.out.up _ _ (HCS.out (rl n k) hll)
      have HYL : Hid ((cpL a x n k).length = k) := Lib.hid (cpL_len _ _ _ _)
      by_cases h1 : scv a x n k < scv a x n (rl n k)
      · by_cases h2 : scv a x n (rl n k) < scv a x n (rr n k)
        · have HB1 := Lib.hid (show bat1 a x n k = rl n k from if_pos h1)
          have HBT := Lib.hid (show bat a x n k = rr n k from by unfold bat; rw [HB1.out]; exact if_pos h2)
          have HNX := Lib.hid (show cpL a x n (k + 1) = cpL a x n k ++ [gi x (rr n k)] from by simp only [cpL, List.range_succ, List.map_append, List.map_cons, List.map_nil]; rw [HBT.out])
          have d1 : decide (scv a x n k < scv a x n (rl n k)) = true := decide_eq_true h1
          have d2 : decide (scv a x n (rl n k) < scv a x n (rr n k)) = true := decide_eq_true h2
          have px := Keep.below (below_up HB3.out HI.out.up) _ _ (HCX.out (rr n k) hr)
          clear h1 h2 HB1 HBT
          generalize scv a x n k = s1 at *
          generalize scv a x n (rl n k) = s2 at *
          generalize scv a x n (rr n k) = s3 at *
          generalize hgx : gi x (rr n k) = gx at *
          clear hgx
          generalize rl n k = r1 at *
          generalize rr n k = r2 at *
          generalize hys : cpL a x n k = ys at *
          clear hys
          have HIM := Lib.hid (fun m => HI.out.next (Quiet.below (B := wr.heap.size) ⟨m, rfl⟩))
          have hwz := HI.out.up.size
          clear HI
          go_wp2
          go_quiet (fail)
          go_wp2
          go_quiet (fail)
          go_wp2_with (at_builtin; refine wpList_append_own_at _ rfl _ _ 30 rfl w1.heap.size 3 i0 (.int .i64 0) 1 8 Try.underlying30 hi0 hz0 hz1 hz2 rfl (by decide) _ ys.length (ys.map iv) rfl ((HIM.out _).bi.below (below_alloc _ _)).own ⟨wr.heap.size, 0, none⟩ 1 1 [iv gx] rfl rfl ?c1 ?c2 ?c3 ?c4 ?c5 ?_)
          case c1 => exact cell_one_new _ _ _
          case c2 => intro u hu; simp at hu; subst hu; rfl
          case c3 => have := HYL.out; unfold maxLen; omega
          case c4 => have := HYL.out; omega
          case c5 => simp; omega
          intro v' w5 hown' hgrow _ hat
          have HI5 := Lib.hid ((HIM.out _).push hown' hgrow (by simpa using hat))
          clear hown' hgrow hat HIM px q1 q2 q3
          go_wp2
          go_roundw
          case rel => exact ⟨k + 1, by omega, by go_num, Lib.hid (by rw [HNX.out]; exact HI5.out)⟩
          case measure => simp [intOf]; omega
        · have HB1 := Lib.hid (show bat1 a x n k = rl n k from if_pos h1)
          have HBT := Lib.hid (show bat a x n k = rl n k from by unfold bat; rw [HB1.out]; exact if_neg h2)
          have HNX := Lib.hid (show cpL a x n (k + 1) = cpL a x n k ++ [gi x (rl n k)] from by simp only [cpL, List.range_succ, List.map_append, List.map_cons, List.map_nil]; rw [HBT.out])
          have d1 : decide (scv a x n k < scv a x n (rl n k)) = true := decide_eq_true h1
          have d2 : decide (scv a x n (rl n k) < scv a x n (rr n k)) = false := decide_eq_false h2
          have px := Keep.below (below_up HB3.out HI.out.up) _ _ (HCX.out (rl n k) hll)
          clear h1 h2 HB1 HBT
          generalize scv a x n k = s1 at *
          generalize scv a x n (rl n k) = s2 at *
          generalize scv a x n (rr n k) = s3 at *
          generalize hgx : gi x (rl n k) = gx at *
          clear hgx
          generalize rl n k = r1 at *
          generalize rr n k = r2 at *
          generalize hys : cpL a x n k = ys at *
          clear hys
          have HIM := Lib.hid (fun m => HI.out.next (Quiet.below (B := wr.heap.size) ⟨m, rfl⟩))
          have hwz := HI.out.up.size
          clear HI
          go_wp2
          go_quiet (fail)
          go_wp2
          go_quiet (fail)
          go_wp2_with (at_builtin; refine wpList_append_own_at _ rfl _ _ 30 rfl w1.heap.size 3 i0 (.int .i64 0) 1 8 Try.underlying30 hi0 hz0 hz1 hz2 rfl (by decide) _ ys.length (ys.map iv) rfl ((HIM.out _).bi.below (below_alloc _ _)).own ⟨wr.heap.size, 0, none⟩ 1 1 [iv gx] rfl rfl ?c1 ?c2 ?c3 ?c4 ?c5 ?_)
          case c1 => exact cell_one_new _ _ _
          case c2 => intro u hu; simp at hu; subst hu; rfl
          case c3 => have := HYL.out; unfold maxLen; omega
          case c4 => have := HYL.out; omega
          case c5 => simp; omega
          intro v' w5 hown' hgrow _ hat
          have HI5 := Lib.hid ((HIM.out _).push hown' hgrow (by simpa using hat))
          clear hown' hgrow hat HIM px q1 q2 q3
          go_wp2
          go_roundw
          case rel => exact ⟨k + 1, by omega, by go_num, Lib.hid (by rw [HNX.out]; exact HI5.out)⟩
          case measure => simp [intOf]; omega
      · by_cases h2 : scv a x n k < scv a x n (rr n k)
        · have HB1 := Lib.hid (show bat1 a x n k = k from if_neg h1)
          have HBT := Lib.hid (show bat a x n k = rr n k from by unfold bat; rw [HB1.out]; exact if_pos h2)
          have HNX := Lib.hid (show cpL a x n (k + 1) = cpL a x n k ++ [gi x (rr n k)] from by simp only [cpL, List.range_succ, List.map_append, List.map_cons, List.map_nil]; rw [HBT.out])
          have d1 : decide (scv a x n k < scv a x n (rl n k)) = false := decide_eq_false h1
          have d2 : decide (scv a x n (k) < scv a x n (rr n k)) = true := decide_eq_true h2
          have px := Keep.below (below_up HB3.out HI.out.up) _ _ (HCX.out (rr n k) hr)
          clear h1 h2 HB1 HBT
          generalize scv a x n k = s1 at *
          generalize scv a x n (rl n k) = s2 at *
          generalize scv a x n (rr n k) = s3 at *
          generalize hgx : gi x (rr n k) = gx at *
          clear hgx
          generalize rl n k = r1 at *
          generalize rr n k = r2 at *
          generalize hys : cpL a x n k = ys at *
          clear hys
          have HIM := Lib.hid (fun m => HI.out.next (Quiet.below (B := wr.heap.size) ⟨m, rfl⟩))
          have hwz := HI.out.up.size
          clear HI
          go_wp2
          go_quiet (fail)
          go_wp2
          go_quiet (fail)
          go_wp2_with (at_builtin; refine wpList_append_own_at _ rfl _ _ 30 rfl w1.heap.size 3 i0 (.int .i64 0) 1 8 Try.underlying30 hi0 hz0 hz1 hz2 rfl (by decide) _ ys.length (ys.map iv) rfl ((HIM.out _).bi.below (below_alloc _ _)).own ⟨wr.heap.size, 0, none⟩ 1 1 [iv gx] rfl rfl ?c1 ?c2 ?c3 ?c4 ?c5 ?_)
          case c1 => exact cell_one_new _ _ _
          case c2 => intro u hu; simp at hu; subst hu; rfl
          case c3 => have := HYL.out; unfold maxLen; omega
          case c4 => have := HYL.out; omega
          case c5 => simp; omega
          intro v' w5 hown' hgrow _ hat
          have HI5 := Lib.hid ((HIM.out _).push hown' hgrow (by simpa using hat))
          clear hown' hgrow hat HIM px q1 q2 q3
          go_wp2
          go_roundw
          case rel => exact ⟨k + 1, by omega, by go_num, Lib.hid (by rw [HNX.out]; exact HI5.out)⟩
          case measure => simp [intOf]; omega
        · have HB1 := Lib.hid (show bat1 a x n k = k from if_neg h1)
          have HBT := Lib.hid (show bat a x n k = k from by unfold bat; rw [HB1.out]; exact if_neg h2)
          have HNX := Lib.hid (show cpL a x n (k + 1) = cpL a x n k ++ [gi x (k)] from by simp only [cpL, List.range_succ, List.map_append, List.map_cons, List.map_nil]; rw [HBT.out])
          have d1 : decide (scv a x n k < scv a x n (rl n k)) = false := decide_eq_false h1
          have d2 : decide (scv a x n (k) < scv a x n (rr n k)) = false := decide_eq_false h2
          have px := Keep.below (below_up HB3.out HI.out.up) _ _ (HCX.out (k) hlt)
          clear h1 h2 HB1 HBT
          generalize scv a x n k = s1 at *
          generalize scv a x n (rl n k) = s2 at *
          generalize scv a x n (rr n k) = s3 at *
          generalize hgx : gi x (k) = gx at *
          clear hgx
          generalize rl n k = r1 at *
          generalize rr n k = r2 at *
          generalize hys : cpL a x n k = ys at *
          clear hys
          have HIM := Lib.hid (fun m => HI.out.next (Quiet.below (B := wr.heap.size) ⟨m, rfl⟩))
          have hwz := HI.out.up.size
          clear HI
          go_wp2
          go_quiet (fail)
          go_wp2
          go_quiet (fail)
          go_wp2_with (at_builtin; refine wpList_append_own_at _ rfl _ _ 30 rfl w1.heap.size 3 i0 (.int .i64 0) 1 8 Try.underlying30 hi0 hz0 hz1 hz2 rfl (by decide) _ ys.length (ys.map iv) rfl ((HIM.out _).bi.below (below_alloc _ _)).own ⟨wr.heap.size, 0, none⟩ 1 1 [iv gx] rfl rfl ?c1 ?c2 ?c3 ?c4 ?c5 ?_)
          case c1 => exact cell_one_new _ _ _
          case c2 => intro u hu; simp at hu; subst hu; rfl
          case c3 => have := HYL.out; unfold maxLen; omega
          case c4 => have := HYL.out; omega
          case c5 => simp; omega
          intro v' w5 hown' hgrow _ hat
          have HI5 := Lib.hid ((HIM.out _).push hown' hgrow (by simpa using hat))
          clear hown' hgrow hat HIM px q1 q2 q3
          go_wp2
          go_roundw
          case rel => exact ⟨k + 1, by omega, by go_num, Lib.hid (by rw [HNX.out]; exact HI5.out)⟩
          case measure => simp [intOf]; omega
    · obtain rfl : k = n := by omega
      have HNW := Lib.hid (HI.out.new (by rw [cpL_len]; omega) (fun y hy => by
        obtain ⟨i, hi, rfl⟩ := List.mem_map.1 hy
        have := HXB.out (bat a x k i) (bat_lt (List.mem_range.1 hi)); omega))
      have HE := Lib.hid (show NewI w (cpL a x k k) (.returned (.slice Av (cpL a x k k).length cv)) wr from by
        obtain ⟨A', n', c', g', e', q1, q2, q3⟩ := HNW.out
        exact ⟨A', n', c', g', e', q1, q2.mono HB3.out.size (Nat.le_refl _), below_up HB3.out q3⟩)
      clear HNW HI
      go_wp2
      go_ret
      exact HE.out
theorem validRing_iff {a : List (List Int)} {x : List Int} (hv : VQ a) : ((∀ i, i < x.length → InR (gi x i) 0 ((a.length : Int) - 1)) ∧ 3 ≤ x.length ∧ x.length ≤ 8) ↔ RgQ a x :=
  ⟨fun h => ⟨hv, h.1, h.2.1, h.2.2⟩, fun h => ⟨h.s, h.n3, h.n8⟩⟩
set_option maxRecDepth 100000 in
set_option maxHeartbeats 1600000 in
theorem CopyRing_spec (A : Option Addr) (l ca : Nat) (a : List (List Int)) (X : Option Addr) (n c : Nat) (x : List Int) (w : World) (ha : IntRows w A l ca a) (hx : Ints w X n c x) :
    Calls Try.prog 31 #[.slice A l ca, .slice X n c] w (NewI w (cpF a x)) := by
  have HA := Lib.hid ha
  have HX := Lib.hid hx
  have hl := ha.len
  have HVS := Lib.hid (validSquare_any A l ca a w ha)
  by_cases hv : VQ a
  · have hl3 : l ≤ 3 := by rw [← hl]; exact hv.1.n3
    rw [pb_true hv] at HVS
    have HVR := Lib.hid (fun W q => validRing_any X n c x l W q hl3)
    have HPR : Hid (pb ((∀ i, i < x.length → InR (gi x i) 0 ((l : Int) - 1)) ∧ 3 ≤ x.length ∧ x.length ≤ 8) = pb (RgQ a x)) := Lib.hid (by rw [← hl]; exact pb_congr (validRing_iff hv))
    rw [HPR.out] at HVR
    by_cases hr : RgQ a x
    · obtain ⟨b, o, rb, ro, cc, rfl, tab⟩ := HA.out.tab hv.1
      rw [← hv.2, hl] at tab
      have HT := Lib.hid tab
      have HF := Lib.hid (cpF_yes hr)
      have HLX := Lib.hid hx.len
      have HCO := Lib.hid (fun W q1 q2 => copied_any b o rb ro cc l ca X n c a x W q1 q2 hr hl)
      rw [pb_true hr] at HVR
      clear ha hx hv hr tab HPR hl
      go_enter Try.func31, Try.ntmps31
      go_wp2_with fail
      refine HVS.out.mono ?_
      rintro e w1 ⟨rfl, hq1⟩
      have HQ1 := Lib.hid hq1
      have HC := Lib.hid (HVR.out w1 (HX.out.keep (Keep.quiet hq1)))
      clear hq1 HVS HVR
      go_wp2_with fail
      refine HC.out.mono ?_
      rintro e w2 ⟨rfl, hq2⟩
      have HQ2 := Lib.hid (HQ1.out.trans hq2)
      have HC2 := Lib.hid (HCO.out w2 (HT.out.keep (Keep.quiet HQ2.out)) (HX.out.keep (Keep.quiet HQ2.out)))
      clear hq2 HC HCO HQ1
      go_wp2_with fail
      refine HC2.out.mono ?_
      rintro e w3 hnew
      obtain ⟨A', n', c', g', rfl, q1, q2, q3⟩ := hnew
      have hb := HQ2.out.below (B := w.heap.size)
      have HE := Lib.hid (show NewI w (cpF a x) (.returned (.slice A' n' c')) w3 from by
        rw [HF.out, HLX.out]
        exact ⟨A', n', c', g', rfl, q1, q2.mono hb.size (Nat.le_refl _), below_up hb q3⟩)
      clear hb q1 q2 q3 HC2
      go_wp2
      go_ret
      exact HE.out
    · have HF := Lib.hid (cpF_no hr)
      rw [pb_false hr] at HVR
      clear ha hx hv hr HPR hl
      go_enter Try.func31, Try.ntmps31
      go_wp2_with fail
      refine HVS.out.mono ?_
      rintro e w1 ⟨rfl, hq1⟩
      have HQ1 := Lib.hid hq1
      have HC := Lib.hid (HVR.out w1 (HX.out.keep (Keep.quiet hq1)))
      clear hq1 HVS HVR
      go_wp2_with fail
      refine HC.out.mono ?_
      rintro e w2 ⟨rfl, hq2⟩
      have HE := Lib.hid (show NewI w (cpF a x) (.returned (.slice none 0 0)) w2 from by
        rw [HF.out]
        exact ⟨none, 0, 0, 0, rfl, rfl, OwnI.nil _ _ _ _, (HQ1.out.trans hq2).below⟩)
      clear hq2 HC HQ1
      go_wp2
      go_ret
      exact HE.out
  · rw [pb_false hv] at HVS
    have HF := Lib.hid (cpF_no (x := x) (fun h : RgQ a x => hv h.v))
    clear ha hx hv hl
    go_enter Try.func31, Try.ntmps31
    go_wp2_with fail
    refine HVS.out.mono ?_
    rintro e w1 ⟨rfl, hq1⟩
    have HE := Lib.hid (show NewI w (cpF a x) (.returned (.slice none 0 0)) w1 from by
      rw [HF.out]
      exact ⟨none, 0, 0, 0, rfl, rfl, OwnI.nil _ _ _ _, hq1.below⟩)
    clear hq1 HVS
    go_wp2
    go_ret
    exact HE.out

end Go.Proofs.Ytjkmgpiiamffgaa

/- Graphs as lists of sets: all of them; how they are reached: plain. -/
namespace Go.Proofs.Ytjkmgpiiamffgaa

/-- Whether u is a neighbour of v. -/
def bt (g : List Int) (v u : Nat) : Nat := (gi g v).toNat / 2 ^ u % 2
theorem bt_lt (g : List Int) (v u : Nat) : bt g v u < 2 := Nat.mod_lt _ (by decide)
def InG (g : List Int) : Prop := ∀ v, v < g.length → InR (gi g v) 0 (2 ^ g.length - 1)
def SyG (g : List Int) : Prop := ∀ v, v < g.length → bt g v v = 0 ∧ ∀ u, u < v → bt g v u = bt g u v
/-- Sets that are one another's neighbours, none its own: whether all are reached is left open. -/
structure GB (g : List Int) : Prop where
  inn : InG g
  sym : SyG g
  n2 : 2 ≤ g.length
  n5 : g.length ≤ 5
/-- The set of the neighbours of v, out of the bits of all pairs. -/
def grE (l : List Nat) (v : Nat) : Nat → Nat
  | 0 => 0
  | u + 1 => grE l v u + 2 ^ u * (if u < v then l.getD (v * (v - 1) / 2 + u) 0 else if v < u then l.getD (u * (u - 1) / 2 + v) 0 else 0)
def grN (n : Nat) (l : List Nat) : List Int := (List.range n).map fun v => ((grE l v n : Nat) : Int)
def bitsN : Nat → List (List Nat)
  | 0 => [[]]
  | k + 1 => (bitsN k).flatMap fun l => [0 :: l, 1 :: l]
theorem mem_bits : ∀ l : List Nat, (∀ x ∈ l, x < 2) → l ∈ bitsN l.length
  | [], _ => List.mem_singleton.2 rfl
  | x :: l, h => by
    have h0 := h x (List.mem_cons_self ..)
    refine List.mem_flatMap.2 ⟨l, mem_bits l fun y hy => h y (List.mem_cons_of_mem _ hy), ?_⟩
    have : x = 0 ∨ x = 1 := by omega
    rcases this with rfl | rfl <;> simp
def graphsN (n : Nat) : List (List Int) := (bitsN (n * (n - 1) / 2)).map (grN n)
/-- All of them. -/
def graphs : List (List Int) := graphsN 2 ++ graphsN 3 ++ graphsN 4 ++ graphsN 5
theorem grN_len (n : Nat) (l : List Nat) : (grN n l).length = n := by simp [grN]
def bsum (x : Nat) : Nat → Nat
  | 0 => 0
  | u + 1 => bsum x u + 2 ^ u * (x / 2 ^ u % 2)
theorem bsum_mod (x : Nat) : ∀ n, bsum x n = x % 2 ^ n
  | 0 => by simp [bsum, Nat.mod_one]
  | n + 1 => by rw [bsum, bsum_mod x n, Nat.pow_succ, Nat.mod_mul]
theorem grE_eq {g : List Int} {l : List Nat} (hs : SyG g) {v : Nat} (hv : v < g.length) (hl : ∀ v, v < g.length → ∀ u, u < v → l.getD (v * (v - 1) / 2 + u) 0 = bt g v u) : ∀ m, m ≤ g.length → grE l v m = bsum (gi g v).toNat m
  | 0, _ => rfl
  | m + 1, h => by
    rw [grE, bsum, grE_eq hs hv hl m (by omega)]
    congr 2
    by_cases h1 : m < v
    · rw [if_pos h1, hl v hv m h1]; rfl
    · by_cases h2 : v < m
      · rw [if_neg h1, if_pos h2, hl m (by omega) v h2, (hs m (by omega)).2 v h2]; rfl
      · obtain rfl : m = v := by omega
        rw [if_neg h1, if_neg h2]
        exact (hs m hv).1.symm
theorem grN_eq {g : List Int} {l : List Nat} (hi : InG g) (hs : SyG g) (hl : ∀ v, v < g.length → ∀ u, u < v → l.getD (v * (v - 1) / 2 + u) 0 = bt g v u) : g = grN g.length l := by
  refine gi_ext (by rw [grN_len]) fun k hk => ?_
  have h1 := hi k hk
  unfold InR at h1
  have h2 : ((2 ^ g.length : Nat) : Int) = (2 : Int) ^ g.length := by simp
  have h3 : gi (grN g.length l) k = ((grE l k g.length : Nat) : Int) := by rw [gi_get (by rw [grN_len]; omega)]; simp [grN]
  rw [h3, grE_eq hs hk hl _ (Nat.le_refl _), bsum_mod, Nat.mod_eq_of_lt (by omega)]
  omega
theorem mem_graphs {g : List Int} (h : GB g) : g ∈ graphs := by
  obtain ⟨hin, hsy, h2, h5⟩ := h
  have hn : g.length = 2 ∨ g.length = 3 ∨ g.length = 4 ∨ g.length = 5 := by omega
  have key : ∀ (n : Nat) (l : List Nat), g.length = n → l.length = n * (n - 1) / 2 → (∀ x ∈ l, x < 2) → (∀ v, v < n → ∀ u, u < v → l.getD (v * (v - 1) / 2 + u) 0 = bt g v u) → g ∈ graphsN n := fun n l hl hk hb hv => by
    subst hl
    refine List.mem_map.2 ⟨l, ?_, (grN_eq hin hsy hv).symm⟩
    rw [← hk]; exact mem_bits l hb
  unfold graphs
  simp only [List.mem_append]
  rcases hn with hn | hn | hn | hn
  · refine .inl (.inl (.inl (key 2 [bt g 1 0] hn rfl ?_ ?_)))
    · intro x hx; simp only [List.mem_cons, List.not_mem_nil, or_false] at hx; rcases hx with rfl <;> exact bt_lt _ _ _
    · intro v hv u hu
      match v, u, hv, hu with
      | 1, 0, _, _ => rfl
  · refine .inl (.inl (.inr (key 3 [bt g 1 0, bt g 2 0, bt g 2 1] hn rfl ?_ ?_)))
    · intro x hx; simp only [List.mem_cons, List.not_mem_nil, or_false] at hx; rcases hx with rfl | rfl | rfl <;> exact bt_lt _ _ _
    · intro v hv u hu
      match v, u, hv, hu with
      | 1, 0, _, _ => rfl
      | 2, 0, _, _ => rfl
      | 2, 1, _, _ => rfl
  · refine .inl (.inr (key 4 [bt g 1 0, bt g 2 0, bt g 2 1, bt g 3 0, bt g 3 1, bt g 3 2] hn rfl ?_ ?_))
    · intro x hx; simp only [List.mem_cons, List.not_mem_nil, or_false] at hx; rcases hx with rfl | rfl | rfl | rfl | rfl | rfl <;> exact bt_lt _ _ _
    · intro v hv u hu
      match v, u, hv, hu with
      | 1, 0, _, _ => rfl
      | 2, 0, _, _ => rfl
      | 2, 1, _, _ => rfl
      | 3, 0, _, _ => rfl
      | 3, 1, _, _ => rfl
      | 3, 2, _, _ => rfl
  · refine .inr (key 5 [bt g 1 0, bt g 2 0, bt g 2 1, bt g 3 0, bt g 3 1, bt g 3 2, bt g 4 0, bt g 4 1, bt g 4 2, bt g 4 3] hn rfl ?_ ?_)
    · intro x hx; simp only [List.mem_cons, List.not_mem_nil, or_false] at hx; rcases hx with rfl | rfl | rfl | rfl | rfl | rfl | rfl | rfl | rfl | rfl <;> exact bt_lt _ _ _
    · intro v hv u hu
      match v, u, hv, hu with
      | 1, 0, _, _ => rfl
      | 2, 0, _, _ => rfl
      | 2, 1, _, _ => rfl
      | 3, 0, _, _ => rfl
      | 3, 1, _, _ => rfl
      | 3, 2, _, _ => rfl
      | 4, 0, _, _ => rfl
      | 4, 1, _, _ => rfl
      | 4, 2, _, _ => rfl
      | 4, 3, _, _ => rfl

/-- The neighbours of v, ascending. -/
def nb (g : List Int) (v : Nat) : List Int := memL (gi g v).toNat 5
def ndAnd (a b : Nat) : Nat := a - (a &&& b)
/-- One way over all places: what is reached; whether something was new. -/
def lkR (g : List Int) (out : Nat) : Nat → Nat
  | 0 => out
  | v + 1 => if lkR g out v / 2 ^ v % 2 = 1 ∧ ndAnd (gi g v).toNat (lkR g out v) ≠ 0 then lkR g out v ||| (gi g v).toNat else lkR g out v
def lkA (g : List Int) (out : Nat) : Nat → Bool
  | 0 => false
  | v + 1 => if lkR g out v / 2 ^ v % 2 = 1 ∧ ndAnd (gi g v).toNat (lkR g out v) ≠ 0 then true else lkA g out v
def lkI (g : List Int) : Nat → Nat
  | 0 => 1
  | k + 1 => lkR g (lkI g k) g.length
def agF (g : List Int) : Nat → Bool
  | 0 => true
  | k + 1 => lkA g (lkI g k) g.length
def lnk (g : List Int) : Nat := lkI g 6
/-- The list of places that are reached, as the program makes it. -/
def addN (R : List Nat) (x : Nat) : List Nat := if R.contains x then R else R ++ [x]
def rIn (R : List Nat) (ms : List Int) : Nat → List Nat
  | 0 => R
  | j + 1 => addN (rIn R ms j) (gi ms j).toNat
def rO (g : List Int) : Nat → List Nat
  | 0 => [0]
  | i + 1 => if i < (rO g i).length then rIn (rO g i) (nb g ((rO g i).getD i 0)) (nb g ((rO g i).getD i 0)).length else rO g i
def lkOk (g : List Int) : Bool :=
  (List.range 7).all (fun k => decide (lkI g k < 32) && (List.range 6).all (fun v => decide (lkR g (lkI g k) v < 32)) && (agF g k || lkI g k == lkI g 6)) && (List.range 6).all (fun k => if agF g (k + 1) then decide (lkI g k < lkI g (k + 1)) else lkI g k == lkI g (k + 1)) && !agF g 6
def rOk (g : List Int) : Bool :=
  (List.range 7).all (fun i => decide ((rO g i).length ≤ g.length) && (rO g i).all (fun x => decide (x < g.length)) && decide (1 ≤ (rO g i).length)) && rO g 6 == rO g 5 && ((rO g 5).length == g.length) == (lnk g == 2 ^ g.length - 1)
theorem lk_table : graphs.all (fun g => lkOk g && rOk g) = true := by decide +kernel
/-- Graphs, all of whose places are reached. -/
structure GR (g : List Int) : Prop where
  b : GB g
  all : lnk g = 2 ^ g.length - 1
def degT (g : List Int) : Bool := !(lnk g == 2 ^ g.length - 1) || (List.range g.length).all fun v => decide (1 ≤ (nb g v).length) && decide ((nb g v).length ≤ 4) && (nb g v).all fun u => decide (u.toNat < g.length)
theorem deg_table : graphs.all degT = true := by decide +kernel
end Go.Proofs.Ytjkmgpiiamffgaa

/- Members of sets; numbers put to their places: by the program. -/
namespace Go.Proofs.Ytjkmgpiiamffgaa
open Go.RowKit

theorem and_one : ∀ s, s < 32 → ∀ k, k < 6 → (bits BinOp.and IntKind.i64 (((s : Nat) : Int) / 2 ^ k) 1 == 1) = (s / 2 ^ k % 2 == 1) := by decide +kernel
theorem shr_pos : ∀ s, s < 32 → ∀ k, k < 6 → decide (0 < ((s : Nat) : Int) / 2 ^ k) = decide (0 < s / 2 ^ k) := by decide +kernel
theorem memL_end : ∀ s, s < 32 → ∀ k, k < 6 → ¬ 0 < s / 2 ^ k → memL s k = memL s 5 := by decide +kernel
theorem memL_53 : ∀ s, s < 8 → memL s 5 = memL s 3 := by decide +kernel
end Go.Proofs.Ytjkmgpiiamffgaa

