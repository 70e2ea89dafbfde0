/- A game drawn. -/
import Derived.Test.YtfilbknikbfjhaaG3
import Derived.Deep.RegionHeld3
namespace Go.Proofs.Ytfilbknikbfjhaa
open Go.RowKit

set_option maxRecDepth 100000 in
set_option maxHeartbeats 3200000 in
theorem someGame_any (w0 w : World) (g : Nat) (A : Option Addr) (l c p : Nat) (hrd : Rdr w0 w g A l c p) (hp : p < 700000000) :
    Calls Try.prog 59 #[.pointer (some ⟨g, 0, none⟩)] w (GameOut w0 w.heap.size g A l c p) := by
  obtain ⟨i0, hi0, hz0, hz1, hz2⟩ := info_parts Try.info_row
  have HR := Lib.hid (hrd.below_ (below_alloc w (.cells #[.slice none 0 0, .slice none 0 0] 25)))
  have HB0 := Lib.hid (blk_new w 25 #[.slice none 0 0, .slice none 0 0])
  have HNE := Lib.hid (show g ≠ w.heap.size from by have := blk_lt hrd.box; omega)
  have HW0 := Lib.hid hrd.below.size
  have HI1 : Hid (Ints ((w.alloc (.cells #[.slice none 0 0, .slice none 0 0] 25)).alloc (.cells #[iv 2, iv 3, iv 2, iv 1] 3)) (some ⟨w.heap.size + 1, 0, none⟩) 4 4 [2, 3, 2, 1]) := Lib.hid (by
    have h := Ints.lit (w.alloc (.cells #[.slice none 0 0, .slice none 0 0] 25)) [2, 3, 2, 1] (by decide) (by decide)
    rw [World.size_alloc] at h
    exact h)
  clear hrd
  go_enter Try.func59, Try.ntmps59
  go_wp2_with fail
  have HZ0 : Hid (w.heap.size < (w.alloc (.cells #[.slice none 0 0, .slice none 0 0] 25)).heap.size) := Lib.hid (by simp)
  have HZ1 : Hid ((w.alloc (.cells #[.slice none 0 0, .slice none 0 0] 25)).heap.size ≤ w.heap.size + 1) := Lib.hid (by simp)
  generalize hr0 : w.heap.size = r0 at *
  have HR0 := Lib.hid hr0
  clear hr0
  generalize w.alloc (.cells #[.slice none 0 0, .slice none 0 0] 25) = W0 at *
  have H1 := Lib.hid (one_lit w0 W0 _ g A l c p (r0 + 1) 4 [2, 3, 2, 1] HR.out (by omega) (below_alloc W0 (.cells #[iv 2, iv 3, iv 2, iv 1] 3)) HZ1.out HI1.out (by omega))
  refine H1.out.mono ?_
  rintro e w1 ⟨n, rfl, hx, hr, hgr⟩
  have hn1 : 1 ≤ n ∧ n ≤ 3 := by simp at hx; omega
  have HG1 := Lib.hid hgr
  have H2 := Lib.hid (one_lit w0 w1 _ g A l c (p + 1) w1.heap.size 4 [2, 3, 2, 1] hr (by omega) (below_alloc w1 (.cells #[iv 2, iv 3, iv 2, iv 1] 3)) (Nat.le_refl _) (Ints.lit w1 [2, 3, 2, 1] (by decide) (by decide)) (by omega))
  clear hx hr hgr H1 HR HI1
  go_wp2_with fail
  refine H2.out.mono ?_
  rintro e w2 ⟨m, rfl, hx, hr, hgr⟩
  have hm1 : 1 ≤ m ∧ m ≤ 3 := by simp at hx; omega
  have HG2 := Lib.hid (grown_trans HG1.out hgr)
  have H3 := Lib.hid (one_lit w0 w2 _ g A l c (p + 2) w2.heap.size 3 [3, 1, 9] hr (by omega) (below_alloc w2 (.cells #[iv 3, iv 1, iv 9] 3)) (Nat.le_refl _) (Ints.lit w2 [3, 1, 9] (by decide) (by decide)) (by omega))
  clear hx hr hgr H2 HG1
  go_wp2_with fail
  refine H3.out.mono ?_
  rintro e w3 ⟨x, rfl, hx, hr, hgr⟩
  have hx1 : 1 ≤ x ∧ x ≤ 9 := by simp at hx; omega
  have HG3 := Lib.hid (grown_trans HG2.out hgr)
  obtain ⟨n, rfl⟩ := Int.eq_ofNat_of_zero_le (show 0 ≤ n by omega)
  obtain ⟨m, rfl⟩ := Int.eq_ofNat_of_zero_le (show 0 ≤ m by omega)
  obtain ⟨hn1, hn3⟩ := hn1
  obtain ⟨hm1, hm3⟩ := hm1
  have HRS := Lib.hid (show r0 < w3.heap.size by have := HG3.out.size; have := HZ0.out; omega)
  have HRB := Lib.hid (show Blk w3 r0 25 #[.slice none 0 0, .slice none 0 0] from (HG3.out.block r0 HZ0.out (fun e => HNE.out (by injection e with e; exact e.symm))).trans HB0.out)
  have H4 := Lib.hid (tableOf_any w0 w3 g A l c (p + 3) n m (-x) x hr (by omega) (by omega) (by omega) (by omega) (by omega) (by omega))
  clear hx hr hgr H3 HG2 HG3 HB0 HZ0 HZ1
  go_wp2_with fail
  refine H4.out.mono ?_
  rintro e w4 ⟨Av, cv, vsa, xa, p4, rfl, hla, hxa, hto, hp4⟩
  have HSA := Lib.hid (show Shp n m xa from ⟨hla, fun k hk => (hxa _ (gr_mem (by omega))).1, ⟨by omega, fun r hr => ⟨by have := (hxa r hr).1; omega, fun y hy => by have := (hxa r hr).2 y hy; omega⟩⟩⟩)
  obtain ⟨A', n', c', ga, e, -, hown⟩ := hto.bo.owns (by omega)
  injection e with e1 e2 e3
  subst e1
  subst e2
  subst e3
  have HOA := Lib.hid hown
  have HTA := Lib.hid hto
  have H5 := Lib.hid (tableOf_any w0 w4 g A l c p4 n m (-x) x hto.rd (by omega) (by omega) (by omega) (by omega) (by omega) (by omega))
  clear hxa hto hown H4 hla
  go_wp2_with fail
  refine H5.out.mono ?_
  rintro e w5 ⟨Bv, bv, vsb, xb, p5, rfl, hlb, hxb, hto, hp5⟩
  have HSB := Lib.hid (show Shp n m xb from ⟨hlb, fun k hk => (hxb _ (gr_mem (by omega))).1, ⟨by omega, fun r hr => ⟨by have := (hxb r hr).1; omega, fun y hy => by have := (hxb r hr).2 y hy; omega⟩⟩⟩)
  have HMH := Lib.hid hto.up.size
  have HGO : Hid (GO w0 w3 w4.heap.size g A l c p5 Av n cv ga xa (.slice Bv n bv) vsb xb w5.heap.size (w5.alloc (.cells #[.slice Av n cv, .slice Bv n bv] 25))) := Lib.hid (by
    have hgl := HTA.out.gl
    have hlm := HTA.out.up.size
    have hb := below_alloc w5 (.cells #[.slice Av n cv, .slice Bv n bv] 25)
    exact ⟨hto.rd.below_ hb, (HOA.out.of_blocks fun k h1 _ h3 => hto.up.block k h3 (fun e => by injection e with e; omega)).below hb, (hto.bo.below hb).mono hb.size, hgl, hlm, Nat.le_trans hto.up.size hb.size, grown_below (grown_trans HTA.out.up hto.up) hb, blk_new _ _ _⟩)
  clear hxb hto H5 HTA HOA hlb
  go_wp2_with fail
  generalize w5.alloc (.cells #[.slice Av n cv, .slice Bv n bv] 25) = W6 at *
  generalize w5.heap.size = h at *
  generalize hmid : w4.heap.size = mid at *
  clear hmid
  have hmh : mid ≤ h := HMH.out
  have HC := Lib.hid (pick_any w0 W6 g A l c p5 6 HGO.out.rd (by omega))
  refine HC.out.mono ?_
  rintro e w7 ⟨k, rfl, hk1, _, hr, z, hw⟩
  have hone := Rdr.one (g := g) W6 (.int .i64 (p5 + 1 : Nat)) z
  rw [← hw] at hone
  obtain ⟨k0, k1⟩ := hk1 (by omega)
  have HG7 := Lib.hid (HGO.out.one hr hone)
  clear hr hone hw hk1 HC HGO HMH
  by_cases ek0 : k = 0
  · subst ek0
    have c0 := blk_cell HG7.out.box (i := 0) (v := .slice Av n cv) rfl
    have HC := Lib.hid (negatedB_any Av n cv xa w7 HG7.out.a.rows HSA.out.sm)
    go_wp2_with fail
    refine HC.out.mono ?_
    rintro e w8 ⟨Nv, cn, vsn, rfl, hbld, hb⟩
    have HG8 := Lib.hid ((HG7.out.below hb).rebox hmh (hbld.mono_lo HG7.out.mw))
    have HSN := Lib.hid HSA.out.sm.mtab
    have HNL : Hid ((mtab xa xa.length).length ≤ 3) := Lib.hid (by rw [mtab_len, HSA.out.len]; omega)
    have HOX := Lib.hid (HG7.out.below hb).box
    have c1 := blk_cell HOX.out (i := 1) (v := .slice Bv n bv) rfl
    have f1 := blk_frozen HOX.out 1
    clear hbld hb HC HG7 c0 HSB HOX
    generalize mtab xa xa.length = ys at *
    generalize hN : ys.length = N at *
    have HBL := Lib.hid hN
    clear hN
    go_wp2_with fail
    clear c1 f1
    generalize hW : w8.setCell ⟨h, 1, none⟩ (.slice Nv N cn) = WT at *
    clear hW
    have HT := HG8
    have HSMA := Lib.hid HSA.out.sm
    have HSMB := HSN
    have hl7 : N ≤ 3 := HNL.out
    clear HG8 HSA HSN HNL
    have HC := Lib.hid (pick_any w0 WT g A l c (p5 + 1) 40 HT.out.rd (by omega))
    go_wp2_with fail
    refine HC.out.mono ?_
    rintro e x1 ⟨kk, rfl, hk1, _, hr, z, hw⟩
    have hone := Rdr.one (g := g) WT (.int .i64 (p5 + 1 + 1 : Nat)) z
    rw [← hw] at hone
    obtain ⟨kk0, kk1⟩ := hk1 (by omega)
    have HT2 := Lib.hid (HT.out.one hr hone)
    have HRX := Lib.hid (show Blk x1 r0 25 #[.slice none 0 0, .slice none 0 0] from (HT2.out.up.block r0 HRS.out (fun e => HNE.out (by injection e with e; exact e.symm))).trans HRB.out)
    clear hr hone hw hk1 HC HT HRB
    by_cases e0 : kk = 0
    · subst e0
      have HTO := Lib.hid HT2.out.to
      have HI := Lib.hid (HTO.out.lit 0)
      have hWs : (x1.alloc (.cells #[iv 0] 3)).heap.size = x1.heap.size + 1 := by simp
      obtain ⟨Ar, nr, cr, gg, e, hn, ho, _⟩ := HI.out.bi.owns (by simp) (fun x hx => by simp at hx; omega)
      injection e with e1 e2 e3
      subst e1
      subst e2
      subst e3
      have HO := Lib.hid ho
      have hb := below_alloc (x1.alloc (.cells #[iv 0] 3)) (.cells #[.slice (some ⟨x1.heap.size, 0, none⟩) 1 1] 27)
      have HB4 := Lib.hid (HI.out.bo.below hb).own
      have HN := Lib.hid (cell_one_new (x1.alloc (.cells #[iv 0] 3)) (.slice (some ⟨x1.heap.size, 0, none⟩) 1 1) 27)
      have HNO := Lib.hid (box_ne_own HT2.out.box HTO.out.bo.own (by decide))
      have HBF := Lib.hid (blk_below (blk_below HT2.out.box (below_alloc x1 (.cells #[iv 0] 3))) (below_alloc _ (.cells #[.slice (some ⟨x1.heap.size, 0, none⟩) 1 1] 27)))
      have hHs := HI.out.hs
      have hlh := HI.out.lh
      have c1 := blk_cell HT2.out.box (i := 1) (v := .slice Nv N cn) rfl
      have HLB : Hid (ys.length = N) := Lib.hid HBL.out
      rw [HLB.out] at HB4
      clear hb ho hn
      go_wp2_with (at_builtin; refine wpList_append_own_at _ rfl _ _ 23 rfl (cutW x1 mid).heap.size 27 i0 (.slice none 0 0) 1 24 Try.underlying23 hi0 hz0 hz1 hz2 rfl (by decide) _ (N) vsn rfl HB4.out ⟨x1.heap.size + 1, 0, none⟩ 1 1 [.slice (some ⟨x1.heap.size, 0, none⟩) 1 1] rfl rfl ?d1 ?d2 ?d3 ?d4 ?d5 ?_)
      case d1 => have := HN.out; rw [hWs] at this; exact this
      case d2 => intro u hu; simp at hu; subst hu; rfl
      case d3 => unfold maxLen; omega
      case d4 => omega
      case d5 => simp; omega
      intro v' x2 hown' hgrow _ hat
      rw [← HLB.out] at hown'
      have HT5 := Lib.hid (TI.done (w := x1.alloc (.cells #[iv 0] 3)) (ys := [0]) (xss := ys) (v' := v') (vs := vsn) (Ar := some ⟨x1.heap.size, 0, none⟩) (cr := 1) HI.out HO.out hown' hgrow (by simpa using hat))
      have HBG := Lib.hid (show Blk x2 h 25 #[.slice Av n cv, .slice Nv (N) cn] from (hgrow.block h (blk_lt HBF.out) (fun e => HNO.out e.symm)).trans HBF.out)
      clear HB4 HN hown' hgrow hat HI HO HBF HNO HTO c1
      obtain ⟨Av2, cv2, rfl⟩ := HT5.out.bo.form
      have HS4 := Lib.hid (HSMB.out.snoc (x := 0) (by rw [HLB.out]; omega) (by omega))
      have hl8 : (ys ++ [[0]]).length ≤ 7 := by rw [List.length_append, HLB.out]; simp; omega
      generalize ys ++ [[0]] = zs at *
      have HSP := Lib.hid (spoilH_any w0 (cutW x1 mid) x2 h _ g A l c (p5 + 1 + 1) Av2 cv2 _ zs HT5.out (by omega) HS4.out hl8 HBG.out (box_slices _ _ _ _ _ _))
      clear HT5 HBG HS4
      go_wp2_with fail
      refine HSP.out.mono ?_
      rintro e x3 ⟨vv, vs3, xs3, p3, rfl, hsm3, hto3, hp3, hbx3⟩
      obtain ⟨Ab, nb, cb, gb, ev, -, hob⟩ := hto3.bo.owns (by have := hsm3.n; omega)
      subst ev
      have HSM3 := Lib.hid hsm3
      have HTO3 := Lib.hid hto3
      have HBX3 := Lib.hid hbx3
      have HMW := Lib.hid HT2.out.mw
      have HKE := Lib.hid (fun k (hk : k < mid) (hne : k ≠ g) => grown_cut hto3.up HT2.out.mw hk hne)
      have HA3 := Lib.hid (HT2.out.a.of_blocks (w' := x3) fun k h1 h2 _ => HKE.out k h2 (by have := HT2.out.gl; omega))
      have HR3 := Lib.hid (show Blk x3 r0 25 #[.slice none 0 0, .slice none 0 0] from (HKE.out r0 (by have := HRS.out; have := HT2.out.lm; omega) (Ne.symm HNE.out)).trans HRX.out)
      have HLM := Lib.hid HT2.out.lm
      clear hsm3 hto3 hbx3 hob HSP HT2 HRX
      have hneh : r0 ≠ h := by have := HRS.out; have := HLM.out; omega
      have c1 := blk_cell HBX3.out (i := 1) (v := .slice Nv (N) cn) rfl
      have f1 := blk_frozen HBX3.out 1
      have c0 := blk_cell HBX3.out (i := 0) (v := .slice Av n cv) rfl
      have d0 := blk_cell HR3.out (i := 0) (v := .slice none 0 0) rfl
      have d1 := blk_cell HR3.out (i := 1) (v := .slice none 0 0) rfl
      have g0 := blk_frozen HR3.out 0
      have g1 := blk_frozen HR3.out 1
      go_wp2
      clear c1 f1 c0 d0 d1 g0 g1
      have HBB := Lib.hid ((HTO3.out.bo.mono_lo (lo' := mid) (by rw [cutW_size HMW.out]; exact Nat.le_refl _)).set_box HBX3.out (box_slices _ _ _ _ _ _) 1 (.slice Ab nb cb))
      have hs1 : (x3.setCell ⟨h, 1, none⟩ (.slice Ab nb cb)).heap.size = x3.heap.size := by simp [World.setCell]
      have HAA := Lib.hid (HA3.out.of_blocks (w' := x3.setCell ⟨h, 1, none⟩ (.slice Ab nb cb)) fun k _ h2 _ => Below.heap_setCell _ _ _ _ (by show k ≠ h; omega))
      have HNH := Lib.hid (box_ne_box HBX3.out HTO3.out.rd.box (by decide))
      have HRR := Lib.hid (show Rdr w0 (x3.setCell ⟨h, 1, none⟩ (.slice Ab nb cb)) g A l c p3 from ⟨blk_other HTO3.out.rd.box (Ne.symm HNH.out) _, HTO3.out.rd.bytes, HTO3.out.rd.below.setCell (by show w0.heap.size ≤ h; have := HTO3.out.rd.lt; have := HTO3.out.gl; rw [cutW_size HMW.out] at this; omega) _, HTO3.out.rd.lt, HTO3.out.rd.small⟩)
      have HRZ := Lib.hid (blk_other HR3.out (p := ⟨h, 1, none⟩) hneh (.slice Ab nb cb))
      rw [← hs1] at HBB
      clear hs1 HA3 HTO3 HBX3 HR3
      have B1 := blk_set (blk_set HRZ.out 0 (.slice Av n cv)) 1 (.slice Ab nb cb)
      have q0 := blk_cell B1 (i := 0) (v := .slice Av n cv) rfl
      have q1 := blk_cell B1 (i := 1) (v := .slice Ab nb cb) rfl
      clear B1 HRZ
      generalize x3.setCell ⟨h, 1, none⟩ (.slice Ab nb cb) = X3 at *
      have HFIN := Lib.hid (game_done (w3 := w3.heap.size) (p0 := p) (x := .slice Av n cv) (y := .slice Ab nb cb) HRR.out HAA.out HBB.out HSMA.out HSM3.out HRS.out HLM.out HNE.out HW0.out (by omega) rfl)
      refine bodyPost_ret (v := .agg #[.slice Av n cv, .slice Ab nb cb]) (by simp [results, Try.results59, go_sem, q0, q1]) rfl ?_
      exact HFIN.out
    · have c0 := blk_cell HT2.out.box (i := 0) (v := .slice Av n cv) rfl
      have c1 := blk_cell HT2.out.box (i := 1) (v := .slice Nv (N) cn) rfl
      have d0 := blk_cell HRX.out (i := 0) (v := .slice none 0 0) rfl
      have d1 := blk_cell HRX.out (i := 1) (v := .slice none 0 0) rfl
      have g0 := blk_frozen HRX.out 0
      have g1 := blk_frozen HRX.out 1
      go_wp2
      clear c0 c1 d0 d1 g0 g1
      have B1 := blk_set (blk_set HRX.out 0 (.slice Av n cv)) 1 (.slice Nv (N) cn)
      have q0 := blk_cell B1 (i := 0) (v := .slice Av n cv) rfl
      have q1 := blk_cell B1 (i := 1) (v := .slice Nv (N) cn) rfl
      clear B1
      have HFIN := Lib.hid (game_done (w3 := w3.heap.size) (p0 := p) (x := .slice Av n cv) (y := .slice Nv (N) cn) HT2.out.rd HT2.out.a HT2.out.b HSMA.out HSMB.out HRS.out HT2.out.lm HNE.out HW0.out (by omega) rfl)
      refine bodyPost_ret (v := .agg #[.slice Av n cv, .slice Nv (N) cn]) (by simp [results, Try.results59, go_sem, q0, q1]) rfl ?_
      exact HFIN.out
  · by_cases ek1 : k = 1
    · subst ek1
      go_wp2
      go_loopw [7] (fun i wr => ∃ (ii q : Nat) (ya yb : List (List Int)), ii ≤ n ∧ i = .int .i64 ii ∧ q ≤ p5 + 1 + 3 * ii ∧ Hid (Shp n m ya) ∧ Hid (Shp n m yb) ∧ Hid (GO w0 w3 mid g A l c q Av n cv ga ya (.slice Bv n bv) vsb yb h wr)) (fun i _ => n - (intOf i).toNat)
      case atStart => exact ⟨0, p5 + 1, xa, xb, Nat.zero_le _, rfl, by omega, HSA, HSB, HG7⟩
      case round =>
        clear HG7 HSA HSB
        obtain ⟨ii, q, ya, yb, hii, rfl, hq, HSA, HSB, HG7⟩ := hrel
        by_cases hlt : ii < n
        · go_wp2
          go_loopw [8] (fun j wi => ∃ (jj q' : Nat) (za zb : List (List Int)), jj ≤ m ∧ j = .int .i64 jj ∧ q' ≤ p5 + 1 + 3 * ii + jj ∧ Hid (Shp n m za) ∧ Hid (Shp n m zb) ∧ Hid (GO w0 w3 mid g A l c q' Av n cv ga za (.slice Bv n bv) vsb zb h wi)) (fun j _ => m - (intOf j).toNat)
          case atStart => exact ⟨0, q, ya, yb, Nat.zero_le _, rfl, by omega, HSA, HSB, HG7⟩
          case round =>
            clear HG7 HSA HSB
            obtain ⟨jj, q', za, zb, hjj, rfl, hq', HSA, HSB, HG7⟩ := hrel
            by_cases hlj : jj < m
            · have HC := Lib.hid (pick_any w0 wr g A l c q' 5 HG7.out.rd (by omega))
              go_wp2_with fail
              refine HC.out.mono ?_
              rintro e w8 ⟨kk, rfl, hk1, _, hr, z, hw⟩
              have hone := Rdr.one (g := g) wr (.int .i64 (q' + 1 : Nat)) z
              rw [← hw] at hone
              obtain ⟨kk0, kk1⟩ := hk1 (by omega)
              have HG8 := Lib.hid (HG7.out.one hr hone)
              clear hr hone hw hk1 HC HG7
              have HRA := Lib.hid (HSA.out.row ii hlt)
              have HRBm := Lib.hid (HSB.out.row ii hlt)
              obtain ⟨oo, gg, r, cc, e, c1, ⟨y, hy⟩, hf, hset⟩ := HG8.out.setA (i := ii) (j := jj) (x := kk - 2 + (jj : Int)) hlt (by rw [HRA.out]; exact hlj) (by omega)
              subst e
              rw [HRA.out] at c1
              have c0 := blk_cell HG8.out.box (i := 0) (v := .slice (some ⟨ga, oo, none⟩) n cv) rfl
              have HG9 := Lib.hid hset
              have HSA2 := Lib.hid (HSA.out.set (i := ii) (j := jj) (x := kk - 2 + (jj : Int)) hlt (by omega))
              clear hset HG8
              have d0 := blk_cell HG9.out.box (i := 1) (v := .slice Bv n bv) rfl
              obtain ⟨bo, gg2, r2, cc2, e, c2, ⟨y2, hy2⟩, hf2, hset2⟩ := HG9.out.setB (i := ii) (j := jj) (x := kk - 2 - (ii : Int)) (by rw [HSB.out.len]; exact hlt) (by rw [HRBm.out]; exact hlj) (by omega)
              subst e
              rw [HRBm.out] at c2
              have HG10 := Lib.hid hset2
              have HSB2 := Lib.hid (HSB.out.set (i := ii) (j := jj) (x := kk - 2 - (ii : Int)) hlt (by omega))
              clear hset2 HG9
              go_wp2
              go_roundw
              case rel => exact ⟨jj + 1, q' + 1, _, _, by omega, by go_num, by omega, HSA2, HSB2, HG10⟩
              case measure => simp [intOf]; omega
            · go_wp2
              go_roundw
              case rel => exact ⟨ii + 1, q', za, zb, by omega, by go_num, by omega, HSA, HSB, HG7⟩
              case measure => simp [intOf]; omega
        · have HT := HG7
          have HSMA := Lib.hid HSA.out.sm
          have HSMB := Lib.hid HSB.out.sm
          have hl7 : n ≤ 3 := by omega
          have HBL := Lib.hid HSB.out.len
          clear HG7 HSA HSB
          have HC := Lib.hid (pick_any w0 wr g A l c (q) 40 HT.out.rd (by omega))
          go_wp2_with fail
          refine HC.out.mono ?_
          rintro e x1 ⟨kk, rfl, hk1, _, hr, z, hw⟩
          have hone := Rdr.one (g := g) wr (.int .i64 (q + 1 : Nat)) z
          rw [← hw] at hone
          obtain ⟨kk0, kk1⟩ := hk1 (by omega)
          have HT2 := Lib.hid (HT.out.one hr hone)
          have HRX := Lib.hid (show Blk x1 r0 25 #[.slice none 0 0, .slice none 0 0] from (HT2.out.up.block r0 HRS.out (fun e => HNE.out (by injection e with e; exact e.symm))).trans HRB.out)
          clear hr hone hw hk1 HC HT HRB
          by_cases e0 : kk = 0
          · subst e0
            have HTO := Lib.hid HT2.out.to
            have HI := Lib.hid (HTO.out.lit 0)
            have hWs : (x1.alloc (.cells #[iv 0] 3)).heap.size = x1.heap.size + 1 := by simp
            obtain ⟨Ar, nr, cr, gg, e, hn, ho, _⟩ := HI.out.bi.owns (by simp) (fun x hx => by simp at hx; omega)
            injection e with e1 e2 e3
            subst e1
            subst e2
            subst e3
            have HO := Lib.hid ho
            have hb := below_alloc (x1.alloc (.cells #[iv 0] 3)) (.cells #[.slice (some ⟨x1.heap.size, 0, none⟩) 1 1] 27)
            have HB4 := Lib.hid (HI.out.bo.below hb).own
            have HN := Lib.hid (cell_one_new (x1.alloc (.cells #[iv 0] 3)) (.slice (some ⟨x1.heap.size, 0, none⟩) 1 1) 27)
            have HNO := Lib.hid (box_ne_own HT2.out.box HTO.out.bo.own (by decide))
            have HBF := Lib.hid (blk_below (blk_below HT2.out.box (below_alloc x1 (.cells #[iv 0] 3))) (below_alloc _ (.cells #[.slice (some ⟨x1.heap.size, 0, none⟩) 1 1] 27)))
            have hHs := HI.out.hs
            have hlh := HI.out.lh
            have c1 := blk_cell HT2.out.box (i := 1) (v := .slice Bv n bv) rfl
            have HLB : Hid (yb.length = n) := Lib.hid HBL.out
            rw [HLB.out] at HB4
            clear hb ho hn
            go_wp2_with (at_builtin; refine wpList_append_own_at _ rfl _ _ 23 rfl (cutW x1 mid).heap.size 27 i0 (.slice none 0 0) 1 24 Try.underlying23 hi0 hz0 hz1 hz2 rfl (by decide) _ (n) vsb rfl HB4.out ⟨x1.heap.size + 1, 0, none⟩ 1 1 [.slice (some ⟨x1.heap.size, 0, none⟩) 1 1] rfl rfl ?d1 ?d2 ?d3 ?d4 ?d5 ?_)
            case d1 => have := HN.out; rw [hWs] at this; exact this
            case d2 => intro u hu; simp at hu; subst hu; rfl
            case d3 => unfold maxLen; omega
            case d4 => omega
            case d5 => simp; omega
            intro v' x2 hown' hgrow _ hat
            rw [← HLB.out] at hown'
            have HT5 := Lib.hid (TI.done (w := x1.alloc (.cells #[iv 0] 3)) (ys := [0]) (xss := yb) (v' := v') (vs := vsb) (Ar := some ⟨x1.heap.size, 0, none⟩) (cr := 1) HI.out HO.out hown' hgrow (by simpa using hat))
            have HBG := Lib.hid (show Blk x2 h 25 #[.slice Av n cv, .slice Bv (n) bv] from (hgrow.block h (blk_lt HBF.out) (fun e => HNO.out e.symm)).trans HBF.out)
            clear HB4 HN hown' hgrow hat HI HO HBF HNO HTO c1
            obtain ⟨Av2, cv2, rfl⟩ := HT5.out.bo.form
            have HS4 := Lib.hid (HSMB.out.snoc (x := 0) (by rw [HLB.out]; omega) (by omega))
            have hl8 : (yb ++ [[0]]).length ≤ 7 := by rw [List.length_append, HLB.out]; simp; omega
            generalize yb ++ [[0]] = zs at *
            have HSP := Lib.hid (spoilH_any w0 (cutW x1 mid) x2 h _ g A l c (q + 1) Av2 cv2 _ zs HT5.out (by omega) HS4.out hl8 HBG.out (box_slices _ _ _ _ _ _))
            clear HT5 HBG HS4
            go_wp2_with fail
            refine HSP.out.mono ?_
            rintro e x3 ⟨vv, vs3, xs3, p3, rfl, hsm3, hto3, hp3, hbx3⟩
            obtain ⟨Ab, nb, cb, gb, ev, -, hob⟩ := hto3.bo.owns (by have := hsm3.n; omega)
            subst ev
            have HSM3 := Lib.hid hsm3
            have HTO3 := Lib.hid hto3
            have HBX3 := Lib.hid hbx3
            have HMW := Lib.hid HT2.out.mw
            have HKE := Lib.hid (fun k (hk : k < mid) (hne : k ≠ g) => grown_cut hto3.up HT2.out.mw hk hne)
            have HA3 := Lib.hid (HT2.out.a.of_blocks (w' := x3) fun k h1 h2 _ => HKE.out k h2 (by have := HT2.out.gl; omega))
            have HR3 := Lib.hid (show Blk x3 r0 25 #[.slice none 0 0, .slice none 0 0] from (HKE.out r0 (by have := HRS.out; have := HT2.out.lm; omega) (Ne.symm HNE.out)).trans HRX.out)
            have HLM := Lib.hid HT2.out.lm
            clear hsm3 hto3 hbx3 hob HSP HT2 HRX
            have hneh : r0 ≠ h := by have := HRS.out; have := HLM.out; omega
            have c1 := blk_cell HBX3.out (i := 1) (v := .slice Bv (n) bv) rfl
            have f1 := blk_frozen HBX3.out 1
            have c0 := blk_cell HBX3.out (i := 0) (v := .slice Av n cv) rfl
            have d0 := blk_cell HR3.out (i := 0) (v := .slice none 0 0) rfl
            have d1 := blk_cell HR3.out (i := 1) (v := .slice none 0 0) rfl
            have g0 := blk_frozen HR3.out 0
            have g1 := blk_frozen HR3.out 1
            go_wp2
            clear c1 f1 c0 d0 d1 g0 g1
            have HBB := Lib.hid ((HTO3.out.bo.mono_lo (lo' := mid) (by rw [cutW_size HMW.out]; exact Nat.le_refl _)).set_box HBX3.out (box_slices _ _ _ _ _ _) 1 (.slice Ab nb cb))
            have hs1 : (x3.setCell ⟨h, 1, none⟩ (.slice Ab nb cb)).heap.size = x3.heap.size := by simp [World.setCell]
            have HAA := Lib.hid (HA3.out.of_blocks (w' := x3.setCell ⟨h, 1, none⟩ (.slice Ab nb cb)) fun k _ h2 _ => Below.heap_setCell _ _ _ _ (by show k ≠ h; omega))
            have HNH := Lib.hid (box_ne_box HBX3.out HTO3.out.rd.box (by decide))
            have HRR := Lib.hid (show Rdr w0 (x3.setCell ⟨h, 1, none⟩ (.slice Ab nb cb)) g A l c p3 from ⟨blk_other HTO3.out.rd.box (Ne.symm HNH.out) _, HTO3.out.rd.bytes, HTO3.out.rd.below.setCell (by show w0.heap.size ≤ h; have := HTO3.out.rd.lt; have := HTO3.out.gl; rw [cutW_size HMW.out] at this; omega) _, HTO3.out.rd.lt, HTO3.out.rd.small⟩)
            have HRZ := Lib.hid (blk_other HR3.out (p := ⟨h, 1, none⟩) hneh (.slice Ab nb cb))
            rw [← hs1] at HBB
            clear hs1 HA3 HTO3 HBX3 HR3
            have B1 := blk_set (blk_set HRZ.out 0 (.slice Av n cv)) 1 (.slice Ab nb cb)
            have q0 := blk_cell B1 (i := 0) (v := .slice Av n cv) rfl
            have q1 := blk_cell B1 (i := 1) (v := .slice Ab nb cb) rfl
            clear B1 HRZ
            generalize x3.setCell ⟨h, 1, none⟩ (.slice Ab nb cb) = X3 at *
            have HFIN := Lib.hid (game_done (w3 := w3.heap.size) (p0 := p) (x := .slice Av n cv) (y := .slice Ab nb cb) HRR.out HAA.out HBB.out HSMA.out HSM3.out HRS.out HLM.out HNE.out HW0.out (by omega) rfl)
            refine bodyPost_ret (v := .agg #[.slice Av n cv, .slice Ab nb cb]) (by simp [results, Try.results59, go_sem, q0, q1]) rfl ?_
            exact HFIN.out
          · have c0 := blk_cell HT2.out.box (i := 0) (v := .slice Av n cv) rfl
            have c1 := blk_cell HT2.out.box (i := 1) (v := .slice Bv (n) bv) rfl
            have d0 := blk_cell HRX.out (i := 0) (v := .slice none 0 0) rfl
            have d1 := blk_cell HRX.out (i := 1) (v := .slice none 0 0) rfl
            have g0 := blk_frozen HRX.out 0
            have g1 := blk_frozen HRX.out 1
            go_wp2
            clear c0 c1 d0 d1 g0 g1
            have B1 := blk_set (blk_set HRX.out 0 (.slice Av n cv)) 1 (.slice Bv (n) bv)
            have q0 := blk_cell B1 (i := 0) (v := .slice Av n cv) rfl
            have q1 := blk_cell B1 (i := 1) (v := .slice Bv (n) bv) rfl
            clear B1
            have HFIN := Lib.hid (game_done (w3 := w3.heap.size) (p0 := p) (x := .slice Av n cv) (y := .slice Bv (n) bv) HT2.out.rd HT2.out.a HT2.out.b HSMA.out HSMB.out HRS.out HT2.out.lm HNE.out HW0.out (by omega) rfl)
            refine bodyPost_ret (v := .agg #[.slice Av n cv, .slice Bv (n) bv]) (by simp [results, Try.results59, go_sem, q0, q1]) rfl ?_
            exact HFIN.out
    · have HT := HG7
      have HSMA := Lib.hid HSA.out.sm
      have HSMB := Lib.hid HSB.out.sm
      have hl7 : n ≤ 3 := by omega
      have HBL := Lib.hid HSB.out.len
      clear HG7 HSA HSB
      have HC := Lib.hid (pick_any w0 w7 g A l c (p5 + 1) 40 HT.out.rd (by omega))
      go_wp2_with fail
      refine HC.out.mono ?_
      rintro e x1 ⟨kk, rfl, hk1, _, hr, z, hw⟩
      have hone := Rdr.one (g := g) w7 (.int .i64 (p5 + 1 + 1 : Nat)) z
      rw [← hw] at hone
      obtain ⟨kk0, kk1⟩ := hk1 (by omega)
      have HT2 := Lib.hid (HT.out.one hr hone)
      have HRX := Lib.hid (show Blk x1 r0 25 #[.slice none 0 0, .slice none 0 0] from (HT2.out.up.block r0 HRS.out (fun e => HNE.out (by injection e with e; exact e.symm))).trans HRB.out)
      clear hr hone hw hk1 HC HT HRB
      by_cases e0 : kk = 0
      · subst e0
        have HTO := Lib.hid HT2.out.to
        have HI := Lib.hid (HTO.out.lit 0)
        have hWs : (x1.alloc (.cells #[iv 0] 3)).heap.size = x1.heap.size + 1 := by simp
        obtain ⟨Ar, nr, cr, gg, e, hn, ho, _⟩ := HI.out.bi.owns (by simp) (fun x hx => by simp at hx; omega)
        injection e with e1 e2 e3
        subst e1
        subst e2
        subst e3
        have HO := Lib.hid ho
        have hb := below_alloc (x1.alloc (.cells #[iv 0] 3)) (.cells #[.slice (some ⟨x1.heap.size, 0, none⟩) 1 1] 27)
        have HB4 := Lib.hid (HI.out.bo.below hb).own
        have HN := Lib.hid (cell_one_new (x1.alloc (.cells #[iv 0] 3)) (.slice (some ⟨x1.heap.size, 0, none⟩) 1 1) 27)
        have HNO := Lib.hid (box_ne_own HT2.out.box HTO.out.bo.own (by decide))
        have HBF := Lib.hid (blk_below (blk_below HT2.out.box (below_alloc x1 (.cells #[iv 0] 3))) (below_alloc _ (.cells #[.slice (some ⟨x1.heap.size, 0, none⟩) 1 1] 27)))
        have hHs := HI.out.hs
        have hlh := HI.out.lh
        have c1 := blk_cell HT2.out.box (i := 1) (v := .slice Bv n bv) rfl
        have HLB : Hid (xb.length = n) := Lib.hid HBL.out
        rw [HLB.out] at HB4
        clear hb ho hn
        go_wp2_with (at_builtin; refine wpList_append_own_at _ rfl _ _ 23 rfl (cutW x1 mid).heap.size 27 i0 (.slice none 0 0) 1 24 Try.underlying23 hi0 hz0 hz1 hz2 rfl (by decide) _ (n) vsb rfl HB4.out ⟨x1.heap.size + 1, 0, none⟩ 1 1 [.slice (some ⟨x1.heap.size, 0, none⟩) 1 1] rfl rfl ?d1 ?d2 ?d3 ?d4 ?d5 ?_)
        case d1 => have := HN.out; rw [hWs] at this; exact this
        case d2 => intro u hu; simp at hu; subst hu; rfl
        case d3 => unfold maxLen; omega
        case d4 => omega
        case d5 => simp; omega
        intro v' x2 hown' hgrow _ hat
        rw [← HLB.out] at hown'
        have HT5 := Lib.hid (TI.done (w := x1.alloc (.cells #[iv 0] 3)) (ys := [0]) (xss := xb) (v' := v') (vs := vsb) (Ar := some ⟨x1.heap.size, 0, none⟩) (cr := 1) HI.out HO.out hown' hgrow (by simpa using hat))
        have HBG := Lib.hid (show Blk x2 h 25 #[.slice Av n cv, .slice Bv (n) bv] from (hgrow.block h (blk_lt HBF.out) (fun e => HNO.out e.symm)).trans HBF.out)
        clear HB4 HN hown' hgrow hat HI HO HBF HNO HTO c1
        obtain ⟨Av2, cv2, rfl⟩ := HT5.out.bo.form
        have HS4 := Lib.hid (HSMB.out.snoc (x := 0) (by rw [HLB.out]; omega) (by omega))
        have hl8 : (xb ++ [[0]]).length ≤ 7 := by rw [List.length_append, HLB.out]; simp; omega
        generalize xb ++ [[0]] = zs at *
        have HSP := Lib.hid (spoilH_any w0 (cutW x1 mid) x2 h _ g A l c (p5 + 1 + 1) Av2 cv2 _ zs HT5.out (by omega) HS4.out hl8 HBG.out (box_slices _ _ _ _ _ _))
        clear HT5 HBG HS4
        go_wp2_with fail
        refine HSP.out.mono ?_
        rintro e x3 ⟨vv, vs3, xs3, p3, rfl, hsm3, hto3, hp3, hbx3⟩
        obtain ⟨Ab, nb, cb, gb, ev, -, hob⟩ := hto3.bo.owns (by have := hsm3.n; omega)
        subst ev
        have HSM3 := Lib.hid hsm3
        have HTO3 := Lib.hid hto3
        have HBX3 := Lib.hid hbx3
        have HMW := Lib.hid HT2.out.mw
        have HKE := Lib.hid (fun k (hk : k < mid) (hne : k ≠ g) => grown_cut hto3.up HT2.out.mw hk hne)
        have HA3 := Lib.hid (HT2.out.a.of_blocks (w' := x3) fun k h1 h2 _ => HKE.out k h2 (by have := HT2.out.gl; omega))
        have HR3 := Lib.hid (show Blk x3 r0 25 #[.slice none 0 0, .slice none 0 0] from (HKE.out r0 (by have := HRS.out; have := HT2.out.lm; omega) (Ne.symm HNE.out)).trans HRX.out)
        have HLM := Lib.hid HT2.out.lm
        clear hsm3 hto3 hbx3 hob HSP HT2 HRX
        have hneh : r0 ≠ h := by have := HRS.out; have := HLM.out; omega
        have c1 := blk_cell HBX3.out (i := 1) (v := .slice Bv (n) bv) rfl
        have f1 := blk_frozen HBX3.out 1
        have c0 := blk_cell HBX3.out (i := 0) (v := .slice Av n cv) rfl
        have d0 := blk_cell HR3.out (i := 0) (v := .slice none 0 0) rfl
        have d1 := blk_cell HR3.out (i := 1) (v := .slice none 0 0) rfl
        have g0 := blk_frozen HR3.out 0
        have g1 := blk_frozen HR3.out 1
        go_wp2
        clear c1 f1 c0 d0 d1 g0 g1
        have HBB := Lib.hid ((HTO3.out.bo.mono_lo (lo' := mid) (by rw [cutW_size HMW.out]; exact Nat.le_refl _)).set_box HBX3.out (box_slices _ _ _ _ _ _) 1 (.slice Ab nb cb))
        have hs1 : (x3.setCell ⟨h, 1, none⟩ (.slice Ab nb cb)).heap.size = x3.heap.size := by simp [World.setCell]
        have HAA := Lib.hid (HA3.out.of_blocks (w' := x3.setCell ⟨h, 1, none⟩ (.slice Ab nb cb)) fun k _ h2 _ => Below.heap_setCell _ _ _ _ (by show k ≠ h; omega))
        have HNH := Lib.hid (box_ne_box HBX3.out HTO3.out.rd.box (by decide))
        have HRR := Lib.hid (show Rdr w0 (x3.setCell ⟨h, 1, none⟩ (.slice Ab nb cb)) g A l c p3 from ⟨blk_other HTO3.out.rd.box (Ne.symm HNH.out) _, HTO3.out.rd.bytes, HTO3.out.rd.below.setCell (by show w0.heap.size ≤ h; have := HTO3.out.rd.lt; have := HTO3.out.gl; rw [cutW_size HMW.out] at this; omega) _, HTO3.out.rd.lt, HTO3.out.rd.small⟩)
        have HRZ := Lib.hid (blk_other HR3.out (p := ⟨h, 1, none⟩) hneh (.slice Ab nb cb))
        rw [← hs1] at HBB
        clear hs1 HA3 HTO3 HBX3 HR3
        have B1 := blk_set (blk_set HRZ.out 0 (.slice Av n cv)) 1 (.slice Ab nb cb)
        have q0 := blk_cell B1 (i := 0) (v := .slice Av n cv) rfl
        have q1 := blk_cell B1 (i := 1) (v := .slice Ab nb cb) rfl
        clear B1 HRZ
        generalize x3.setCell ⟨h, 1, none⟩ (.slice Ab nb cb) = X3 at *
        have HFIN := Lib.hid (game_done (w3 := w3.heap.size) (p0 := p) (x := .slice Av n cv) (y := .slice Ab nb cb) HRR.out HAA.out HBB.out HSMA.out HSM3.out HRS.out HLM.out HNE.out HW0.out (by omega) rfl)
        refine bodyPost_ret (v := .agg #[.slice Av n cv, .slice Ab nb cb]) (by simp [results, Try.results59, go_sem, q0, q1]) rfl ?_
        exact HFIN.out
      · have c0 := blk_cell HT2.out.box (i := 0) (v := .slice Av n cv) rfl
        have c1 := blk_cell HT2.out.box (i := 1) (v := .slice Bv (n) bv) rfl
        have d0 := blk_cell HRX.out (i := 0) (v := .slice none 0 0) rfl
        have d1 := blk_cell HRX.out (i := 1) (v := .slice none 0 0) rfl
        have g0 := blk_frozen HRX.out 0
        have g1 := blk_frozen HRX.out 1
        go_wp2
        clear c0 c1 d0 d1 g0 g1
        have B1 := blk_set (blk_set HRX.out 0 (.slice Av n cv)) 1 (.slice Bv (n) bv)
        have q0 := blk_cell B1 (i := 0) (v := .slice Av n cv) rfl
        have q1 := blk_cell B1 (i := 1) (v := .slice Bv (n) bv) rfl
        clear B1
        have HFIN := Lib.hid (game_done (w3 := w3.heap.size) (p0 := p) (x := .slice Av n cv) (y := .slice Bv (n) bv) HT2.out.rd HT2.out.a HT2.out.b HSMA.out HSMB.out HRS.out HT2.out.lm HNE.out HW0.out (by omega) rfl)
        refine bodyPost_ret (v := .agg #[.slice Av n cv, .slice Bv (n) bv]) (by simp [results, Try.results59, go_sem, q0, q1]) rfl ?_
        exact HFIN.out

end Go.Proofs.Ytfilbknikbfjhaa
