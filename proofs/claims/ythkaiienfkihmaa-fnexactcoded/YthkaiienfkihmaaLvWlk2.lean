/-
  The walks of FnExactCoded and FnExactDecoded, over what the program's own functions answer.
-/
import Derived.Test.YthkaiienfkihmaaLvWalk
namespace Go.Proofs.Ythkaiienfkihmaa
open Go Go.RowKit

theorem seg_same {w w' : World} {b off : Nat} {xs : List Int} (h : Seg w b off xs) (e : w'.heap[b]? = w.heap[b]?) : Seg w' b off xs := fun i hi => (World.cell?_of_block (w := w) (a := ⟨b, off + i, none⟩) e).trans (h i hi)

set_option maxRecDepth 100000 in
set_option maxHeartbeats 4000000 in
theorem walkCoded (HI : ICoded) (ao0 : Option Addr) (cap0 : Nat) (xs0 : List Int) (ao1 : Option Addr) (cap1 : Nat) (ls1 : List (List Int)) (w : World) (hv0 : View w ao0 xs0) (hn0 : xs0.length ≤ maxLen) (hv1 : CView w ao1 ls1) (hn1 : ls1.length ≤ maxLen) (hat1 : ∀ i, (cn ls1 i).length ≤ maxLen) :
    Calls Try.prog 5 #[.slice ao0 xs0.length cap0, .slice ao1 ls1.length cap1] w fun e w' => e = .returned (.bool true) ∧ Below w.heap.size w w' := by
  have HII := hidP HI
  clear HI
  unfold maxLen at hn0
  by_cases hbig0 : 1048576 < xs0.length
  · go_enter Try.func5, Try.ntmps5
    go_wp2
    go_ret
    exact ⟨rfl, Below.refl _ _⟩
  have h0n : xs0.length ≤ 1048576 := by omega
  clear hbig0
  go_enter Try.func5, Try.ntmps5
  go_wp2_with fail
  refine (szCS ao1 cap1 ls1 1048576 _ hv1 (by omega) (by omega) hn1 hat1).mono ?_
  rintro e w1 ⟨r, rfl, hr, hw1⟩
  subst w1
  by_cases hneg : r < 0
  · go_wp2_with fail
    go_ret
    exact ⟨rfl, Below.refl _ _⟩
  have hcm : CSmall ls1 := by rcases hr with h | h; exact absurd h hneg; exact h
  clear hr
  have HV0 := hidP hv0
  have HV1 := hidP hv1
  clear hv0 hv1
  obtain ⟨R, hR⟩ : ∃ R, codL xs0 ls1 = R := ⟨_, rfl⟩
  have nR : R.length ≤ 4 := by rw [← hR]; exact codL_four xs0 ls1
  have HR := hidP hR
  clear hR
  have hRR : decide (R = R) = true := by simp
  have hXX : decide (xs0 = xs0) = true := by simp
  go_wp2_with fail
  refine (toS ao0 cap0 xs0 _ HV0.out h0n).mono ?_
  rintro e w1 ⟨b1, rfl, o1, hb1, M1⟩
  go_wp2_with fail
  refine (toCS ao1 cap1 ls1 _ (HV1.out.next M1) hcm).mono ?_
  rintro e w2 ⟨b2, rfl, o2, hb2, M2⟩
  have L2 := chain M1 M2
  have HC := hidP (sCoded (some ⟨b1, 0, none⟩) (some ⟨b2, 0, none⟩) xs0.length ls1.length xs0 ls1 w2 (View.next o1.view M2) o2.view h0n hcm)
  rw [HR.out] at HC
  clear o1 o2 hb1 hb2 M1 M2
  go_wp2_with fail
  refine HC.out.mono ?_
  rintro e w3 ⟨gw, cw, rfl, row3, M3⟩
  have L3 := chain L2 M3
  have s3 := row3.seg
  have hgw := row3.lt.2
  clear L2 M3 HC row3
  go_wp2_with fail
  refine (toS ao0 cap0 xs0 _ (View.next HV0.out L3) h0n).mono ?_
  rintro e w4 ⟨bx, rfl, o4, hbx, M4⟩
  have L4 := chain L3 M4
  have s4 := Seg.below s3 hgw M4
  go_wp2_with fail
  refine (toCS ao1 cap1 ls1 _ (HV1.out.next L4) hcm).mono ?_
  rintro e w5 ⟨bl, rfl, o5, hbl, M5⟩
  have L5 := chain L4 M5
  have hz34 := M4.size
  have hz45 := M5.size
  have hxl := o4.lt
  have s5 := Seg.below s4 (by omega : gw < w4.heap.size) M5
  have ox5 := o4.below hxl M5
  have hwx : w.heap.size ≤ bx := Nat.le_trans L3.size hbx
  have hll := o5.1
  clear s3 s4 M4 M5 L3 L4 o4
  have HC := hidP (HII.out (some ⟨bx, 0, none⟩) xs0.length xs0 (some ⟨bl, 0, none⟩) ls1.length ls1 w5 ox5.view h0n (Nat.le_refl _) o5.view hcm (Nat.le_refl _))
  rw [HR.out] at HC
  go_wp2_with fail
  refine HC.out.mono ?_
  rintro e w6 ⟨ag, cg, rfl, g6, M6⟩
  have L6 := chain L5 M6
  have s6 := Seg.below s5 (by omega : gw < w5.heap.size) M6
  have ox6 := ox5.below (by omega) M6
  have vl6 := o5.view.next M6
  have ov6 := o5.over.below (Nat.le_refl _) M6
  have hz6 := M6.size
  clear HC M6 s5 ox5 o5 L5
  obtain ⟨Z, hZ⟩ : ∃ Z, Z = w5.heap.size := ⟨_, rfl⟩
  rw [← hZ] at g6 ov6 hz6 hll
  have hxZ : bx < Z := by omega
  have hgZ : gw < Z := by omega
  have hgx : gw < bx := by omega
  have hxb : bx < bl := by omega
  clear hZ hz34 hz45 hxl hgw hbx hbl
  have SV : Hid (∀ W, Seg W gw 0 R → gw < W.heap.size → View W (some ⟨gw, 0, none⟩) R) := fun W h1 h2 => Or.inr ⟨gw, 0, rfl, h2, h1⟩
  -- alike, and nothing turned
  go_wp2_with fail
  refine (eqS _ _ _ _ R R _ g6.slice (SV.out _ s6 (by omega)) (by omega)).mono ?_
  rintro e w7 ⟨rfl, n7, hw7⟩
  have L7 : Below w.heap.size w w7 := by rw [hw7]; exact below_drewN L6 n7
  have s7 : Seg w7 gw 0 R := by rw [hw7]; exact s6
  have ox7 : Own w7 bx xs0 := by rw [hw7]; exact ox6
  have vl7 : CView w7 (some ⟨bl, 0, none⟩) ls1 := by rw [hw7]; exact vl6.drewN n7
  have ov7 : COver w7 bl Z ls1 := by rw [hw7]; exact ov6.below hz6 (below_drewN (Below.refl _ _) n7)
  have g7 : IOut Z w7 (.slice ag R.length cg) R := by rw [hw7]; exact g6.below (below_drewN (Below.refl _ _) n7)
  have hz7 : Z ≤ w7.heap.size := by rw [hw7]; exact hz6
  clear hw7 L6 s6 ox6 vl6 ov6 g6 hz6
  go_wp2_with fail
  refine (toS ao0 cap0 xs0 _ (View.next HV0.out L7) h0n).mono ?_
  rintro e w8 ⟨b8, rfl, o8, hb8, M8⟩
  have L8 := chain L7 M8
  have s8 := Seg.below s7 (by omega : gw < w7.heap.size) M8
  have ox8 := ox7.below (by omega) M8
  have vl8 := vl7.next M8
  have ov8 := ov7.below hz7 M8
  have g8 := g7.below M8
  have hz8 := Nat.le_trans hz7 M8.size
  clear L7 s7 ox7 vl7 ov7 g7 hz7 M8 hb8
  go_wp2_with fail
  refine (eqS _ _ _ _ xs0 xs0 _ ox8.view o8.view h0n).mono ?_
  rintro e w9 ⟨rfl, n9, hw9⟩
  have L9 : Below w.heap.size w w9 := by rw [hw9]; exact below_drewN L8 n9
  have s9 : Seg w9 gw 0 R := by rw [hw9]; exact s8
  have ox9 : Own w9 bx xs0 := by rw [hw9]; exact ox8
  have vl9 : CView w9 (some ⟨bl, 0, none⟩) ls1 := by rw [hw9]; exact vl8.drewN n9
  have ov9 : COver w9 bl Z ls1 := by rw [hw9]; exact ov8.below hz8 (below_drewN (Below.refl _ _) n9)
  have g9 : IOut Z w9 (.slice ag R.length cg) R := by rw [hw9]; exact g8.below (below_drewN (Below.refl _ _) n9)
  have hz9 : Z ≤ w9.heap.size := by rw [hw9]; exact hz8
  clear hw9 L8 s8 ox8 vl8 ov8 g8 hz8 o8
  go_wp2_with fail
  refine (toCS ao1 cap1 ls1 _ (HV1.out.next L9) hcm).mono ?_
  rintro e wa ⟨ba, rfl, oa, hba, Ma⟩
  have La := chain L9 Ma
  have sa := Seg.below s9 (by omega : gw < w9.heap.size) Ma
  have oxa := ox9.below (by omega) Ma
  have vla := vl9.next Ma
  have ova := ov9.below hz9 Ma
  have ga := g9.below Ma
  have hza := Nat.le_trans hz9 Ma.size
  clear L9 s9 ox9 vl9 ov9 g9 hz9 Ma hba
  go_wp2_with fail
  refine (eqCS _ _ _ _ ls1 _ vla oa.view hcm).mono ?_
  rintro e wb ⟨rfl, nb, hwb⟩
  have Lb : Below w.heap.size w wb := by rw [hwb]; exact below_drewN La nb
  have sb : Seg wb gw 0 R := by rw [hwb]; exact sa
  have oxb : Own wb bx xs0 := by rw [hwb]; exact oxa
  have ovb : COver wb bl Z ls1 := by rw [hwb]; exact ova.below hza (below_drewN (Below.refl _ _) nb)
  have gb : IOut Z wb (.slice ag R.length cg) R := by rw [hwb]; exact ga.below (below_drewN (Below.refl _ _) nb)
  have hzb : Z ≤ wb.heap.size := by rw [hwb]; exact hza
  clear hwb La sa oxa vla ova ga hza oa
  -- the arguments written over: the answer stays
  go_wp2_with fail
  refine (markI bx bx xs0.length 1 xs0 _ (oxb.irow (Nat.le_refl _) (by unfold maxLen; omega)) h0n (by omega) (by omega)).mono ?_
  rintro e wc ⟨rfl, -, hgc⟩
  have hcb : ∀ i, i < wb.heap.size → i ≠ bx → wc.heap[i]? = wb.heap[i]? := fun i hi hne => hgc.block i hi (fun e => hne (by injection e))
  have Lc : Below w.heap.size w wc := Lb.grown hgc Lb.size (by intro q hq; cases hq; exact hwx)
  have sc : Seg wc gw 0 R := seg_same sb (hcb gw (by omega) (by omega))
  have ovc : COver wc bl Z ls1 := ovb.gin ((GIn.refl bx (bx + 1) wb).grown hgc (Nat.le_refl _) (by omega)) (by omega)
  have gc : IOut Z wc (.slice ag R.length cg) R := gb.same (fun i h1 h2 => hcb i h2 (by omega))
  have hzc : Z ≤ wc.heap.size := Nat.le_trans hzb hgc.size
  clear hcb hgc Lb sb oxb ovb gb hzb
  go_wp2_with fail
  refine (markCS bl Z ls1.length (1 + xs0.length) ls1 _ ovc hcm (by omega) (by omega)).mono ?_
  rintro e wd ⟨⟨kd, hkd, rfl⟩, hgd⟩
  have hkn : ¬ kd < 0 := by omega
  have Ld : Below w.heap.size w wd := ⟨hgd.1.trans Lc.os, hgd.2.1.trans Lc.tape, hgd.2.2.1.trans Lc.output, Nat.le_trans Lc.size hgd.2.2.2.1, fun i hi => (hgd.2.2.2.2 i (Nat.lt_of_lt_of_le hi Lc.size) (Or.inl (by omega))).trans (Lc.block i hi)⟩
  have sd : Seg wd gw 0 R := seg_same sc (hgd.2.2.2.2 gw (by omega) (Or.inl (by omega)))
  have gd : IOut Z wd (.slice ag R.length cg) R := gc.same (fun i h1 h2 => hgd.2.2.2.2 i h2 (Or.inr h1))
  have hzd : Z ≤ wd.heap.size := Nat.le_trans hzc hgd.2.2.2.1
  clear hgd Lc sc ovc gc hzc
  go_wp2_with fail
  refine (eqS _ _ _ _ R R _ gd.slice (SV.out _ sd (by omega)) (by omega)).mono ?_
  rintro e we ⟨rfl, ne, hwe⟩
  have Le : Below w.heap.size w we := by rw [hwe]; exact below_drewN Ld ne
  have se : Seg we gw 0 R := by rw [hwe]; exact sd
  have ge : IOut Z we (.slice ag R.length cg) R := by rw [hwe]; exact gd.below (below_drewN (Below.refl _ _) ne)
  have hze : Z ≤ we.heap.size := by rw [hwe]; exact hzd
  clear hwe Ld sd gd hzd
  -- the answer written over: it is the call's own
  go_wp2_with fail
  refine (markO Z cg ag 1 R _ ge (by omega) (by omega) (by omega)).mono ?_
  rintro e wf ⟨rfl, gf, hgf, hbf⟩
  rw [tabL_length] at gf
  have hfb : ∀ i, i < we.heap.size → i < Z → wf.heap[i]? = we.heap[i]? := fun i hi hz => hgf.2.2.2.2 i hi (fun a n c e h => by
    injection e with e1
    have := hbf a.block ⟨a, e1, rfl⟩
    omega)
  have Lf : Below w.heap.size w wf := ⟨hgf.1.trans Le.os, hgf.2.1.trans Le.tape, hgf.2.2.1.trans Le.output, Nat.le_trans Le.size hgf.2.2.2.1, fun i hi => (hfb i (Nat.lt_of_lt_of_le hi Le.size) (by omega)).trans (Le.block i hi)⟩
  have sf : Seg wf gw 0 R := seg_same se (hfb gw (by omega) hgZ)
  have vf : View wf ag (tabL (fun i => 1 + (i : Int)) R.length) := gf.slice
  have hzf : Z ≤ wf.heap.size := Nat.le_trans hze hgf.2.2.2.1
  have hq0 : ¬ ((1 : Int) + R.length < 0) := by omega
  have hq1 : (((1 : Int) + R.length) != (1 + R.length)) = false := by simp
  clear hfb hgf hbf Le se ge hze gf
  go_wp2_with fail
  refine (heldI ag cg R.length 1 _ vf (by omega) (by omega) (by omega)).mono ?_
  rintro e wg ⟨rfl, hwg⟩
  subst wg
  go_wp2_with fail
  refine (toS ao0 cap0 xs0 _ (View.next HV0.out Lf) h0n).mono ?_
  rintro e wg ⟨bg, rfl, og, hbg, Mg⟩
  have Lg := chain Lf Mg
  have sg := Seg.below sf (by omega : gw < wf.heap.size) Mg
  have vg := View.next vf Mg
  have hzg := Nat.le_trans hzf Mg.size
  clear Lf sf vf hzf Mg hbg
  go_wp2_with fail
  refine (toCS ao1 cap1 ls1 _ (HV1.out.next Lg) hcm).mono ?_
  rintro e wh ⟨bh, rfl, oh, hbh, Mh⟩
  have Lh := chain Lg Mh
  have sh := Seg.below sg (by omega : gw < wg.heap.size) Mh
  have vh := View.next vg Mh
  have ogh := og.below og.lt Mh
  have hzh := Nat.le_trans hzg Mh.size
  clear Lg sg vg hzg Mh hbh og
  have HC := hidP (HII.out (some ⟨bg, 0, none⟩) xs0.length xs0 (some ⟨bh, 0, none⟩) ls1.length ls1 wh ogh.view h0n (Nat.le_refl _) oh.view hcm (Nat.le_refl _))
  rw [HR.out] at HC
  clear ogh oh
  go_wp2_with fail
  refine HC.out.mono ?_
  rintro e wi ⟨ai, ci, rfl, gi, Mi⟩
  have Li := chain Lh Mi
  have si := Seg.below sh (by omega : gw < wh.heap.size) Mi
  have vi := View.next vh Mi
  have hzi := Nat.le_trans hzh Mi.size
  clear Lh sh vh hzh Mi HC
  go_wp2_with fail
  refine (eqS _ _ _ _ R R _ gi.slice (SV.out _ si (by omega)) (by omega)).mono ?_
  rintro e wj ⟨rfl, nj, hwj⟩
  have Lj : Below w.heap.size w wj := by rw [hwj]; exact below_drewN Li nj
  have vj : View wj ag (tabL (fun i => 1 + (i : Int)) R.length) := by rw [hwj]; exact View.drewN vi nj
  clear hwj Li si vi gi hzi
  go_wp2_with fail
  refine (heldI ag cg R.length 1 _ vj (by omega) (by omega) (by omega)).mono ?_
  rintro e wk ⟨rfl, hwk⟩
  subst wk
  go_wp2_with fail
  go_ret
  exact ⟨rfl, Lj⟩

set_option maxRecDepth 100000 in
set_option maxHeartbeats 4000000 in
theorem walkDecoded (HI : IDecoded) (ao0 : Option Addr) (cap0 : Nat) (xs0 : List Int) (ao1 : Option Addr) (cap1 : Nat) (ls1 : List (List Int)) (w : World) (hv0 : View w ao0 xs0) (hn0 : xs0.length ≤ maxLen) (hv1 : CView w ao1 ls1) (hn1 : ls1.length ≤ maxLen) (hat1 : ∀ i, (cn ls1 i).length ≤ maxLen) :
    Calls Try.prog 6 #[.slice ao0 xs0.length cap0, .slice ao1 ls1.length cap1] w fun e w' => e = .returned (.bool true) ∧ Below w.heap.size w w' := by
  have HII := hidP HI
  clear HI
  unfold maxLen at hn0
  by_cases hbig0 : 1048576 < xs0.length
  · go_enter Try.func6, Try.ntmps6
    go_wp2
    go_ret
    exact ⟨rfl, Below.refl _ _⟩
  have h0n : xs0.length ≤ 1048576 := by omega
  clear hbig0
  go_enter Try.func6, Try.ntmps6
  go_wp2_with fail
  refine (szCS ao1 cap1 ls1 1048576 _ hv1 (by omega) (by omega) hn1 hat1).mono ?_
  rintro e w1 ⟨r, rfl, hr, hw1⟩
  subst w1
  by_cases hneg : r < 0
  · go_wp2_with fail
    go_ret
    exact ⟨rfl, Below.refl _ _⟩
  have hcm : CSmall ls1 := by rcases hr with h | h; exact absurd h hneg; exact h
  clear hr
  have HV0 := hidP hv0
  have HV1 := hidP hv1
  clear hv0 hv1
  obtain ⟨R, hR⟩ : ∃ R, decL xs0 ls1 = R := ⟨_, rfl⟩
  have nR : R.length ≤ 4 := by rw [← hR]; exact decL_four xs0 ls1
  have HR := hidP hR
  clear hR
  have hRR : decide (R = R) = true := by simp
  have hXX : decide (xs0 = xs0) = true := by simp
  go_wp2_with fail
  refine (toS ao0 cap0 xs0 _ HV0.out h0n).mono ?_
  rintro e w1 ⟨b1, rfl, o1, hb1, M1⟩
  go_wp2_with fail
  refine (toCS ao1 cap1 ls1 _ (HV1.out.next M1) hcm).mono ?_
  rintro e w2 ⟨b2, rfl, o2, hb2, M2⟩
  have L2 := chain M1 M2
  have HC := hidP (sDecoded (some ⟨b1, 0, none⟩) (some ⟨b2, 0, none⟩) xs0.length ls1.length xs0 ls1 w2 (View.next o1.view M2) o2.view hcm)
  rw [HR.out] at HC
  clear o1 o2 hb1 hb2 M1 M2
  go_wp2_with fail
  refine HC.out.mono ?_
  rintro e w3 ⟨gw, cw, rfl, row3, M3⟩
  have L3 := chain L2 M3
  have s3 := row3.seg
  have hgw := row3.lt.2
  clear L2 M3 HC row3
  go_wp2_with fail
  refine (toS ao0 cap0 xs0 _ (View.next HV0.out L3) h0n).mono ?_
  rintro e w4 ⟨bx, rfl, o4, hbx, M4⟩
  have L4 := chain L3 M4
  have s4 := Seg.below s3 hgw M4
  go_wp2_with fail
  refine (toCS ao1 cap1 ls1 _ (HV1.out.next L4) hcm).mono ?_
  rintro e w5 ⟨bl, rfl, o5, hbl, M5⟩
  have L5 := chain L4 M5
  have hz34 := M4.size
  have hz45 := M5.size
  have hxl := o4.lt
  have s5 := Seg.below s4 (by omega : gw < w4.heap.size) M5
  have ox5 := o4.below hxl M5
  have hwx : w.heap.size ≤ bx := Nat.le_trans L3.size hbx
  have hll := o5.1
  clear s3 s4 M4 M5 L3 L4 o4
  have HC := hidP (HII.out (some ⟨bx, 0, none⟩) xs0.length xs0 (some ⟨bl, 0, none⟩) ls1.length ls1 w5 ox5.view h0n (Nat.le_refl _) o5.view hcm (Nat.le_refl _))
  rw [HR.out] at HC
  go_wp2_with fail
  refine HC.out.mono ?_
  rintro e w6 ⟨ag, cg, rfl, g6, M6⟩
  have L6 := chain L5 M6
  have s6 := Seg.below s5 (by omega : gw < w5.heap.size) M6
  have ox6 := ox5.below (by omega) M6
  have vl6 := o5.view.next M6
  have ov6 := o5.over.below (Nat.le_refl _) M6
  have hz6 := M6.size
  clear HC M6 s5 ox5 o5 L5
  obtain ⟨Z, hZ⟩ : ∃ Z, Z = w5.heap.size := ⟨_, rfl⟩
  rw [← hZ] at g6 ov6 hz6 hll
  have hxZ : bx < Z := by omega
  have hgZ : gw < Z := by omega
  have hgx : gw < bx := by omega
  have hxb : bx < bl := by omega
  clear hZ hz34 hz45 hxl hgw hbx hbl
  have SV : Hid (∀ W, Seg W gw 0 R → gw < W.heap.size → View W (some ⟨gw, 0, none⟩) R) := fun W h1 h2 => Or.inr ⟨gw, 0, rfl, h2, h1⟩
  -- alike, and nothing turned
  go_wp2_with fail
  refine (eqS _ _ _ _ R R _ g6.slice (SV.out _ s6 (by omega)) (by omega)).mono ?_
  rintro e w7 ⟨rfl, n7, hw7⟩
  have L7 : Below w.heap.size w w7 := by rw [hw7]; exact below_drewN L6 n7
  have s7 : Seg w7 gw 0 R := by rw [hw7]; exact s6
  have ox7 : Own w7 bx xs0 := by rw [hw7]; exact ox6
  have vl7 : CView w7 (some ⟨bl, 0, none⟩) ls1 := by rw [hw7]; exact vl6.drewN n7
  have ov7 : COver w7 bl Z ls1 := by rw [hw7]; exact ov6.below hz6 (below_drewN (Below.refl _ _) n7)
  have g7 : IOut Z w7 (.slice ag R.length cg) R := by rw [hw7]; exact g6.below (below_drewN (Below.refl _ _) n7)
  have hz7 : Z ≤ w7.heap.size := by rw [hw7]; exact hz6
  clear hw7 L6 s6 ox6 vl6 ov6 g6 hz6
  go_wp2_with fail
  refine (toS ao0 cap0 xs0 _ (View.next HV0.out L7) h0n).mono ?_
  rintro e w8 ⟨b8, rfl, o8, hb8, M8⟩
  have L8 := chain L7 M8
  have s8 := Seg.below s7 (by omega : gw < w7.heap.size) M8
  have ox8 := ox7.below (by omega) M8
  have vl8 := vl7.next M8
  have ov8 := ov7.below hz7 M8
  have g8 := g7.below M8
  have hz8 := Nat.le_trans hz7 M8.size
  clear L7 s7 ox7 vl7 ov7 g7 hz7 M8 hb8
  go_wp2_with fail
  refine (eqS _ _ _ _ xs0 xs0 _ ox8.view o8.view h0n).mono ?_
  rintro e w9 ⟨rfl, n9, hw9⟩
  have L9 : Below w.heap.size w w9 := by rw [hw9]; exact below_drewN L8 n9
  have s9 : Seg w9 gw 0 R := by rw [hw9]; exact s8
  have ox9 : Own w9 bx xs0 := by rw [hw9]; exact ox8
  have vl9 : CView w9 (some ⟨bl, 0, none⟩) ls1 := by rw [hw9]; exact vl8.drewN n9
  have ov9 : COver w9 bl Z ls1 := by rw [hw9]; exact ov8.below hz8 (below_drewN (Below.refl _ _) n9)
  have g9 : IOut Z w9 (.slice ag R.length cg) R := by rw [hw9]; exact g8.below (below_drewN (Below.refl _ _) n9)
  have hz9 : Z ≤ w9.heap.size := by rw [hw9]; exact hz8
  clear hw9 L8 s8 ox8 vl8 ov8 g8 hz8 o8
  go_wp2_with fail
  refine (toCS ao1 cap1 ls1 _ (HV1.out.next L9) hcm).mono ?_
  rintro e wa ⟨ba, rfl, oa, hba, Ma⟩
  have La := chain L9 Ma
  have sa := Seg.below s9 (by omega : gw < w9.heap.size) Ma
  have oxa := ox9.below (by omega) Ma
  have vla := vl9.next Ma
  have ova := ov9.below hz9 Ma
  have ga := g9.below Ma
  have hza := Nat.le_trans hz9 Ma.size
  clear L9 s9 ox9 vl9 ov9 g9 hz9 Ma hba
  go_wp2_with fail
  refine (eqCS _ _ _ _ ls1 _ vla oa.view hcm).mono ?_
  rintro e wb ⟨rfl, nb, hwb⟩
  have Lb : Below w.heap.size w wb := by rw [hwb]; exact below_drewN La nb
  have sb : Seg wb gw 0 R := by rw [hwb]; exact sa
  have oxb : Own wb bx xs0 := by rw [hwb]; exact oxa
  have ovb : COver wb bl Z ls1 := by rw [hwb]; exact ova.below hza (below_drewN (Below.refl _ _) nb)
  have gb : IOut Z wb (.slice ag R.length cg) R := by rw [hwb]; exact ga.below (below_drewN (Below.refl _ _) nb)
  have hzb : Z ≤ wb.heap.size := by rw [hwb]; exact hza
  clear hwb La sa oxa vla ova ga hza oa
  -- the arguments written over: the answer stays
  go_wp2_with fail
  refine (markI bx bx xs0.length 1 xs0 _ (oxb.irow (Nat.le_refl _) (by unfold maxLen; omega)) h0n (by omega) (by omega)).mono ?_
  rintro e wc ⟨rfl, -, hgc⟩
  have hcb : ∀ i, i < wb.heap.size → i ≠ bx → wc.heap[i]? = wb.heap[i]? := fun i hi hne => hgc.block i hi (fun e => hne (by injection e))
  have Lc : Below w.heap.size w wc := Lb.grown hgc Lb.size (by intro q hq; cases hq; exact hwx)
  have sc : Seg wc gw 0 R := seg_same sb (hcb gw (by omega) (by omega))
  have ovc : COver wc bl Z ls1 := ovb.gin ((GIn.refl bx (bx + 1) wb).grown hgc (Nat.le_refl _) (by omega)) (by omega)
  have gc : IOut Z wc (.slice ag R.length cg) R := gb.same (fun i h1 h2 => hcb i h2 (by omega))
  have hzc : Z ≤ wc.heap.size := Nat.le_trans hzb hgc.size
  clear hcb hgc Lb sb oxb ovb gb hzb
  go_wp2_with fail
  refine (markCS bl Z ls1.length (1 + xs0.length) ls1 _ ovc hcm (by omega) (by omega)).mono ?_
  rintro e wd ⟨⟨kd, hkd, rfl⟩, hgd⟩
  have hkn : ¬ kd < 0 := by omega
  have Ld : Below w.heap.size w wd := ⟨hgd.1.trans Lc.os, hgd.2.1.trans Lc.tape, hgd.2.2.1.trans Lc.output, Nat.le_trans Lc.size hgd.2.2.2.1, fun i hi => (hgd.2.2.2.2 i (Nat.lt_of_lt_of_le hi Lc.size) (Or.inl (by omega))).trans (Lc.block i hi)⟩
  have sd : Seg wd gw 0 R := seg_same sc (hgd.2.2.2.2 gw (by omega) (Or.inl (by omega)))
  have gd : IOut Z wd (.slice ag R.length cg) R := gc.same (fun i h1 h2 => hgd.2.2.2.2 i h2 (Or.inr h1))
  have hzd : Z ≤ wd.heap.size := Nat.le_trans hzc hgd.2.2.2.1
  clear hgd Lc sc ovc gc hzc
  go_wp2_with fail
  refine (eqS _ _ _ _ R R _ gd.slice (SV.out _ sd (by omega)) (by omega)).mono ?_
  rintro e we ⟨rfl, ne, hwe⟩
  have Le : Below w.heap.size w we := by rw [hwe]; exact below_drewN Ld ne
  have se : Seg we gw 0 R := by rw [hwe]; exact sd
  have ge : IOut Z we (.slice ag R.length cg) R := by rw [hwe]; exact gd.below (below_drewN (Below.refl _ _) ne)
  have hze : Z ≤ we.heap.size := by rw [hwe]; exact hzd
  clear hwe Ld sd gd hzd
  -- the answer written over: it is the call's own
  go_wp2_with fail
  refine (markO Z cg ag 1 R _ ge (by omega) (by omega) (by omega)).mono ?_
  rintro e wf ⟨rfl, gf, hgf, hbf⟩
  rw [tabL_length] at gf
  have hfb : ∀ i, i < we.heap.size → i < Z → wf.heap[i]? = we.heap[i]? := fun i hi hz => hgf.2.2.2.2 i hi (fun a n c e h => by
    injection e with e1
    have := hbf a.block ⟨a, e1, rfl⟩
    omega)
  have Lf : Below w.heap.size w wf := ⟨hgf.1.trans Le.os, hgf.2.1.trans Le.tape, hgf.2.2.1.trans Le.output, Nat.le_trans Le.size hgf.2.2.2.1, fun i hi => (hfb i (Nat.lt_of_lt_of_le hi Le.size) (by omega)).trans (Le.block i hi)⟩
  have sf : Seg wf gw 0 R := seg_same se (hfb gw (by omega) hgZ)
  have vf : View wf ag (tabL (fun i => 1 + (i : Int)) R.length) := gf.slice
  have hzf : Z ≤ wf.heap.size := Nat.le_trans hze hgf.2.2.2.1
  have hq0 : ¬ ((1 : Int) + R.length < 0) := by omega
  have hq1 : (((1 : Int) + R.length) != (1 + R.length)) = false := by simp
  clear hfb hgf hbf Le se ge hze gf
  go_wp2_with fail
  refine (heldI ag cg R.length 1 _ vf (by omega) (by omega) (by omega)).mono ?_
  rintro e wg ⟨rfl, hwg⟩
  subst wg
  go_wp2_with fail
  refine (toS ao0 cap0 xs0 _ (View.next HV0.out Lf) h0n).mono ?_
  rintro e wg ⟨bg, rfl, og, hbg, Mg⟩
  have Lg := chain Lf Mg
  have sg := Seg.below sf (by omega : gw < wf.heap.size) Mg
  have vg := View.next vf Mg
  have hzg := Nat.le_trans hzf Mg.size
  clear Lf sf vf hzf Mg hbg
  go_wp2_with fail
  refine (toCS ao1 cap1 ls1 _ (HV1.out.next Lg) hcm).mono ?_
  rintro e wh ⟨bh, rfl, oh, hbh, Mh⟩
  have Lh := chain Lg Mh
  have sh := Seg.below sg (by omega : gw < wg.heap.size) Mh
  have vh := View.next vg Mh
  have ogh := og.below og.lt Mh
  have hzh := Nat.le_trans hzg Mh.size
  clear Lg sg vg hzg Mh hbh og
  have HC := hidP (HII.out (some ⟨bg, 0, none⟩) xs0.length xs0 (some ⟨bh, 0, none⟩) ls1.length ls1 wh ogh.view h0n (Nat.le_refl _) oh.view hcm (Nat.le_refl _))
  rw [HR.out] at HC
  clear ogh oh
  go_wp2_with fail
  refine HC.out.mono ?_
  rintro e wi ⟨ai, ci, rfl, gi, Mi⟩
  have Li := chain Lh Mi
  have si := Seg.below sh (by omega : gw < wh.heap.size) Mi
  have vi := View.next vh Mi
  have hzi := Nat.le_trans hzh Mi.size
  clear Lh sh vh hzh Mi HC
  go_wp2_with fail
  refine (eqS _ _ _ _ R R _ gi.slice (SV.out _ si (by omega)) (by omega)).mono ?_
  rintro e wj ⟨rfl, nj, hwj⟩
  have Lj : Below w.heap.size w wj := by rw [hwj]; exact below_drewN Li nj
  have vj : View wj ag (tabL (fun i => 1 + (i : Int)) R.length) := by rw [hwj]; exact View.drewN vi nj
  clear hwj Li si vi gi hzi
  go_wp2_with fail
  refine (heldI ag cg R.length 1 _ vj (by omega) (by omega) (by omega)).mono ?_
  rintro e wk ⟨rfl, hwk⟩
  subst wk
  go_wp2_with fail
  go_ret
  exact ⟨rfl, Lj⟩

end Go.Proofs.Ythkaiienfkihmaa
