/-
  The walk of FnExactFelt.
-/
import Derived.Test.YtfbhohpbhjlihaaGreatTwAskIZz
import Derived.Test.YtfbhohpbhjlihaaGreatStMarkZz
import Derived.Test.YtfbhohpbhjlihaaGreatStMemZz
import Derived.Test.YtfbhohpbhjlihaaGreatFeWkZz
namespace Go.Proofs.YtfbhohpbhjlihaaGreat
open Go Go.RowKit

structure WkFelt (W : World) (gw bm bh bt bx bq Z : Nat) (lo : Nat → Nat) (wd : Int) (ms : List Mk) (d : Int) (ts : List Wb) (nx : Int) (q : List Int) (R : List Ht) (ag : Option Addr) (cg : Nat) (w : World) : Prop where
  low : Below W.heap.size W w
  row : HSeg w gw 0 R
  web : StOwn w bm bh bt ms ts lo
  box : StIn true w bx (some ⟨bm, 0, none⟩) (some ⟨bt, 0, none⟩) ms.length ts.length wd ms d ts nx
  own : Own w bq q
  out : HOut Z w (.slice ag R.length cg) R
  hz : Z ≤ w.heap.size
  gl : gw < w.heap.size
theorem WkFelt.next {W w w' : World} {gw bm bh bt bx bq Z : Nat} {lo : Nat → Nat} {wd : Int} {ms : List Mk} {d : Int} {ts : List Wb} {nx : Int} {q : List Int} {R : List Ht} {ag : Option Addr} {cg : Nat} (h : WkFelt W gw bm bh bt bx bq Z lo wd ms d ts nx q R ag cg w) (L : Below w.heap.size w w') : WkFelt W gw bm bh bt bx bq Z lo wd ms d ts nx q R ag cg w' :=
  ⟨chain h.low L, HSeg.below h.row h.gl L, h.web.next L, h.box.below L, h.own.below h.own.lt L, h.out.below L, Nat.le_trans h.hz L.size, Nat.lt_of_lt_of_le h.gl L.size⟩

set_option maxRecDepth 100000 in
set_option maxHeartbeats 8000000 in
theorem walkFelt (am aw aq : Option Addr) (cm cw cq : Nat) (wd : Int) (ms : List Mk) (d : Int) (ts : List Wb) (nx : Int) (q : List Int) (k : Int) (w : World) (hm : MView w am ms) (hw : WbView false w aw ts) (hf : StFit ms ts) (hvq : View w aq q) (hnq : q.length ≤ maxLen) :
    Calls Tryz.prog 10 #[.agg #[.int .i64 wd, .slice am ms.length cm, .int .i64 d, .slice aw ts.length cw, .int .i64 nx], .slice aq q.length cq, .int .i64 k] w fun e w' => e = .returned (.bool true) ∧ Below w.heap.size w w' := by
  unfold maxLen at hnq
  obtain ⟨W, hW⟩ : ∃ W, w.alloc (.cells #[.int .i64 wd, .slice am ms.length cm, .int .i64 d, .slice aw ts.length cw, .int .i64 nx] 92) = W := ⟨_, rfl⟩
  have hB : Below w.heap.size w W := by rw [← hW]; exact (Below.refl _ _).alloc (Nat.le_refl _) _
  have hI : StIn false W w.heap.size am aw cm cw wd ms d ts nx := by rw [← hW]; exact StIn.box hm hw
  have HB := hidP hB
  by_cases hbig : 1048576 < q.length
  · go_enter Tryz.func10, Tryz.ntmps10
    go_wp2_with fail
    go_ret
    exact ⟨rfl, HB.out⟩
  have hql : q.length ≤ 1048576 := by omega
  have HS := hidP (szSt false am aw cm cw wd ms d ts nx W hI.mv hI.wv hf)
  have HW := hidP hI
  have HQ := hidP (View.next hvq hB)
  have k0 := hI.c0
  have k1 := hI.c1
  have k2 := hI.c2
  have k3 := hI.c3
  have k4 := hI.c4
  clear hm hw hvq hB hI hf
  go_enter Tryz.func10, Tryz.ntmps10
  go_wp2_with fail
  refine HS.out.mono ?_
  rintro e w1 ⟨r, rfl, -, hr, L1⟩
  by_cases hneg : r < 0
  · go_wp2_with fail
    go_ret
    exact ⟨rfl, chain HB.out L1⟩
  have hsm : StSmall ms ts := by rcases hr with h | h; exact absurd h hneg; exact h
  have HM := hidP hsm
  have TW := hidP (fun W' (L : Below W.heap.size W W') => toSt false am aw cm cw wd ms d ts nx W' (HW.out.below L).mv (HW.out.below L).wv hsm)
  have TQ := hidP (fun W' (L : Below W.heap.size W W') => toS aq cq q W' (View.next HQ.out L) hql)
  have K01 := hidP (fun W' (L : Below W.heap.size W W') => And.intro (HW.out.below L).c0 (And.intro (HW.out.below L).c1 (And.intro (HW.out.below L).c2 (And.intro (HW.out.below L).c3 (HW.out.below L).c4))))
  obtain ⟨R, hR⟩ : ∃ R, feltL wd ms d ts nx q k = R := ⟨_, rfl⟩
  have nR : R.length ≤ 61 := by rw [← hR]; exact feltL_len
  have HR := hidP hR
  have hRR : decide (R = R) = true := by simp
  have HL1 := hidP L1
  obtain ⟨p0, p1, p2, p3, p4⟩ := K01.out w1 L1
  have HC1 := hidP (TW.out w1 L1)
  clear hr L1 HS k0 k1 k2 k3 k4 hW hR hsm
  go_wp2_with fail
  refine HC1.out.mono ?_
  rintro e w2 ⟨m2, i2, b2, lo2, rfl, o2, -, L2⟩
  have HL2 := hidP (chain HL1.out L2)
  have HC2 := hidP (TQ.out w2 HL2.out)
  have HO2 := hidP o2
  clear o2 L2
  go_wp2_with fail
  refine HC2.out.mono ?_
  rintro e w3 ⟨b3, rfl, o3, hb3, L3⟩
  have HL3 := hidP (chain HL2.out L3)
  have HC3 := hidP (sFelt true _ _ ms.length ts.length wd ms d ts nx _ q.length q k w3 (HO2.out.next L3).mview (HO2.out.next L3).wview HM.out o3.view hql)
  rw [HR.out] at HC3
  clear o3 L3 hb3
  go_wp2_with fail
  refine HC3.out.mono ?_
  rintro e w4 ⟨gw, cgw, rfl, row4, L4⟩
  have HL4 := hidP (chain HL3.out L4)
  have HR4 := hidP row4.seg
  have hg4 : gw < w4.heap.size := row4.lt.2
  obtain ⟨q0, q1, q2, q3, q4⟩ := K01.out w4 HL4.out
  have HC4 := hidP (TW.out w4 HL4.out)
  clear row4 L4 HO2
  go_wp2_with fail
  refine HC4.out.mono ?_
  rintro e w5 ⟨bm, bh, bt, lo, rfl, o5, hlo, L5⟩
  have hbt5 := o5.webs.lt
  have hfi := o5.webs.first
  have hla := o5.webs.last
  have hll := o5.webs.le_last 0 (Nat.zero_le _)
  have hof := o5.first
  have hol := o5.last
  obtain ⟨bx, hbx⟩ : ∃ b, w5.heap.size = b := ⟨_, rfl⟩
  obtain ⟨w6, hw6⟩ : ∃ w6, w5.alloc (.cells #[.int .i64 wd, .slice (some ⟨bm, 0, none⟩) ms.length ms.length, .int .i64 d, .slice (some ⟨bt, 0, none⟩) ts.length ts.length, .int .i64 nx] 64) = w6 := ⟨_, rfl⟩
  have L6 : Below w5.heap.size w5 w6 := by rw [← hw6]; exact (Below.refl _ _).alloc (Nat.le_refl _) _
  have hI6 : StIn true w6 bx (some ⟨bm, 0, none⟩) (some ⟨bt, 0, none⟩) ms.length ts.length wd ms d ts nx := by rw [← hw6, ← hbx]; exact StIn.box o5.mview o5.wview
  have hs6 : w6.heap.size = bx + 1 := by rw [← hw6, ← hbx]; simp
  have HO6 := hidP (o5.next L6)
  have HI6 := hidP hI6
  have HL6 := hidP (chain (chain HL4.out L5) L6)
  have HR6 := hidP (HSeg.below HR4.out hg4 (chain L5 L6))
  have hz5 := L5.size
  have HC6 := hidP (TQ.out w6 HL6.out)
  clear o5 L5 L6 hI6
  go_wp2_with fail
  clear hw6
  refine HC6.out.mono ?_
  rintro e w7 ⟨bq, rfl, o7, hbq, L7⟩
  have hI7 := HI6.out.below L7
  have s0 := hI7.c0
  have s1 := hI7.c1
  have s2 := hI7.c2
  have s3 := hI7.c3
  have s4 := hI7.c4
  have HI7 := hidP hI7
  have HO7 := hidP (HO6.out.next L7)
  have HL7 := hidP (chain HL6.out L7)
  have HR7 := hidP (HSeg.below HR6.out (by omega) L7)
  have HQ7 := hidP o7
  have hql7 := o7.lt
  have HC7 := hidP (iFelt _ _ ms.length ts.length wd ms d ts nx _ q.length q k w7 hI7.mv hI7.wv HM.out o7.view hql (Nat.le_refl _))
  rw [HR.out] at HC7
  clear L7 o7 hI7
  go_wp2_with fail
  refine HC7.out.mono ?_
  rintro e w8 ⟨ag, cg, rfl, g8, L8⟩
  have hz8 := L8.size
  obtain ⟨Z, hZ⟩ : ∃ Z, w7.heap.size = Z := ⟨_, rfl⟩
  have ST8 : Hid (WkFelt W gw bm bh bt bx bq Z lo wd ms d ts nx q R ag cg w8) := ⟨chain HL7.out L8, HSeg.below HR7.out (by omega) L8, HO7.out.next L8, HI7.out.below L8, HQ7.out.below hql7 L8, by rw [← hZ]; exact g8, by omega, by omega⟩
  have hzz : gw < bm ∧ bm < bt ∧ bt < lo 0 ∧ lo ts.length ≤ bx ∧ bx ≤ bq ∧ bq < Z ∧ lo 0 ≤ lo ts.length := ⟨by omega, by omega, by omega, by omega, by omega, by omega, by omega⟩
  have hWb : W.heap.size ≤ bm := by have := HL4.out.size; omega
  clear L8 g8 hZ hz8 HI7 HO7 HR7 HQ7 HL7 HC7 HC6 HI6 HO6 HR6 HL6 HL4 HR4 HC4 HC3 HC2 HC1 HL1 HL2 HL3 hz5 hs6 hg4 hlo hbt5 hfi hla hll hbq hql7 hof hol
  have HRV : Hid (∀ W', HSeg W' gw 0 R → gw < W'.heap.size → HView W' (some ⟨gw, 0, none⟩) R) := fun W' h1 h2 => Or.inr ⟨gw, 0, rfl, h2, h1⟩
  have HE8 := hidP (eqH14 _ _ cg cgw R w8 ST8.out.out.slice (HRV.out _ ST8.out.row ST8.out.gl) (by omega))
  go_wp2_with fail
  refine HE8.out.mono ?_
  rintro e w9 ⟨rfl, L9⟩
  have ST9 := hidP (ST8.out.next L9)
  have HS9 : Hid (∀ W', Below w9.heap.size w9 W' → (W'.cell? ⟨bx, 0, none⟩ = some (.int .i64 wd) ∧ W'.cell? ⟨bx, 1, none⟩ = some (.slice (some ⟨bm, 0, none⟩) ms.length ms.length) ∧ W'.cell? ⟨bx, 2, none⟩ = some (.int .i64 d) ∧ W'.cell? ⟨bx, 3, none⟩ = some (.slice (some ⟨bt, 0, none⟩) ts.length ts.length) ∧ W'.cell? ⟨bx, 4, none⟩ = some (.int .i64 nx)) ∧ W'.cell? ⟨w.heap.size, 0, none⟩ = some (.int .i64 wd) ∧ W'.cell? ⟨w.heap.size, 1, none⟩ = some (.slice am ms.length cm) ∧ W'.cell? ⟨w.heap.size, 2, none⟩ = some (.int .i64 d) ∧ W'.cell? ⟨w.heap.size, 3, none⟩ = some (.slice aw ts.length cw) ∧ W'.cell? ⟨w.heap.size, 4, none⟩ = some (.int .i64 nx)) := fun W' L' => ⟨⟨(ST9.out.box.below L').c0, (ST9.out.box.below L').c1, (ST9.out.box.below L').c2, (ST9.out.box.below L').c3, (ST9.out.box.below L').c4⟩, K01.out W' (chain ST9.out.low L')⟩
  have BL := hidP ((Below.refl w9.heap.size w9).drew)
  have HC9 := hidP (TW.out w9.drew (chain ST9.out.low BL.out))
  clear L9 HE8 ST8 s0 s1 s2 s3 s4
  go_wp2_with fail
  refine wp_region_takes (S := fun W' => Below w9.heap.size w9 W') (fuel := 3) [0, 1] (by kernel_rfl) (by kernel_rfl) (by kernel_rfl) (by kernel_rfl) BL.out (fun _ => ?_)
  iterate 2
    refine ⟨_, rfl, ?_⟩
    apply Exists.intro
    refine ⟨Or.inl ⟨by rfl, fun w' hw' => ?_⟩, ?_⟩
    · obtain ⟨⟨e1, e2, e3, e4, e5⟩, f1, f2, f3, f4, f5⟩ := HS9.out w' hw'
      first
      | (go_simp; done)
      | (go_simp; with_reducible rfl)
    simp only [Act.put, List.getElem_toArray, List.getElem_cons_succ, List.getElem_cons_zero, List.setIfInBounds_toArray, List.set_cons_zero, List.set_cons_succ]
  refine calm_one 2 (by kernel_rfl) rfl (fun K hK => ?_)
  go_simp
  refine HC9.out.mono ?_
  rintro e wa ⟨ma, ia, ba, loa, rfl, oa, -, La⟩
  have HLa := hidP (chain BL.out La)
  have HCa := hidP (eqSt true true _ _ ms.length ts.length wd ms d ts nx _ _ ms.length ts.length wa (ST9.out.box.below HLa.out).mv (ST9.out.box.below HLa.out).wv oa.mview oa.wview HM.out)
  clear oa La
  refine hK.out _ _ HLa.out (fun _ => ?_)
  clear hK K
  refine calm_one 3 (by kernel_rfl) rfl (fun K hK => ?_)
  go_simp
  refine HCa.out.mono ?_
  rintro e wb ⟨rfl, Lb⟩
  have HLb := hidP (chain HLa.out Lb)
  clear Lb
  refine hK.out _ _ HLb.out (fun _ => ?_)
  clear hK K
  refine calm_rest [4] rfl (by kernel_rfl) (by kernel_rfl) (by kernel_rfl) HLb.out ?_
  iterate 1
    refine ⟨_, rfl, ?_⟩
    apply Exists.intro
    refine ⟨Or.inl ⟨by rfl, fun w' hw' => ?_⟩, ?_⟩
    · skip
      first
      | (go_simp; done)
      | (go_simp; with_reducible rfl)
    simp only [Act.put, List.getElem_toArray, List.getElem_cons_succ, List.getElem_cons_zero, List.setIfInBounds_toArray, List.set_cons_zero, List.set_cons_succ]
  refine NoPanic.normal (NoPanic.normal ?_)
  have STb := hidP (ST9.out.next HLb.out)
  have HCb := hidP (TQ.out wb STb.out.low)
  clear HS9 BL HC9 HLa HCa HLb ST9
  go_wp2_with fail
  refine HCb.out.mono ?_
  rintro e wc ⟨bc, rfl, oc, hbc, Lc⟩
  have STc := hidP (STb.out.next Lc)
  have HCc := hidP (eqI14 _ _ q.length q.length q wc STc.out.own.view oc.view hql)
  clear oc Lc STb HCb hbc
  go_wp2_with fail
  refine HCc.out.mono ?_
  rintro e wdd ⟨rfl, Ld⟩
  have STd := hidP (STc.out.next Ld)
  have s0 := STd.out.box.c0
  have s1 := STd.out.box.c1
  have s2 := STd.out.box.c2
  have s3 := STd.out.box.c3
  have s4 := STd.out.box.c4
  have HCd := hidP (markSt bm bh bt wd ms d ts nx lo wdd STd.out.web HM.out)
  clear Ld STc HCc
  -- the arguments written over: the answer stays
  go_wp2_with fail
  refine HCd.out.mono ?_
  rintro e we ⟨⟨ke, hke, hke2, rfl⟩, ge⟩
  have hze := ge.2.2.2.1
  have HGe : Hid (Below W.heap.size W we ∧ HSeg we gw 0 R ∧ Own we bq q ∧ HOut Z we (.slice ag R.length cg) R ∧ Z ≤ we.heap.size ∧ gw < we.heap.size) :=
    ⟨below_gin14 STd.out.low ge hWb, hseg_same14 STd.out.row (ge.2.2.2.2 gw STd.out.gl (Or.inl (by omega))), ge.own STd.out.own (Or.inr (by omega)), ge.out STd.out.out (by omega), by have := STd.out.hz; omega, by have := STd.out.gl; omega⟩
  clear ge STd HCd s0 s1 s2 s3 s4
  have HCe := hidP (markI14 bq ke q we HGe.out.2.2.1 hql hke (by omega))
  go_wp2_with fail
  refine HCe.out.mono ?_
  rintro e wf ⟨⟨kf, hkf, rfl⟩, gf⟩
  have hkn : ¬ kf < 0 := by omega
  have hkd : decide (kf < 0) = false := by simp; omega
  have hzf := gf.size
  have HGf : Hid (Below W.heap.size W wf ∧ HSeg wf gw 0 R ∧ HOut Z wf (.slice ag R.length cg) R ∧ Z ≤ wf.heap.size ∧ gw < wf.heap.size) :=
    ⟨HGe.out.1.grown gf HGe.out.1.size (by intro x hx; cases hx; omega), hseg_same14 HGe.out.2.1 (gf.block gw HGe.out.2.2.2.2.2 (by simp; omega)), HGe.out.2.2.2.1.kept gf (by omega), by have := HGe.out.2.2.2.2.1; omega, by have := HGe.out.2.2.2.2.2; omega⟩
  have HCf := hidP (eqH14 _ _ cg cgw R wf HGf.out.2.2.1.slice (HRV.out _ HGf.out.2.1 HGf.out.2.2.2.2) (by omega))
  clear gf HGe HCe
  go_wp2_with fail
  refine HCf.out.mono ?_
  rintro e wg ⟨rfl, Lg⟩
  have HGg : Hid (Below W.heap.size W wg ∧ HSeg wg gw 0 R ∧ HOut Z wg (.slice ag R.length cg) R ∧ Z ≤ wg.heap.size ∧ gw < wg.heap.size) := ⟨chain HGf.out.1 Lg, HSeg.below HGf.out.2.1 HGf.out.2.2.2.2 Lg, HGf.out.2.2.1.below Lg, Nat.le_trans HGf.out.2.2.2.1 Lg.size, Nat.lt_of_lt_of_le HGf.out.2.2.2.2 Lg.size⟩
  have HCg := hidP (outMarkH Z cg ag R wg HGg.out.2.2.1 (by omega) HGg.out.2.2.2.1)
  clear Lg HGf HCf
  -- the answer written over: it is the call's own
  go_wp2_with fail
  refine HCg.out.mono ?_
  rintro e wh ⟨rfl, vh, Lh⟩
  have hzh := Lh.size
  have HGh : Hid (Below W.heap.size W wh ∧ HSeg wh gw 0 R ∧ HView wh ag (seqH 1 R.length) ∧ gw < wh.heap.size) := ⟨HGg.out.1.trans (Lh.mono (by omega)), HSeg.below HGg.out.2.1 (by omega) Lh, vh, by have := HGg.out.2.2.2.2; omega⟩
  have hq0 : ¬ ((1 + 2 * (R.length : Int)) < 0) := by omega
  have hq1 : ((1 + 2 * (R.length : Int)) != (1 + 2 * (R.length : Int))) = false := by simp
  obtain ⟨V, hV⟩ : ∃ V : Int, 1 + 2 * (R.length : Int) = V := ⟨_, rfl⟩
  have HCh := hidP (heldHS ag cg R.length 1 wh HGh.out.2.2.1 (by omega) (by omega) (by omega))
  rw [hV] at HCh hq0 hq1
  rw [hV]
  obtain ⟨t0, t1, t2, t3, t4⟩ := K01.out wh HGh.out.1
  have HTh := hidP (TW.out wh HGh.out.1)
  clear vh Lh HGg HCg
  go_wp2_with fail
  refine HCh.out.mono ?_
  rintro e wi ⟨rfl, hwi⟩
  subst hwi
  go_wp2_with fail
  refine HTh.out.mono ?_
  rintro e wj ⟨mj, ij, bj, loj, rfl, oj, -, Lj⟩
  have HGj : Hid (Below W.heap.size W wj ∧ HSeg wj gw 0 R ∧ HView wj ag (seqH 1 R.length) ∧ gw < wj.heap.size) := ⟨chain HGh.out.1 Lj, HSeg.below HGh.out.2.1 HGh.out.2.2.2 Lj, HView.next HGh.out.2.2.1 Lj, Nat.lt_of_lt_of_le HGh.out.2.2.2 Lj.size⟩
  have HOj := hidP oj
  have HTj := hidP (TQ.out wj HGj.out.1)
  clear oj Lj HGh HTh HCh
  go_wp2_with fail
  refine HTj.out.mono ?_
  rintro e wk ⟨bk, rfl, ok, hbk, Lk⟩
  have HGk : Hid (Below W.heap.size W wk ∧ HSeg wk gw 0 R ∧ HView wk ag (seqH 1 R.length) ∧ gw < wk.heap.size) := ⟨chain HGj.out.1 Lk, HSeg.below HGj.out.2.1 HGj.out.2.2.2 Lk, HView.next HGj.out.2.2.1 Lk, Nat.lt_of_lt_of_le HGj.out.2.2.2 Lk.size⟩
  have HCk := hidP (iFelt _ _ ms.length ts.length wd ms d ts nx _ q.length q k wk (HOj.out.next Lk).mview (HOj.out.next Lk).wview HM.out ok.view hql (Nat.le_refl _))
  rw [HR.out] at HCk
  clear ok Lk HGj HTj HOj hbk
  go_wp2_with fail
  refine HCk.out.mono ?_
  rintro e wl ⟨al, cl, rfl, gl, Ll⟩
  have HGl : Hid (Below W.heap.size W wl ∧ HSeg wl gw 0 R ∧ HView wl ag (seqH 1 R.length) ∧ gw < wl.heap.size) := ⟨chain HGk.out.1 Ll, HSeg.below HGk.out.2.1 HGk.out.2.2.2 Ll, HView.next HGk.out.2.2.1 Ll, Nat.lt_of_lt_of_le HGk.out.2.2.2 Ll.size⟩
  have HCl := hidP (eqH14 _ _ cl cgw R wl gl.slice (HRV.out _ HGl.out.2.1 HGl.out.2.2.2) (by omega))
  clear Ll gl HGk HCk
  go_wp2_with fail
  refine HCl.out.mono ?_
  rintro e wm ⟨rfl, Lm⟩
  have HGm : Hid (Below W.heap.size W wm ∧ HView wm ag (seqH 1 R.length)) := ⟨chain HGl.out.1 Lm, HView.next HGl.out.2.2.1 Lm⟩
  have HCm := hidP (heldHS ag cg R.length 1 wm HGm.out.2 (by omega) (by omega) (by omega))
  rw [hV] at HCm
  clear Lm HGl HCl
  go_wp2_with fail
  refine HCm.out.mono ?_
  rintro e wn ⟨rfl, hwn⟩
  subst hwn
  go_wp2_with fail
  go_ret
  exact ⟨rfl, chain HB.out HGm.out.1⟩

end Go.Proofs.YtfbhohpbhjlihaaGreat
