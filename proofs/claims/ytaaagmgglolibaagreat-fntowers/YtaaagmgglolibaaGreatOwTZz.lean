import Derived.Test.YtaaagmgglolibaaGreatLkWebZz
import Derived.Test.YtaaagmgglolibaaGreatTwOkZz
import Derived.Test.YtaaagmgglolibaaGreatGnCpyZz
import Derived.Test.YtaaagmgglolibaaGreatFeHelpZz
import Derived.Test.YtaaagmgglolibaaGreatMathZz
import Derived.Test.YtaaagmgglolibaaGreatMCopyZz
import Derived.Test.YtaaagmgglolibaaGreatOnDoZz
set_option maxRecDepth 100000
set_option maxHeartbeats 16000000
namespace Go.Proofs.YtaaagmgglolibaaGreat
open Go Go.RowKit
theorem Zcs.tsr {o : Bool} {base g : Nat} {S : Nat -> Nat -> Prop} {w : World} {vm vl : Nat -> Value} {ts : List Wb} (h : Zcs o g ts.length S w vm vl (Ze ts)) (hg : base <= g) (hs : ∀ i b, S i b -> base <= b) : TsR o base w (.slice (some ⟨g, 0, none⟩) ts.length ts.length) ts S vm vl :=
 ⟨h.blk.own hg (by have := h.four; unfold maxLen; omega), h.webs, fun i hi q e => by injection e with e; rw [<- e]; exact h.off i hi, h.apart, h.four, fun i b _ hb => hs i b hb⟩
theorem TsR.out {o : Bool} {base : Nat} {w : World} {v : Value} {ts : List Wb} {S : Nat -> Nat -> Prop} {vm vl : Nat -> Value} (h : TsR o base w v ts S vm vl) : TsO o (Btw base w.heap.size) w v ts := by
 have hbnd := h.bnd
 obtain ⟨h1, ⟨rfl, h2⟩ | ⟨g, cap, cur, rfl, hb', hg, hc, h3⟩⟩ := h.row
 · obtain rfl : ts = [] := List.length_eq_zero_iff.1 h2
   exact (TsO.zero o w).mono (fun b hq => hq.2) (fun b hq => hq.elim)
 · have hr := h.row
   have ot : ZeB o g ts.length S w vm vl (Ze ts) := ⟨(World.ownsRow.lt hr g rfl).2, fun i hi => by
    have c0 := World.ownsRow.cellAt hr (i * 2) (by omega)
    have c1 := World.ownsRow.cellAt hr (i * 2 + 1) (by omega)
    rw [Zhc (by omega)] at c0 c1
    have a0 : Za5 vm vl (i * 2) = vm i := by unfold Za5; rw [if_pos (by omega), show i * 2 / 2 = i by omega]
    have a1 : Za5 vm vl (i * 2 + 1) = vl i := by unfold Za5; rw [if_neg (by omega), show (i * 2 + 1) / 2 = i by omega]
    rw [a0] at c0
    rw [a1] at c1
    exact ⟨c0, c1⟩, h.webs, fun i hi => h.off i hi g rfl, h.apart, h.four⟩
   refine (ot.out cap hc).mono (fun b hq => hq.2) (fun b hq => hbnd b ?_)
   rcases hq with rfl | hq
   · exact Or.inl rfl
   · exact Or.inr hq
theorem Zjx (v : Bool) (aw : Option Addr) (cw : Nat) (d : Int) (ts : List Wb) (w : World) (hv : ZG v w aw ts) (hok : ZN d ts = true) (hsm : Zaf ts) :
 Calls Tryz.prog 101 #[.agg #[.int .i64 d, .slice aw ts.length cw]] w fun e w' => ∃ vt, e = .returned (.agg #[.int .i64 d, vt]) /\ (∃ S vm vl, TsR true w.heap.size w' vt ts S vm vl) /\ Below w.heap.size w w' := by
 obtain ⟨W1, hW1⟩ : ∃ W, w.alloc (.cells #[.int .i64 d, .slice aw ts.length cw] 26) = W := ⟨_, rfl⟩
 have hB1 : Below w.heap.size w W1 := by rw [<- hW1]; exact (Below.refl _ _).alloc (Nat.le_refl _) _
 have hT1 : Two W1 w.heap.size (.int .i64 d) (.slice aw ts.length cw) 26 := by rw [<- hW1]; exact Two.new w _ _ _
 obtain ⟨W, hW⟩ : ∃ W, W1.alloc (.cells #[.int .i64 0, .slice none 0 0] 26) = W := ⟨_, rfl⟩
 have hB2 : Below W1.heap.size W1 W := by rw [<- hW]; exact (Below.refl _ _).alloc (Nat.le_refl _) _
 have s1 : W1.heap.size = w.heap.size + 1 := by rw [<- hW1]; simp
 have s2 : W.heap.size = w.heap.size + 2 := by rw [<- hW]; simp [s1]
 have TR : Two W (w.heap.size + 1) (.int .i64 0) (.slice none 0 0) 26 := by rw [<- hW, <- s1]; exact Two.new W1 _ _ _
 have TA := hT1.below hB2
 have h4 := (Zad hok).1
 have hmk : ∀ w0 : World, (Instr.makeSlice 24 (.int .i64 (ts.length : Int)) (.int .i64 (ts.length : Int))).run Tryz.prog w0 = .ok (.slice (some ⟨w0.heap.size, 0, none⟩) ts.length ts.length) (w0.alloc (.cells (madeCells #[.slice none 0 0, .slice none 0 0] (ts.length * 2)) 47)) := fun w0 => ZaV (P := Tryz.prog) 24 47 (.agg #[.slice none 0 0, .slice none 0 0]) 2 48 Tryz.underlying24 Tryz.info47 .i64 .i64 ts.length (by omega) (by omega) w0
 have HB := Za (Zb hB1 hB2)
 have HV := Za (fun W' (L : Below w.heap.size w W') => hv.next L)
 have HOK := Za (And.intro hok hsm)
 have HTA := Za TA
 have HTR := Za TR
 have HSZ := Za (And.intro s1 s2)
 have HS : Hid (∀ W', Below W.heap.size W W' -> W'.cell? ⟨w.heap.size, 0, none⟩ = some (.int .i64 d) /\ W'.cell? ⟨w.heap.size, 1, none⟩ = some (.slice aw ts.length cw)) := fun W' L' => ⟨(TA.below L').c0, (TA.below L').c1⟩
 have BL := Za ((Below.refl W.heap.size W).drew)
 have HWW : Hid ((w.alloc (.cells #[.int .i64 d, .slice aw ts.length cw] 26)).alloc (.cells #[.int .i64 0, .slice none 0 0] 26) = W) := by show _ = _; rw [hW1, hW]
 have H4 := Za h4
 clear hv hB1 hT1 hB2 TR TA s1 s2 hW hW1 hok hsm h4
 go_enter Tryz.func101, Tryz.ntmps101
 go_upto_region 1 with fail
 rw [HWW.out]
 clear HWW
 go_cut [3] from 6 to 12 (fun v wx => ∃ o g, v = .pointer (some ⟨o, 0, none⟩) /\ Two wx o (.int .i64 d) (.slice (some ⟨g, 0, none⟩) ts.length ts.length) 26 /\ FB wx g (ts.length * 2) (Za5 (fun _ => .slice none 0 0) (fun _ => .slice none 0 0)) 47 /\ W.heap.size <= o /\ W.heap.size <= g /\ o ≠ g /\ Below W.heap.size W wx)
 case first =>
  refine Zm (S := fun W' => Below W.heap.size W W') (fuel := 4) [0, 1, 2, 3, 4] (by kernel_rfl) (by kernel_rfl) (by kernel_rfl) (by kernel_rfl) BL.out (fun _ => ?_)
  iterate 5 (refine ⟨_, rfl, ?_⟩; apply Exists.intro; refine ⟨Or.inl ⟨by rfl, fun w' hw' => ?_⟩, ?_⟩; (focus (obtain ⟨e1, e2⟩ := HS.out w' hw'; first | (go_simp; done) | (go_simp; with_reducible rfl))); simp only [Act.put, List.getElem_toArray, List.getElem_cons_succ, List.getElem_cons_zero, List.setIfInBounds_toArray, List.set_cons_zero, List.set_cons_succ])
  obtain ⟨wv0, hv0⟩ : ∃ w0, W.drew = w0 := ⟨_, rfl⟩
  have B0 : Below W.heap.size W wv0 := by rw [<- hv0]; exact BL.out
  have s0 : W.heap.size <= wv0.heap.size := B0.size
  rw [hv0]
  clear hv0
  refine Z0 5 7 (by kernel_rfl) rfl rfl (fun K hK => ?_) (fun K hK => ?_)
  · go_simp
    obtain ⟨w1, hX⟩ : ∃ w0, wv0.alloc (.cells (madeCells #[.slice none 0 0, .slice none 0 0] (ts.length * 2)) 47) = w0 := ⟨_, rfl⟩
    have LX : Below wv0.heap.size wv0 w1 := by rw [<- hX]; exact (Below.refl _ _).alloc (Nat.le_refl _) _
    have sX : wv0.heap.size < w1.heap.size := by rw [<- hX]; simp
    have Fg : FB w1 wv0.heap.size (ts.length * 2) (Za5 (fun _ => .slice none 0 0) (fun _ => .slice none 0 0)) 47 := by rw [<- hX]; exact FB.madeW wv0 _ _
    have B1 : Below W.heap.size W w1 := Zb B0 LX
    obtain ⟨g, hg⟩ : ∃ q, wv0.heap.size = q := ⟨_, rfl⟩
    have hg1 : wv0.heap.size <= g := by omega
    have hg2 : g < w1.heap.size := by omega
    rw [hX]
    rw [hg] at Fg ⊢
    refine hK.out _ _ B1 (fun _ => ?_)
    clear hK K hX LX hg sX
    refine Zn 2 [6] (by kernel_rfl) (by kernel_rfl) (by kernel_rfl) B1 ?_
    iterate 1
     refine ⟨_, rfl, ?_⟩
     apply Exists.intro
     refine ⟨Or.inl ⟨by rfl, fun w' hw' => ?_⟩, ?_⟩
     · first
       | (go_simp; done)
       | (go_simp; with_reducible rfl)
     simp only [Act.put, List.getElem_toArray, List.getElem_cons_succ, List.getElem_cons_zero, List.setIfInBounds_toArray, List.set_cons_zero, List.set_cons_succ]
    refine Zd 7 (by kernel_rfl) rfl (fun K hK => ?_)
    go_simp
    refine hK.out _ _ (B1.alloc B1.size _) (fun _ => ?_)
    clear hK K
    refine Zd 8 (by kernel_rfl) rfl (fun K hK => ?_)
    go_simp
    obtain ⟨wz, hwz⟩ : ∃ wz, w1.alloc (.cells #[.int .i64 d, .slice (some ⟨g, 0, none⟩) ts.length ts.length] 26) = wz := ⟨_, rfl⟩
    have LZ : Below w1.heap.size w1 wz := by rw [<- hwz]; exact (Below.refl _ _).alloc (Nat.le_refl _) _
    have TZ : Two wz w1.heap.size (.int .i64 d) (.slice (some ⟨g, 0, none⟩) ts.length ts.length) 26 := by rw [<- hwz]; exact Two.new w1 _ _ _
    have hgl := Fg.lt
    rw [hwz]
    refine hK.out _ _ (Zb B1 LZ) (fun _ => ?_)
    clear hK K hwz
    refine wpAnyH_done (by kernel_rfl) ?_ _
    refine NoPanic.normal ?_
    try simp only [Exit.then]
    go_wp2_with fail
    go_meet
    exact ⟨_, g, rfl, TZ, Fg.next LZ, by have := B1.size; omega, by omega, by omega, Zb B1 LZ⟩
  · go_simp
    obtain ⟨w1, hX⟩ : ∃ w0, wv0.alloc (.cells #[.int .i64 0, .slice none 0 0] 26) = w0 := ⟨_, rfl⟩
    have LX : Below wv0.heap.size wv0 w1 := by rw [<- hX]; exact (Below.refl _ _).alloc (Nat.le_refl _) _
    have sX : wv0.heap.size < w1.heap.size := by rw [<- hX]; simp
    have Fo : Two w1 wv0.heap.size (.int .i64 0) (.slice none 0 0) 26 := by rw [<- hX]; exact Two.new wv0 _ _ _
    have B1 : Below W.heap.size W w1 := Zb B0 LX
    obtain ⟨o, ho⟩ : ∃ q, wv0.heap.size = q := ⟨_, rfl⟩
    have ho1 : wv0.heap.size <= o := by omega
    have ho2 : o < w1.heap.size := by omega
    rw [hX]
    rw [ho] at Fo ⊢
    refine hK.out _ _ B1 (fun _ => ?_)
    clear hK K hX LX ho sX
    refine Zd 5 (by kernel_rfl) rfl (fun K hK => ?_)
    go_simp
    obtain ⟨w2, hX⟩ : ∃ w0, w1.alloc (.cells (madeCells #[.slice none 0 0, .slice none 0 0] (ts.length * 2)) 47) = w0 := ⟨_, rfl⟩
    have LX : Below w1.heap.size w1 w2 := by rw [<- hX]; exact (Below.refl _ _).alloc (Nat.le_refl _) _
    have sX : w1.heap.size < w2.heap.size := by rw [<- hX]; simp
    have Fg : FB w2 w1.heap.size (ts.length * 2) (Za5 (fun _ => .slice none 0 0) (fun _ => .slice none 0 0)) 47 := by rw [<- hX]; exact FB.madeW w1 _ _
    replace Fo := Fo.below LX
    have B2 : Below W.heap.size W w2 := Zb B1 LX
    obtain ⟨g, hg⟩ : ∃ q, w1.heap.size = q := ⟨_, rfl⟩
    have hg1 : w1.heap.size <= g := by omega
    have hg2 : g < w2.heap.size := by omega
    rw [hX]
    rw [hg] at Fg ⊢
    refine hK.out _ _ B2 (fun _ => ?_)
    clear hK K hX LX hg sX
    refine Zn 1 [6] (by kernel_rfl) (by kernel_rfl) (by kernel_rfl) B2 ?_
    iterate 1
     refine ⟨_, rfl, ?_⟩
     apply Exists.intro
     refine ⟨Or.inl ⟨by rfl, fun w' hw' => ?_⟩, ?_⟩
     · first
       | (go_simp; done)
       | (go_simp; with_reducible rfl)
     simp only [Act.put, List.getElem_toArray, List.getElem_cons_succ, List.getElem_cons_zero, List.setIfInBounds_toArray, List.set_cons_zero, List.set_cons_succ]
    have x0 := Fo.c0
    have x1 := Fo.c1
    have xf0 := Fo.frozen 0
    have xf1 := Fo.frozen 1
    have hgl1 := Fg.lt
    have hgl3 := Fo.lt
    refine Zd 8 (by kernel_rfl) rfl (fun K hK => ?_)
    go_simp
    obtain ⟨wz, hwz⟩ : ∃ wz, (w2.setCell ⟨o, 0, none⟩ (.int .i64 d)).setCell ⟨o, 1, none⟩ (.slice (some ⟨g, 0, none⟩) ts.length ts.length) = wz := ⟨_, rfl⟩
    have TZ : Two wz o (.int .i64 d) (.slice (some ⟨g, 0, none⟩) ts.length ts.length) 26 := by rw [<- hwz]; exact (Fo.set0 _).set1 _
    have Fg2 : FB wz g (ts.length * 2) (Za5 (fun _ => .slice none 0 0) (fun _ => .slice none 0 0)) 47 := by rw [<- hwz]; exact (Fg.far (by omega) _ _).far (by omega) _ _
    have BZ : Below W.heap.size W wz := by rw [<- hwz]; exact (B2.setCell (by show W.heap.size <= o; omega) _).setCell (by show W.heap.size <= o; omega) _
    rw [hwz]
    refine hK.out _ _ BZ (fun _ => ?_)
    clear hK K hwz x0 x1 xf0 xf1
    refine wpAnyH_done (by kernel_rfl) ?_ _
    refine NoPanic.normal ?_
    try simp only [Exit.then]
    go_wp2_with fail
    go_meet
    exact ⟨o, g, rfl, TZ, Fg2, by omega, by omega, by omega, BZ⟩
 case rest =>
  obtain ⟨o, g, rfl, hTo, hFg, ho, hg, hog, LW⟩ := hcut
  generalize hwc : wc = w1 at *
  clear hwc wc hmk BL HS
  have HLW := Za LW
  have hk0 := (HTA.out.below LW).c0
  have k1 := (HTA.out.below LW).c1
  have h44 := H4.out
  have HOB := Za (Zcs.start (o := true) hFg (by omega))
  have HTO := Za hTo
  have hWs := HSZ.out.2
  clear hTo hFg LW hk0 h44
  go_wp2_with fail
  clear k1
  go_loopg [16] ts.length (fun gk iv wr => ∃ (k : Nat) (S : Nat -> Nat -> Prop) (vm vl : Nat -> Value), k <= ts.length /\ ts.length - k <= gk /\ iv = .int .i64 k /\ Zcs true g ts.length S wr vm vl (fun i => if i < k then Ze ts i else ([], [])) /\ (∀ i b, S i b -> W.heap.size <= b) /\ Two wr o (.int .i64 d) (.slice (some ⟨g, 0, none⟩) ts.length ts.length) 26 /\ Below W.heap.size W wr)
  case atStart => exact ⟨0, _, _, _, Nat.zero_le _, Nat.sub_le _ _, rfl, HOB.out.as (fun i _ => by rw [if_neg (by omega)]), fun _ _ h => h.elim, HTO.out, HLW.out⟩
  case round =>
   obtain ⟨k, S, vm, vl, hk, hgk, rfl, hp, hsb, hto, L⟩ := hrel
   have HP := Za hp
   have HL := Za L
   have HT := Za hto
   have HSB := Za hsb
   have hVr := HV.out wr (Zb HB.out L)
   clear hp L hto hsb
   by_cases hlt : k < ts.length
   · obtain ⟨wb, wo, am, cm, al, cl, rfl, hwb, c0, c1, hmv, hcv, -⟩ := hVr.web hlt
     have hi0 : (0 : Int) <= (k : Int) := Int.natCast_nonneg _
     have hi1 : (k : Int) < (ts.length : Int) := by omega
     have hk3 : k < 4 := by have := H4.out; omega
     have hweb := Zay HOK.out.1 (n := k) (by have := H4.out; omega)
     obtain ⟨V1, hV⟩ : ∃ V1, wr.alloc (.cells #[.slice am (Ze ts k).1.length cm, .slice al (Ze ts k).2.length cl] 47) = V1 := ⟨_, rfl⟩
     have LV : Below wr.heap.size wr V1 := by rw [<- hV]; exact (Below.refl _ _).alloc (Nat.le_refl _) _
     have hYl : wr.heap.size < V1.heap.size := by rw [<- hV]; simp
     have y0 : V1.cell? ⟨wr.heap.size, 0, none⟩ = some (.slice am (Ze ts k).1.length cm) := by rw [<- hV]; simp
     have y1 : V1.cell? ⟨wr.heap.size, 1, none⟩ = some (.slice al (Ze ts k).2.length cl) := by rw [<- hV]; simp
     have LVd : Below wr.heap.size wr V1.drew := LV.drew
     have hOV := (HT.out.below LVd).c1
     have HPD := Za (HP.out.next LVd)
     have HTD := Za (HT.out.below LVd)
     have HLD := Za (Zb HL.out LVd)
     have HC := Za (Zj6 am al cm cl (Ze ts k).1 (Ze ts k).2 V1.drew (hmv.next LVd) (hcv.next LVd) (Zt hweb) (HOK.out.2.2 k).1 (HOK.out.2.2 k).2)
     have HWB := Za hweb
     have hol1 := HTD.out.lt
     have hwbs : W.heap.size <= V1.drew.heap.size := HLD.out.size
     clear hmv hcv hVr LV LVd hweb
     have HSS : Hid (∀ W', Below V1.drew.heap.size V1.drew W' -> W'.cell? ⟨o, 1, none⟩ = some (.slice (some ⟨g, 0, none⟩) ts.length ts.length) /\ W'.cell? ⟨wr.heap.size, 0, none⟩ = some (.slice am (Ze ts k).1.length cm) /\ W'.cell? ⟨wr.heap.size, 1, none⟩ = some (.slice al (Ze ts k).2.length cl)) := fun W' L' => ⟨(L'.cell (p := ⟨o, 1, none⟩) hol1).trans hOV, (L'.cell (p := ⟨wr.heap.size, 0, none⟩) hYl).trans y0, (L'.cell (p := ⟨wr.heap.size, 1, none⟩) hYl).trans y1⟩
     obtain ⟨ml, hml⟩ : ∃ ml, (Ze ts k).1.length = ml := ⟨_, rfl⟩
     obtain ⟨ll, hll⟩ : ∃ ll, (Ze ts k).2.length = ll := ⟨_, rfl⟩
     have HID := Za (And.intro hml hll)
     rw [hml, hll] at HC HSS hV
     rw [hml] at y0 c0
     rw [hll] at y1 c1
     clear hml hll hOV
     go_wp2_with fail
     clear hV c0 c1 y0 y1
     refine Z6 (S := fun w' => w'.cell? ⟨o, 1, none⟩ = some (.slice (some ⟨g, 0, none⟩) ts.length ts.length) /\ w'.cell? ⟨wr.heap.size, 0, none⟩ = some (.slice am ml cm) /\ w'.cell? ⟨wr.heap.size, 1, none⟩ = some (.slice al ll cl)) (fuel := 2)
      [0, 1, 2, 3] _ rfl (by kernel_rfl) (by kernel_rfl) (by kernel_rfl) (by kernel_rfl) (by kernel_rfl) (by kernel_rfl) (by kernel_rfl) (HSS.out _ (Below.refl _ _)) (fun hS => ?_)
     iterate 4
      refine ⟨_, rfl, ?_⟩
      apply Exists.intro
      refine ⟨Or.inl ⟨by rfl, fun w' hw' => ?_⟩, ?_⟩
      · first
        | (go_simp; done)
        | (go_simp; with_reducible rfl)
      simp only [Act.put, List.setIfInBounds_toArray]
     refine Zd 4 (by kernel_rfl) rfl (fun K hK => ?_)
     go_simp
     refine HC.out.mono ?_
     rintro e w3 ⟨g3, gl3, rfl, ho3, L3⟩
     refine hK.out _ _ (HSS.out _ L3) (fun _ => ?_)
     clear hK K
     refine Zd 5 (by kernel_rfl) rfl (fun K hK => ?_)
     go_simp
     refine hK.out _ _ (HSS.out _ L3) (fun _ => ?_)
     clear hK K hS
     have hlen := Zag HWB.out
     obtain ⟨-, -, hl60, hx60⟩ := Za6 HWB.out
     rw [<- HID.out.2] at ho3
     have hl3 := ho3.ow (Zt HWB.out) hlen.symm (by omega) (fun i => by have := hx60 i; omega)
     have HST := Za (HPD.out.put L3 (k := k) hl3 (fun b hb => hb.1))
     have hN := HPD.out.next L3
     have f0 := hN.blk.frozen (k * 2)
     have f1 := hN.blk.frozen (k * 2 + 1)
     have e0 := (hN.cells k hlt).1
     have e1 := (hN.cells k hlt).2
     have hog' : g ≠ o := fun e => hog e.symm
     rw [HID.out.1, HID.out.2] at HST
     have HE : Hid (Two ((w3.setCell ⟨g, k * 2, none⟩ (.slice (some ⟨g3, 0, none⟩) ml ml)).setCell ⟨g, k * 2 + 1, none⟩ (.slice (some ⟨gl3, 0, none⟩) ll ll)) o (.int .i64 d) (.slice (some ⟨g, 0, none⟩) ts.length ts.length) 26 /\ Below W.heap.size W ((w3.setCell ⟨g, k * 2, none⟩ (.slice (some ⟨g3, 0, none⟩) ml ml)).setCell ⟨g, k * 2 + 1, none⟩ (.slice (some ⟨gl3, 0, none⟩) ll ll))) :=
      ⟨((HTD.out.below L3).far hog' _).far hog' _, ((Zb HLD.out L3).setCell (by show W.heap.size <= g; exact hg) _).setCell (by show W.heap.size <= g; exact hg) _⟩
     have HSN : Hid (∀ i b, Zb2 S k (Btw V1.drew.heap.size w3.heap.size) i b -> W.heap.size <= b) := fun i b hb => by
      unfold Zb2 at hb
      by_cases e : i = k
      · rw [if_pos e] at hb; have := hb.1; omega
      · rw [if_neg e] at hb; exact HSB.out i b hb
     clear ho3 L3 hN hl3 hlen hl60 hx60 HPD HTD HLD HC HSS
     refine wpAnyH_done (by kernel_rfl) ?_ _
     simp only [Exit.then]
     go_wp2_with fail
     refine NoPanic.normal ?_
     go_wp2_with fail
     go_roundg (ts.length - (k + 1))
     case rel => exact ⟨k + 1, _, _, _, by omega, Nat.le_refl _, by go_num, HST.out.as (fun i _ => by
      unfold updW
      by_cases e : i = k
      · rw [if_pos e, if_pos (by omega), e]
      · rw [if_neg e]
        show (if i < k then Ze ts i else ([], [])) = _
        by_cases e2 : i < k
        · rw [if_pos e2, if_pos (by omega)]
        · rw [if_neg e2, if_neg (by omega)]), HSN.out, HE.out.1, HE.out.2⟩
     case measure => omega
   · obtain rfl : k = ts.length := by omega
     have hki : ¬ ((ts.length : Int) < (ts.length : Int)) := by omega
     have tR := HTR.out.below HL.out
     have r0 := tR.c0
     have r1 := tR.c1
     have rf0 := tR.frozen 0
     have rf1 := tR.frozen 1
     have o0 := HT.out.c0
     have o1 := HT.out.c1
     have t3 := (tR.set0 (.int .i64 d)).set1 (.slice (some ⟨g, 0, none⟩) ts.length ts.length)
     have q0 := t3.c0
     have q1 := t3.c1
     have HF := Za (HP.out.as (U := Ze ts) (fun i hi' => by rw [if_pos hi']))
     have hz := HL.out.size
     have LE : Below w.heap.size w ((wr.setCell ⟨w.heap.size + 1, 0, none⟩ (.int .i64 d)).setCell ⟨w.heap.size + 1, 1, none⟩ (.slice (some ⟨g, 0, none⟩) ts.length ts.length)) := ((Zb HB.out HL.out).setCell (by show w.heap.size <= w.heap.size + 1; omega) _).setCell (by show w.heap.size <= w.heap.size + 1; omega) _
     have hft : ∀ b, FtW g ts.length S b -> W.heap.size <= b /\ b < wr.heap.size := fun b hb => ⟨by rcases hb with rfl | ⟨i, _, hs⟩; exact hg; exact HSB.out i b hs, HF.out.ts.bnd b hb⟩
     have hsta : Sta (FtW g ts.length S) wr ((wr.setCell ⟨w.heap.size + 1, 0, none⟩ (.int .i64 d)).setCell ⟨w.heap.size + 1, 1, none⟩ (.slice (some ⟨g, 0, none⟩) ts.length ts.length)) :=
      ⟨by rw [Zc, Zc]; exact Nat.le_refl _, fun b hb => (Below.heap_setCell _ ⟨w.heap.size + 1, 1, none⟩ _ b (fun e => by have e' : b = w.heap.size + 1 := e; have := hft b hb; omega)).trans (Below.heap_setCell _ ⟨w.heap.size + 1, 0, none⟩ _ b (fun e => by have e' : b = w.heap.size + 1 := e; have := hft b hb; omega))⟩
     have hwz := HSZ.out.2
     have HE := Za (And.intro ((HF.out.sm hsta).tsr (base := w.heap.size) (by omega) (fun i b hb => by have := HSB.out i b hb; omega)) LE)
     clear hVr tR t3 HF LE hft hsta HP HL HT HSB hz hwz
     go_wp2_with fail
     refine bodyPost_ret (v := .agg #[.int .i64 d, .slice (some ⟨g, 0, none⟩) ts.length ts.length]) (by simp [results, Tryz.results101, go_sem, q0, q1]) rfl ?_
     exact ⟨_, rfl, ⟨_, _, _, HE.out.1⟩, HE.out.2⟩
def Zhm (m : Mk) (x : Wb) : Wb := (x.1 ++ [m], ZcN x.1 x.2 (Zb4 x.1 m.2 3) m.1)
def Zek (m : Mk) (ts : List Wb) : Nat -> List Wb
 | 0 => ts
 | k + 1 => (Zek m ts k).set k (Zhm m (Ze ts k))
def ZeF (m : Mk) (ts : List Wb) : Nat -> Bool
 | 0 => true
 | k + 1 => ZeF m ts k && Zk ((Ze ts k).1 ++ [m])
theorem ZbC (m : Mk) (ts : List Wb) : ∀ k, (Zek m ts k).length = ts.length
 | 0 => rfl
 | k + 1 => by rw [Zek, List.length_set, ZbC m ts k]
theorem Zkj {m : Mk} {ts : List Wb} {k n : Nat} (h : Zk ((Ze ts k).1 ++ [m]) = false) (hk : k < n) : ZeF m ts n = false := by
 induction n with
 | zero => omega
 | succ n ih =>
   unfold ZeF
   rcases Nat.lt_or_ge k n with h1 | h1
   · rw [ih h1]; rfl
   · obtain rfl : k = n := by omega
     rw [h]; simp
theorem Zio {m : Mk} {ts : List Wb} {k : Nat} (h1 : ZeF m ts k = true) (h : Zk ((Ze ts k).1 ++ [m]) = true) : ZeF m ts (k + 1) = true := by
 unfold ZeF; rw [h1, h]; rfl
theorem Zd3 {ts : List Wb} {k : Nat} (x : Wb) (hk : k < ts.length) (i : Nat) : Ze (ts.set k x) i = if i = k then x else Ze ts i := by
 unfold Ze
 rw [List.getD_eq_getElem?_getD, List.getD_eq_getElem?_getD, List.getElem?_set]
 by_cases e : i = k
 · subst e; simp [hk]
 · rw [if_neg (fun h => e h.symm), if_neg e]
theorem Zel (m : Mk) (ts : List Wb) : ∀ k, k <= ts.length -> ∀ i, Ze (Zek m ts k) i = if i < k then Zhm m (Ze ts i) else Ze ts i
 | 0, _, i => by rw [Zek, if_neg (by omega)]
 | k + 1, hk, i => by
   rw [Zek, Zd3 _ (by rw [ZbC]; omega), Zel m ts k (by omega) i]
   by_cases e : i = k
   · rw [if_pos e, if_pos (by omega), e]
   · rw [if_neg e]
     by_cases e2 : i < k
     · rw [if_pos e2, if_pos (by omega)]
     · rw [if_neg e2, if_neg (by omega)]
theorem Zhu (vm vl : Nat -> Value) (n k : Nat) (xm xl : Value) : ((ZbZ vm vl n).set (k * 2) xm).set (k * 2 + 1) xl = ZbZ (ZaX vm k xm) (ZaX vl k xl) n := by
 refine List.ext_getElem (by simp [ZbZ]) (fun j h1 h2 => ?_)
 have e1 : (ZbZ (ZaX vm k xm) (ZaX vl k xl) n)[j] = Za5 (ZaX vm k xm) (ZaX vl k xl) j := by simp [ZbZ]
 rw [e1, List.getElem_set, List.getElem_set]
 have e2 : ∀ h, (ZbZ vm vl n)[j]'h = Za5 vm vl j := fun h => by simp [ZbZ]
 unfold Za5 ZaX
 by_cases a : k * 2 + 1 = j
 · rw [if_pos a, if_neg (by omega), if_pos (by omega)]
 · rw [if_neg a]
   by_cases b : k * 2 = j
   · rw [if_pos b, if_pos (by omega), if_pos (by omega)]
   · rw [if_neg b, e2]
     unfold Za5
     by_cases c : j % 2 = 0
     · rw [if_pos c, if_pos c, if_neg (by omega)]
     · rw [if_neg c, if_neg c, if_neg (by omega)]
theorem TsR.lowm {o : Bool} {base base' : Nat} {w : World} {v : Value} {ts : List Wb} {S : Nat -> Nat -> Prop} {vm vl : Nat -> Value} (h : TsR o base w v ts S vm vl) (hb : base' <= base) : TsR o base' w v ts S vm vl :=
 ⟨⟨h.row.1, h.row.2.imp id fun ⟨g, cap, cur, h1, h2, h3⟩ => ⟨g, cap, cur, h1, Nat.le_trans hb h2, h3⟩⟩, h.webs, h.off, h.apart, h.four, fun i b hi hs => Nat.le_trans hb (h.low i b hi hs)⟩
theorem TsR.nonil {o : Bool} {base : Nat} {w : World} {v : Value} {ts : List Wb} {S : Nat -> Nat -> Prop} {vm vl : Nat -> Value} (h : TsR o base w v ts S vm vl) (hn : 0 < ts.length) : ∃ g c, v = .slice (some ⟨g, 0, none⟩) ts.length c /\ base <= g /\ g < w.heap.size /\ ts.length <= c /\ ∀ i, i < ts.length -> w.cell? ⟨g, i * 2, none⟩ = some (vm i) /\ w.cell? ⟨g, i * 2 + 1, none⟩ = some (vl i) /\ (∀ j, w.frozen? ⟨g, j, none⟩ = false) := by
 obtain ⟨h1, ⟨rfl, h2⟩ | ⟨g, cap, cur, rfl, hb', hg, hc, h3⟩⟩ := h.row
 · omega
 · have hr := h.row
   refine ⟨g, cap, rfl, hb', (World.ownsRow.lt hr g rfl).2, hc, fun i hi => ?_⟩
   have c0 := World.ownsRow.cellAt hr (i * 2) (by omega)
   have c1 := World.ownsRow.cellAt hr (i * 2 + 1) (by omega)
   rw [Zhc (by omega)] at c0 c1
   have a0 : Za5 vm vl (i * 2) = vm i := by unfold Za5; rw [if_pos (by omega), show i * 2 / 2 = i by omega]
   have a1 : Za5 vm vl (i * 2 + 1) = vl i := by unfold Za5; rw [if_neg (by omega), show (i * 2 + 1) / 2 = i by omega]
   rw [a0] at c0
   rw [a1] at c1
   exact ⟨c0, c1, fun j => by simp [World.frozen?, hg]⟩
theorem TsR.put {o : Bool} {base g c : Nat} {w w' : World} {ts : List Wb} {S : Nat -> Nat -> Prop} {vm vl : Nat -> Value} (h : TsR o base w (.slice (some ⟨g, 0, none⟩) ts.length c) ts S vm vl) (L : Below w.heap.size w w') {k : Nat} (hk : k < ts.length) {F : Nat -> Prop} {xm xl : Value} {t : Wb} (hw : OwW o F w' xm xl t.1 t.2) (hF : ∀ b, F b -> w.heap.size <= b) (hbs : base <= w.heap.size) :
 TsR o base ((w'.setCell ⟨g, k * 2, none⟩ xm).setCell ⟨g, k * 2 + 1, none⟩ xl) (.slice (some ⟨g, 0, none⟩) ts.length c) (ts.set k t) (Zb2 S k F) (ZaX vm k xm) (ZaX vl k xl) := by
 have hg := (h.bnd g (Or.inl rfl)).2
 have h' := h.next L
 have far : ∀ b, b ≠ g -> ((w'.setCell ⟨g, k * 2, none⟩ xm).setCell ⟨g, k * 2 + 1, none⟩ xl).heap[b]? = w'.heap[b]? := fun b hb => (Below.heap_setCell _ ⟨g, k * 2 + 1, none⟩ xl b (fun e => hb e)).trans (Below.heap_setCell _ ⟨g, k * 2, none⟩ xm b (fun e => hb e))
 have sz : w'.heap.size <= ((w'.setCell ⟨g, k * 2, none⟩ xm).setCell ⟨g, k * 2 + 1, none⟩ xl).heap.size := by rw [Zc, Zc]; exact Nat.le_refl _
 have hl : (ts.set k t).length = ts.length := List.length_set ..
 refine ⟨?_, fun i hi => ?_, fun i hi q e => ?_, fun i j hi hj hne b => ?_, by rw [hl]; exact h.four, fun i b hi hs => ?_⟩
 · have r1 := (World.ownsRow.stored h'.row (k * 2) xm).1
   have r2 := (World.ownsRow.stored r1 (k * 2 + 1) xl).1
   rw [Zhu] at r2
   rw [hl]
   exact r2
 · rw [hl] at hi
   rw [Zd3 t hk]
   unfold Zb2 ZaX
   by_cases e : i = k
   · rw [if_pos e, if_pos e, if_pos e, if_pos e]
     exact hw.sm ⟨sz, fun b hb => far b (fun eq => by have := hF b hb; omega)⟩
   · rw [if_neg e, if_neg e, if_neg e, if_neg e]
     exact (h'.webs i hi).sm ⟨sz, fun b hb => far b (fun eq => h.off i hi g rfl (eq ▸ hb))⟩
 · rw [hl] at hi
   injection e with e
   subst e
   unfold Zb2
   by_cases e : i = k
   · rw [if_pos e]
     exact fun hb => by have hx : w.heap.size <= g := hF _ hb; omega
   · rw [if_neg e]
     exact h.off i hi _ rfl
 · rw [hl] at hi hj
   unfold Zb2
   by_cases e : i = k
   · rw [if_pos e, if_neg (by omega)]
     exact fun hb hb' => by have := hF b hb; have := (h.webs j hj).bnd b hb'; omega
   · rw [if_neg e]
     by_cases e' : j = k
     · rw [if_pos e']
       exact fun hb hb' => by have := hF b hb'; have := (h.webs i hi).bnd b hb; omega
     · rw [if_neg e']
       exact h.apart i j hi hj hne b
 · rw [hl] at hi
   unfold Zb2 at hs
   by_cases e : i = k
   · rw [if_pos e] at hs; have := hF b hs; omega
   · rw [if_neg e] at hs; exact h.low i b hi hs
theorem Zip {base base' : Nat} {w : World} {g c : Nat} {ds : List Dm} (h : ZaK base w g c ds) (hb : base' <= base) : ZaK base' w g c ds :=
 have ow : ∀ {e : TypeId} {size n : Nat} {v : Value} {xs : List Value}, w.ownsRow base e size v n xs -> w.ownsRow base' e size v n xs := fun h => ⟨h.1, h.2.imp id fun ⟨g, cap, cur, h1, h2, h3⟩ => ⟨g, cap, cur, h1, Nat.le_trans hb h2, h3⟩⟩
 ⟨ow h.1, fun d hd => ⟨ow (h.2.1 d hd).1, (h.2.1 d hd).2⟩, h.2.2⟩
def LnkC (o : Bool) (f : Nat) : Prop := ∀ (am al at' : Option Addr) (cm cl ct : Nat) (x : Wb) (m : Mk) (w : World), ZA w am x.1 -> ZW w al x.2 -> Zq w at' m.2 -> m.2.length <= 1048576 -> x.1.length <= cm -> x.2.length <= cl -> ZU x.1 -> ZaE x.2 -> ZR x.1 x.2 = true ->
 Calls Tryz.prog f #[.agg #[.slice am x.1.length cm, .slice al x.2.length cl], .agg #[.int .i64 m.1, .slice at' m.2.length ct], .int .i64 3] w fun e w' => ∃ (a1 : Option Addr) (l1 c1 : Nat) (a2 : Option Addr) (l2 c2 : Nat) (F : Nat -> Prop), e = .returned (.tuple #[.agg #[.slice a1 l1 c1, .slice a2 l2 c2], .bool (Zk (x.1 ++ [m]))]) /\ (Zk (x.1 ++ [m]) = true -> OwW o F w' (.slice a1 l1 c1) (.slice a2 l2 c2) (Zhm m x).1 (Zhm m x).2) /\ (∀ b, F b -> w.heap.size <= b /\ b < w'.heap.size) /\ Below w.heap.size w w'
theorem sLnkC : LnkC false 197 := by
 intro am al at' cm cl ct x m w hm hl ha hal _ _ _ _ hw
 refine (ZlL am al at' cm cl ct x.1 x.2 m 3 w hm hl ha hal hw).mono ?_
 rintro e w' (⟨hb, rfl, L⟩ | ⟨hb, gm, cm', gl, cl', rfl, ho, L⟩)
 · rw [hb]
   exact ⟨_, _, _, _, _, _, fun _ => False, rfl, (by intro h; cases h), (fun b h => h.elim), L⟩
 · rw [hb]
   refine ⟨_, _, _, _, _, _, Btw w.heap.size w'.heap.size, rfl, fun _ => ?_, fun b h => h, L⟩
   obtain ⟨B, ds, B', rs, h1, h2, hd, hdm, hlm, hnr, -⟩ := ho
   have hrl : rs.length = x.2.length + 1 := by
    have h1 : (ZaP rs).length = rs.length := Za3 rs
    rw [hnr, Zc3] at h1
    rw [Zag hw]; exact h1.symm
   have hr := Zj2 (base := w.heap.size) (Zip hd h1) hdm (Or.inr ⟨gl, cl', rfl, hlm⟩) hnr h2
   rw [hrl] at hr
   rw [List.length_append, List.length_singleton] at hr
   exact hr
theorem iLnkC : LnkC true 104 := by
 intro am al at' cm cl ct x m w hm hl ha hal hcm hcl hsm hcs hw
 refine (ZnC am al at' cm cl ct x.1 x.2 m 3 w hm hl hsm hcs hcm hcl ha hal).mono ?_
 rintro e w' ⟨v, rfl, ho, L⟩
 have hlb : ZaS x.1 x.2 m 3 = Zk (x.1 ++ [m]) := by unfold ZaS; rw [hw]; simp [ZgB]
 rw [hlb]
 rcases ho with ⟨hb, rfl⟩ | ⟨hb, g, gl, rfl, ho⟩
 · rw [hlb] at hb
   rw [hb]
   exact ⟨_, _, _, _, _, _, fun _ => False, rfl, (by intro h; cases h), (fun b h => h.elim), L⟩
 · refine ⟨_, _, _, _, _, _, Btw w.heap.size w'.heap.size, rfl, fun hmb => ?_, fun b h => h, L⟩
   rw [hlb] at hb
   have hll : (ZcN x.1 x.2 (Zb4 x.1 m.2 3) m.1).length = x.1.length + 1 := Zc3 ..
   have hwb : ZR (x.1 ++ [m]) (ZcN x.1 x.2 (Zb4 x.1 m.2 3) m.1) = true := ZdO hw hb (Zck (Zt hw))
   obtain ⟨-, -, h60, hx60⟩ := Za6 hwb
   have hr := Zez.ow (ls := ZcN x.1 x.2 (Zb4 x.1 m.2 3) m.1) (by rw [hll]; exact ho) hb (by rw [hll, List.length_append, List.length_singleton]) (by omega) (fun i => by have := hx60 i; omega)
   rw [hll, List.length_append, List.length_singleton] at hr
   exact hr
def ZdB (d : Int) : Nat := (ZfO (Zae d)).toNat + 1
def Zdi (m : Mk) (ts : List Wb) (d : Int) : Bool := ZeF m ts (ZdB d)
def Zct (m : Mk) (ts : List Wb) (d : Int) : Int := if Zdi m ts d = true then Zae d else d
def ZbE (m : Mk) (ts : List Wb) (d : Int) : List Wb := if Zdi m ts d = true then Zek m ts (ZdB d) else ts
theorem Zem {d : Int} (h : inR d 0 1000002 = true) : ZfO (Zae d) = ((ZdB d : Nat) : Int) - 1 /\ 1 <= ZdB d /\ ZdB d <= 4 := by
 have hr : inR (Zae d) 0 1000002 = true := by have := Zhe h; simp [inR]; omega
 have h1 := Zhd hr
 have h3 := ZnP 3 (Zae d)
 unfold ZdB
 rw [h1]
 omega
theorem ZeG {d : Int} {ts : List Wb} (h : ZN d ts = true) : inR d 0 1000002 = true := by
 unfold ZN at h; rw [Bool.and_eq_true] at h; exact h.1
theorem Zht (aw at' : Option Addr) (cw ct : Nat) (d : Int) (ts : List Wb) (m : Mk) (w : World) (hv : ZG true w aw ts) (ha : Zq w at' m.2) (hal : m.2.length <= 1048576) (hok : ZN d ts = true) (hsm : Zaf ts) :
 Calls Tryz.prog 110 #[.agg #[.int .i64 d, .slice aw ts.length cw], .agg #[.int .i64 m.1, .slice at' m.2.length ct]] w fun e w' => ∃ vt, e = .returned (.tuple #[.agg #[.int .i64 (Zct m ts d), vt], .bool (Zdi m ts d)]) /\ ZgV w.heap.size w' vt (ZbE m ts d) /\ Below w.heap.size w w' := by
 obtain ⟨W1, hW1⟩ : ∃ W, w.alloc (.cells #[.int .i64 d, .slice aw ts.length cw] 26) = W := ⟨_, rfl⟩
 obtain ⟨W2, hW2⟩ : ∃ W, W1.alloc (.cells #[.int .i64 m.1, .slice at' m.2.length ct] 29) = W := ⟨_, rfl⟩
 obtain ⟨W, hW⟩ : ∃ W, W2.alloc (.cells #[.int .i64 0, .slice none 0 0] 26) = W := ⟨_, rfl⟩
 have s1 : W1.heap.size = w.heap.size + 1 := by rw [<- hW1]; simp
 have s2 : W2.heap.size = w.heap.size + 1 + 1 := by rw [<- hW2]; simp [s1]
 have s3 : W.heap.size = w.heap.size + 1 + 1 + 1 := by rw [<- hW]; simp [s2]
 have b1 : Below w.heap.size w W1 := by rw [<- hW1]; exact (Below.refl _ _).alloc (Nat.le_refl _) _
 have b2 : Below W1.heap.size W1 W2 := by rw [<- hW2]; exact (Below.refl _ _).alloc (Nat.le_refl _) _
 have b3 : Below W2.heap.size W2 W := by rw [<- hW]; exact (Below.refl _ _).alloc (Nat.le_refl _) _
 have t0 : Two W w.heap.size (.int .i64 d) (.slice aw ts.length cw) 26 := by
  have : Two W1 w.heap.size (.int .i64 d) (.slice aw ts.length cw) 26 := by rw [<- hW1]; exact Two.new w _ _ _
  exact (this.below b2).below b3
 have t1 : Two W (w.heap.size + 1) (.int .i64 m.1) (.slice at' m.2.length ct) 29 := by
  have : Two W2 (w.heap.size + 1) (.int .i64 m.1) (.slice at' m.2.length ct) 29 := by rw [<- hW2, <- s1]; exact Two.new W1 _ _ _
  exact this.below b3
 have t2 : Two W (w.heap.size + 1 + 1) (.int .i64 0) (.slice none 0 0) 26 := by rw [<- hW, <- s2]; exact Two.new W2 _ _ _
 have hB := Zb (Zb b1 b2) b3
 have HB := Za hB
 have HV := Za (fun W' (L : Below W.heap.size W W') => hv.next (Zb hB L))
 have HM := Za (fun W' (L : Below W.heap.size W W') => (ha.below (Nat.le_refl _) hB).below (Nat.le_refl _) L)
 have HT0 := Za t0
 have HT1 := Za t1
 have HT2 := Za t2
 have HSZ := Za s3
 have HOK := Za (And.intro hok (And.intro hsm hal))
 obtain ⟨hlv, hn1, hn4⟩ := Zem (ZeG hok)
 have H4 : Hid (ts.length = 4) := (Zad hok).1
 have HLV := Za hlv
 have HCY := Za (fun W' (L : Below W.heap.size W W') => ZoF true aw cw d ts W' (hv.next (Zb hB L)) hok)
 have k0 := t0.c0
 have k1 := t0.c1
 have HWW : Hid (((w.alloc (.cells #[.int .i64 d, .slice aw ts.length cw] 26)).alloc (.cells #[.int .i64 m.1, .slice at' m.2.length ct] 29)).alloc (.cells #[.int .i64 0, .slice none 0 0] 26) = W) := by show _ = _; rw [hW1, hW2, hW]
 obtain ⟨N, hN⟩ : ∃ N, ZdB d = N := ⟨_, rfl⟩
 have HN := Za hN
 rw [hN] at hlv hn1 hn4 HLV
 clear hv ha hok hsm hal hB b1 b2 b3 t0 t1 t2 s1 s2 s3 hW hW1 hW2 hN hlv
 go_enter Tryz.func110, Tryz.ntmps110
 go_upto_region 1 with fail
 rw [HWW.out]
 clear HWW
 go_wp2_with fail
 refine (HCY.out W (Below.refl _ _)).mono ?_
 rintro e w1 ⟨vt, rfl, ⟨S0, vm0, vl0, ht⟩, L1⟩
 clear k0 k1
 obtain ⟨g, c, rfl, hg1, hg2, hgc, -⟩ := ht.nonil (by have := H4.out; omega)
 have hS0 : ∀ i b, i < ts.length -> S0 i b -> b < w1.heap.size := fun i b hi hb => (ht.webs i hi).bnd b hb
 obtain ⟨w2, hw2⟩ : ∃ w2, w1.alloc (.cells #[.int .i64 d, .slice (some ⟨g, 0, none⟩) ts.length c] 26) = w2 := ⟨_, rfl⟩
 have L2 : Below w1.heap.size w1 w2 := by rw [<- hw2]; exact (Below.refl _ _).alloc (Nat.le_refl _) _
 have tO : Two w2 w1.heap.size (.int .i64 d) (.slice (some ⟨g, 0, none⟩) ts.length c) 26 := by rw [<- hw2]; exact Two.new w1 _ _ _
 obtain ⟨O, hO⟩ : ∃ O, w1.heap.size = O := ⟨_, rfl⟩
 have hWO : W.heap.size <= O := by have := L1.size; omega
 have HL2 := Za (Zb L1 L2)
 have HTS := Za (ht.next L2)
 have HQ2 := Za hw2
 rw [hO] at tO hS0 hg2
 have HTO := Za tO
 have HS0 : Hid ((∀ i b, i < ts.length -> S0 i b -> b ≠ O) /\ g ≠ O) := ⟨fun i b hi hb => by have := hS0 i b hi hb; omega, by omega⟩
 have k0 := (HT0.out.below HL2.out).c0
 have o0 := tO.c0
 have of0 := tO.frozen 0
 have HRL := Za (Zkc d w2)
 clear ht L1 L2 hw2 hS0 tO
 go_upto_region 2 with fail
 first | rw [HQ2.out] | skip
 first | rw [hO] | skip
 clear HQ2
 go_wp2_with fail
 refine HRL.out.mono ?_
 rintro e w3' ⟨rfl, hw3e⟩
 subst hw3e
 obtain ⟨w3, hw3⟩ : ∃ w3, w3'.setCell ⟨O, 0, none⟩ (.int .i64 (Zae d)) = w3 := ⟨_, rfl⟩
 have HTO3 : Hid (Two w3 O (.int .i64 (Zae d)) (.slice (some ⟨g, 0, none⟩) ts.length c) 26) := by show Two _ _ _ _ _; rw [<- hw3]; exact HTO.out.set0 _
 have HL3 : Hid (Below W.heap.size W w3) := by show Below _ _ _; rw [<- hw3]; exact HL2.out.setCell (by show W.heap.size <= O; exact hWO) _
 have HTS3 : Hid (TsR false W.heap.size w3 (.slice (some ⟨g, 0, none⟩) ts.length c) ts S0 vm0 vl0) := HTS.out.sm (by
  rw [<- hw3]
  refine ⟨by rw [Zc]; exact Nat.le_refl _, fun b hb => Below.heap_setCell _ ⟨O, 0, none⟩ _ b (fun e => ?_)⟩
  have e' : b = O := e
  rcases hb with hb | ⟨i, hi, hb⟩
  · injection hb with hb; exact HS0.out.2 (hb.trans e')
  · exact HS0.out.1 i b hi hb e')
 clear k0 hO
 go_wp2_with fail
 first | rw [hw3] | skip
 clear hw3 HTO HL2 HTS HRL o0 of0
 clear w3'
 go_loopg [7] N (fun gk iv wr => ∃ (k : Nat) (S : Nat -> Nat -> Prop) (vm vl : Nat -> Value), k <= N /\ N - k <= gk /\ iv = .int .i64 k /\ ZeF m ts k = true /\ TsR false W.heap.size wr (.slice (some ⟨g, 0, none⟩) ts.length c) (Zek m ts k) S vm vl /\ (∀ i b, i < ts.length -> S i b -> b ≠ O) /\ Two wr O (.int .i64 (Zae d)) (.slice (some ⟨g, 0, none⟩) ts.length c) 26 /\ Below W.heap.size W wr)
 case atStart => exact ⟨0, _, _, _, Nat.zero_le _, Nat.sub_le _ _, rfl, rfl, HTS3.out, HS0.out.1, HTO3.out, HL3.out⟩
 case round =>
  obtain ⟨k, S, vm, vl, hk, hgk, rfl, hrb, hp, hsb, hto, L⟩ := hrel
  have hx0 := hto.c0
  have HLE := Za (ZmD (Zae d) wr)
  rw [HLV.out] at HLE
  have HP := Za hp
  have HT := Za hto
  have HL := Za L
  have HSB := Za hsb
  have HRB := Za hrb
  clear hp hto L hsb hrb
  by_cases hlt : k < N
  · have hcond : ((k : Int) <= (N : Int) - 1) := by omega
    go_wp2_with fail
    refine HLE.out.mono ?_
    rintro e wo ⟨rfl, hwo⟩
    subst hwo
    have hVr := HV.out wo HL.out
    have hkt : k < ts.length := by have := H4.out; omega
    obtain ⟨wb, wof, am, cm, al, cl, rfl, hwb, c0, c1, hmv, hcv, hcap⟩ := hVr.web hkt
    have hweb := Zay HOK.out.1 (n := k) (by omega)
    have BLo := Za ((Below.refl wo.heap.size wo).drew)
    have HCo := Za (fun W' (L' : Below wo.heap.size wo W') => sLnkC am al at' cm cl ct (Ze ts k) m W' (hmv.next L') (hcv.next L') (HM.out W' (Zb HL.out L')) HOK.out.2.2 (hcap rfl).1 (hcap rfl).2 (HOK.out.2.1.2 k).1 (HOK.out.2.1.2 k).2 hweb)
    have hB0l := (HT0.out.below HL.out).lt
    have hB1l := (HT1.out.below HL.out).lt
    have HSo : Hid (∀ W', Below wo.heap.size wo W' -> W'.cell? ⟨w.heap.size, 1, none⟩ = some (.slice (some ⟨wb, wof, none⟩) ts.length cw) /\ W'.cell? ⟨wb, wof + k * 2, none⟩ = some (.slice am (Ze ts k).1.length cm) /\ W'.cell? ⟨wb, wof + k * 2 + 1, none⟩ = some (.slice al (Ze ts k).2.length cl) /\ W'.cell? ⟨w.heap.size + 1, 0, none⟩ = some (.int .i64 m.1) /\ W'.cell? ⟨w.heap.size + 1, 1, none⟩ = some (.slice at' m.2.length ct) /\ (0 : Int) <= (k : Int) /\ (k : Int) < (ts.length : Int)) := fun W' L' => ⟨((HT0.out.below HL.out).below L').c1, (L'.cell (p := ⟨wb, wof + k * 2, none⟩) hwb).trans c0, (L'.cell (p := ⟨wb, wof + k * 2 + 1, none⟩) hwb).trans c1, ((HT1.out.below HL.out).below L').c0, ((HT1.out.below HL.out).below L').c1, Int.natCast_nonneg _, by omega⟩
    obtain ⟨ml, hml⟩ : ∃ ml, (Ze ts k).1.length = ml := ⟨_, rfl⟩
    obtain ⟨ll, hll⟩ : ∃ ll, (Ze ts k).2.length = ll := ⟨_, rfl⟩
    rw [hml, hll] at HCo HSo
    clear hVr hmv hcv c0 c1 hcap hweb hx0 hml hll hwb
    go_wp2_with fail
    go_cut [8, 9] from 16 to 41 (fun v b wx => ∃ X a1 l1 c1 a2 l2 c2 F, v = .pointer (some ⟨X, 0, none⟩) /\ b = .bool (Zk ((Ze ts k).1 ++ [m])) /\ Two wx X (.slice a1 l1 c1) (.slice a2 l2 c2) 47 /\ (Zk ((Ze ts k).1 ++ [m]) = true -> OwW false F wx (.slice a1 l1 c1) (.slice a2 l2 c2) (Zhm m (Ze ts k)).1 (Zhm m (Ze ts k)).2) /\ (∀ b, F b -> wo.heap.size <= b) /\ wo.heap.size <= X /\ Below wo.heap.size wo wx)
    case first =>
     refine Zm (S := fun W' => Below wo.heap.size wo W') (fuel := 7) [0, 1, 2, 3, 4, 5] (by kernel_rfl) (by kernel_rfl) (by kernel_rfl) (by kernel_rfl) BLo.out (fun _ => ?_)
     iterate 6 (refine ⟨_, rfl, ?_⟩; apply Exists.intro; refine ⟨Or.inl ⟨by rfl, fun w' hw' => ?_⟩, ?_⟩; (focus (obtain ⟨e1, e2, e3, e4, e5, e6⟩ := HSo.out w' hw'; first | (go_simp; done) | (go_simp; with_reducible rfl))); simp only [Act.put, List.getElem_toArray, List.getElem_cons_succ, List.getElem_cons_zero, List.setIfInBounds_toArray, List.set_cons_zero, List.set_cons_succ])
     obtain ⟨wv0, hv0⟩ : ∃ w0, wo.drew = w0 := ⟨_, rfl⟩
     have B0 : Below wo.heap.size wo wv0 := by rw [<- hv0]; exact BLo.out
     have s0 : wo.heap.size <= wv0.heap.size := B0.size
     rw [hv0]
     clear hv0
     refine Z0 6 10 (by kernel_rfl) rfl rfl (fun K hK => ?_) (fun K hK => ?_)
     · go_simp
       refine (HCo.out wv0 B0).mono ?_
       rintro e w2 ⟨a1, l1, c1, a2, l2, c2, F, rfl, how, hF, L2⟩
       have LA := Zb B0 L2
       refine hK.out _ _ LA (fun hS4 => ?_)
       clear hK K
       refine Zn 3 [7, 8, 9] (by kernel_rfl) (by kernel_rfl) (by kernel_rfl) hS4 ?_
       iterate 3 (refine ⟨_, rfl, ?_⟩; apply Exists.intro; refine ⟨Or.inl ⟨by rfl, fun w' hw' => ?_⟩, ?_⟩; (focus (first | (go_simp; done) | (go_simp; with_reducible rfl))); simp only [Act.put, List.getElem_toArray, List.getElem_cons_succ, List.getElem_cons_zero, List.setIfInBounds_toArray, List.set_cons_zero, List.set_cons_succ])
       refine Zd 10 (by kernel_rfl) rfl (fun K hK => ?_)
       go_simp
       refine hK.out _ _ (LA.alloc LA.size _) (fun _ => ?_)
       clear hK K
       refine Zd 11 (by kernel_rfl) rfl (fun K hK => ?_)
       go_simp
       obtain ⟨wz, hwz⟩ : ∃ wz, w2.alloc (.cells #[(.slice a1 l1 c1), (.slice a2 l2 c2)] 47) = wz := ⟨_, rfl⟩
       have LZ : Below w2.heap.size w2 wz := by rw [<- hwz]; exact (Below.refl _ _).alloc (Nat.le_refl _) _
       have HLZ := Za (Zb LA LZ)
       have HTZ : Hid (Two wz w2.heap.size (.slice a1 l1 c1) (.slice a2 l2 c2) 47) := by show Two _ _ _ _ _; rw [<- hwz]; exact Two.new w2 _ _ _
       have HOZ := Za (fun h => (how h).next LZ)
       have HFZ : Hid ((∀ b, F b -> wo.heap.size <= b) /\ wo.heap.size <= w2.heap.size) := ⟨fun b hb => by have := (hF b hb).1; omega, LA.size⟩
       rw [hwz]
       refine hK.out _ _ HLZ.out (fun hS9 => ?_)
       clear hK K hwz how hF LA L2 LZ
       refine Zv [12] rfl (by kernel_rfl) (by kernel_rfl) (by kernel_rfl) hS9 ?_
       iterate 1 (refine ⟨_, rfl, ?_⟩; apply Exists.intro; refine ⟨Or.inl ⟨by rfl, fun w' hw' => ?_⟩, ?_⟩; (focus (first | (go_simp; done) | (go_simp; with_reducible rfl))); simp only [Act.put, List.getElem_toArray, List.getElem_cons_succ, List.getElem_cons_zero, List.setIfInBounds_toArray, List.set_cons_zero, List.set_cons_succ])
       refine NoPanic.normal (NoPanic.normal ?_)
       go_wp2_with fail
       go_meet
       exact ⟨_, a1, l1, c1, a2, l2, c2, F, rfl, rfl, HTZ.out, HOZ.out, HFZ.out.1, HFZ.out.2, HLZ.out⟩
     · go_simp
       obtain ⟨Wx, hWx⟩ : ∃ W', wv0.alloc (.cells #[.slice none 0 0, .slice none 0 0] 47) = W' := ⟨_, rfl⟩
       obtain ⟨Xb, hXb⟩ : ∃ q, wv0.heap.size = q := ⟨_, rfl⟩
       have LX : Below wo.heap.size wo Wx := by rw [<- hWx]; exact B0.alloc s0 _
       have hTX : Two Wx Xb (.slice none 0 0) (.slice none 0 0) 47 := by rw [<- hWx, <- hXb]; exact Two.new wv0 _ _ _
       have hXo : wo.heap.size <= Xb := by omega
       have hXl := hTX.lt
       first | rw [hWx] | skip
       first | rw [hXb] | skip
       refine hK.out _ _ LX (fun _ => ?_)
       clear hK K hWx
       refine Zd 6 (by kernel_rfl) rfl (fun K hK => ?_)
       go_simp
       refine (HCo.out Wx LX).mono ?_
       rintro e w2 ⟨a1, l1, c1, a2, l2, c2, F, rfl, how, hF, L2⟩
       have LA := Zb LX L2
       have hT4 := hTX.below L2
       refine hK.out _ _ LA (fun hS4 => ?_)
       clear hK K
       refine Zn 2 [7, 8, 9] (by kernel_rfl) (by kernel_rfl) (by kernel_rfl) hS4 ?_
       iterate 3 (refine ⟨_, rfl, ?_⟩; apply Exists.intro; refine ⟨Or.inl ⟨by rfl, fun w' hw' => ?_⟩, ?_⟩; (focus (first | (go_simp; done) | (go_simp; with_reducible rfl))); simp only [Act.put, List.getElem_toArray, List.getElem_cons_succ, List.getElem_cons_zero, List.setIfInBounds_toArray, List.set_cons_zero, List.set_cons_succ])
       have x0 := hT4.c0
       have x1 := hT4.c1
       have xf0 := hT4.frozen 0
       have xf1 := hT4.frozen 1
       refine Zd 11 (by kernel_rfl) rfl (fun K hK => ?_)
       go_simp
       have HLZ := Za ((LA.setCell (by show wo.heap.size <= Xb; exact hXo) (.slice a1 l1 c1) : Below wo.heap.size wo (w2.setCell ⟨Xb, 0, none⟩ (.slice a1 l1 c1))).setCell (by show wo.heap.size <= Xb; exact hXo) (.slice a2 l2 c2) : Below wo.heap.size wo ((w2.setCell ⟨Xb, 0, none⟩ (.slice a1 l1 c1)).setCell ⟨Xb, 1, none⟩ (.slice a2 l2 c2)))
       have HTZ := Za ((hT4.set0 (.slice a1 l1 c1)).set1 (.slice a2 l2 c2))
       have HOZ := Za (fun h => (how h).sm (w' := (w2.setCell ⟨Xb, 0, none⟩ (.slice a1 l1 c1)).setCell ⟨Xb, 1, none⟩ (.slice a2 l2 c2)) ⟨by rw [Zc, Zc]; exact Nat.le_refl _, fun b hb => (Below.heap_setCell _ ⟨Xb, 1, none⟩ _ b (fun e => by have e' : b = Xb := e; have := (hF b hb).1; omega)).trans (Below.heap_setCell _ ⟨Xb, 0, none⟩ _ b (fun e => by have e' : b = Xb := e; have := (hF b hb).1; omega))⟩)
       have HFZ : Hid (∀ b, F b -> wo.heap.size <= b) := fun b hb => by have := (hF b hb).1; omega
       clear how hF
       generalize (w2.setCell ⟨Xb, 0, none⟩ (.slice a1 l1 c1)).setCell ⟨Xb, 1, none⟩ (.slice a2 l2 c2) = wz at *
       refine hK.out _ _ HLZ.out (fun hS9 => ?_)
       clear hK K x0 x1 xf0 xf1 LA L2 hT4
       refine Zv [12] rfl (by kernel_rfl) (by kernel_rfl) (by kernel_rfl) hS9 ?_
       iterate 1 (refine ⟨_, rfl, ?_⟩; apply Exists.intro; refine ⟨Or.inl ⟨by rfl, fun w' hw' => ?_⟩, ?_⟩; (focus (first | (go_simp; done) | (go_simp; with_reducible rfl))); simp only [Act.put, List.getElem_toArray, List.getElem_cons_succ, List.getElem_cons_zero, List.setIfInBounds_toArray, List.set_cons_zero, List.set_cons_succ])
       refine NoPanic.normal (NoPanic.normal ?_)
       go_wp2_with fail
       go_meet
       exact ⟨Xb, a1, l1, c1, a2, l2, c2, F, rfl, rfl, HTZ.out, HOZ.out, HFZ.out, hXo, HLZ.out⟩
    case rest =>
     obtain ⟨X, a1, l1, c1, a2, l2, c2, F, rfl, rfl, hTX, hOW, hFX, hXW, LW⟩ := hcut
     generalize hwc : wc = w5 at *
     clear hwc wc HCo HSo BLo HLE
     have HL5 := Za (Zb HL.out LW)
     have HP5 := Za (HP.out.next LW)
     have HT5 := Za (HT.out.below LW)
     rcases hmb : Zk ((Ze ts k).1 ++ [m]) with _ | _
     · have t05 := HT0.out.below HL5.out
       have k0 := t05.c0
       have k1 := t05.c1
       have HCY5 := Za (HCY.out w5 HL5.out)
       have HNO : Hid (Zdi m ts d = false) := Zkj hmb (by rw [HN.out]; exact hlt)
       clear hOW hTX t05
       go_wp2_with fail
       refine HCY5.out.mono ?_
       rintro e w6 ⟨vt, rfl, hcp, L6⟩
       obtain ⟨va, vc, rfl⟩ : ∃ va vc, vt = .slice va ts.length vc := by obtain ⟨_, _, _, h⟩ := hcp; obtain ⟨a, c, e, -⟩ := h.form; exact ⟨a, c, e⟩
       have t26 := HT2.out.below (Zb HL5.out L6)
       have r0 := t26.c0
       have r1 := t26.c1
       have rf0 := t26.frozen 0
       have rf1 := t26.frozen 1
       have t27 := (t26.set0 (.int .i64 d)).set1 (.slice va ts.length vc)
       have q0 := t27.c0
       have q1 := t27.c1
       obtain ⟨S1, vm1, vl1, hts1⟩ := hcp
       have hz5 := HL5.out.size
       have hsz := HSZ.out
       have HTF := Za ((hts1.sm (w' := (w6.setCell ⟨w.heap.size + 1 + 1, 0, none⟩ (.int .i64 d)).setCell ⟨w.heap.size + 1 + 1, 1, none⟩ (.slice va ts.length vc)) ⟨by rw [Zc, Zc]; exact Nat.le_refl _, fun b hb => (Below.heap_setCell _ ⟨w.heap.size + 1 + 1, 1, none⟩ _ b (fun e => by have e' : b = w.heap.size + 1 + 1 := e; have := (hts1.bnd b hb).1; omega)).trans (Below.heap_setCell _ ⟨w.heap.size + 1 + 1, 0, none⟩ _ b (fun e => by have e' : b = w.heap.size + 1 + 1 := e; have := (hts1.bnd b hb).1; omega))⟩).lowm (base' := w.heap.size) (by omega))
       have HLF := Za (((Zb HB.out (Zb HL5.out L6)).setCell (by show w.heap.size <= w.heap.size + 1 + 1; omega) (.int .i64 d)).setCell (by show w.heap.size <= w.heap.size + 1 + 1; omega) (.slice va ts.length vc) : Below w.heap.size w ((w6.setCell ⟨w.heap.size + 1 + 1, 0, none⟩ (.int .i64 d)).setCell ⟨w.heap.size + 1 + 1, 1, none⟩ (.slice va ts.length vc)))
       clear hts1 t26 t27 L6 k0 k1
       go_wp2_with fail
       refine bodyPost_ret (v := .tuple #[.agg #[.int .i64 d, (.slice va ts.length vc)], .bool false]) (by simp [results, Tryz.results110, go_sem, q0, q1]) rfl ?_
       refine ⟨(.slice va ts.length vc), ?_, ⟨S1, vm1, vl1, ?_⟩, HLF.out⟩
       · unfold Zct; rw [HNO.out]; rfl
       · unfold ZbE; rw [HNO.out]; exact HTF.out
     · have HOW := Za (hOW hmb)
       have HMB := Za hmb
       have hRL := ZbC m ts k
       have hPL := HP.out
       rw [<- hRL] at hPL
       have HPU := Za (hPL.put LW (k := k) (by rw [hRL]; exact hkt) HOW.out hFX HL.out.size)
       rw [hRL] at HPU
       have hcl : ∀ i, i < (Zek m ts k).length -> w5.cell? ⟨g, i * 2, none⟩ = some (vm i) /\ w5.cell? ⟨g, i * 2 + 1, none⟩ = some (vl i) /\ ∀ j, w5.frozen? ⟨g, j, none⟩ = false := by
        obtain ⟨g', c', hge, -, -, -, hcl⟩ := (HP5.out).nonil (by rw [hRL]; omega)
        injection hge with h1 h2 h3
        injection h1 with h1
        injection h1 with h1
        subst h1
        exact hcl
       obtain ⟨e0, e1, ef⟩ := hcl k (by rw [hRL]; exact hkt)
       have f0 := ef (k * 2)
       have f1 := ef (k * 2 + 1)
       have o1 := HT5.out.c1
       have x0 := hTX.c0
       have x1 := hTX.c1
       have hi0 : (0 : Int) <= (k : Int) := Int.natCast_nonneg _
       have hi1 : (k : Int) < (ts.length : Int) := by omega
       have hgo : g ≠ O := HS0.out.2
       have HE : Hid (Two ((w5.setCell ⟨g, k * 2, none⟩ (.slice a1 l1 c1)).setCell ⟨g, k * 2 + 1, none⟩ (.slice a2 l2 c2)) O (.int .i64 (Zae d)) (.slice (some ⟨g, 0, none⟩) ts.length c) 26 /\ Below W.heap.size W ((w5.setCell ⟨g, k * 2, none⟩ (.slice a1 l1 c1)).setCell ⟨g, k * 2 + 1, none⟩ (.slice a2 l2 c2))) :=
        ⟨(HT5.out.far hgo _).far hgo _, (HL5.out.setCell (by show W.heap.size <= g; exact hg1) _).setCell (by show W.heap.size <= g; exact hg1) _⟩
       have hOl := HT.out.lt
       have HSN : Hid (∀ i b, i < ts.length -> Zb2 S k F i b -> b ≠ O) := fun i b hi hb => by
        unfold Zb2 at hb
        by_cases e : i = k
        · rw [if_pos e] at hb; have := hFX b hb; omega
        · rw [if_neg e] at hb; exact HSB.out i b hi hb
       have HRN := Za (Zio HRB.out hmb)
       clear hPL hRL hcl ef hOW hTX HP HT HL HP5 HT5 HL5 LW
       go_wp2_with fail
       go_roundg (N - (k + 1))
       case rel => exact ⟨k + 1, _, _, _, by omega, Nat.le_refl _, by go_num, HRN.out, HPU.out, HSN.out, HE.out.1, HE.out.2⟩
       case measure => omega
  · obtain rfl : k = N := by omega
    have hcond : ¬ ((k : Int) <= (k : Int) - 1) := by omega
    have HYES : Hid (Zdi m ts d = true) := by show ZeF m ts (ZdB d) = true; rw [HN.out]; exact HRB.out
    have t2 := HT2.out.below HL.out
    have r0 := t2.c0
    have r1 := t2.c1
    have rf0 := t2.frozen 0
    have rf1 := t2.frozen 1
    have x1 := HT.out.c1
    have t3 := (t2.set0 (.int .i64 (Zae d))).set1 (.slice (some ⟨g, 0, none⟩) ts.length c)
    have q0 := t3.c0
    have q1 := t3.c1
    have hz := HL.out.size
    have hsz := HSZ.out
    have HTF := Za ((HP.out.sm (w' := (wr.setCell ⟨w.heap.size + 1 + 1, 0, none⟩ (.int .i64 (Zae d))).setCell ⟨w.heap.size + 1 + 1, 1, none⟩ (.slice (some ⟨g, 0, none⟩) ts.length c)) ⟨by rw [Zc, Zc]; exact Nat.le_refl _, fun b hb => (Below.heap_setCell _ ⟨w.heap.size + 1 + 1, 1, none⟩ _ b (fun e => by have e' : b = w.heap.size + 1 + 1 := e; have := (HP.out.bnd b hb).1; omega)).trans (Below.heap_setCell _ ⟨w.heap.size + 1 + 1, 0, none⟩ _ b (fun e => by have e' : b = w.heap.size + 1 + 1 := e; have := (HP.out.bnd b hb).1; omega))⟩).lowm (base' := w.heap.size) (by omega))
    have HLF := Za (((Zb HB.out HL.out).setCell (by show w.heap.size <= w.heap.size + 1 + 1; omega) (.int .i64 (Zae d))).setCell (by show w.heap.size <= w.heap.size + 1 + 1; omega) (.slice (some ⟨g, 0, none⟩) ts.length c) : Below w.heap.size w ((wr.setCell ⟨w.heap.size + 1 + 1, 0, none⟩ (.int .i64 (Zae d))).setCell ⟨w.heap.size + 1 + 1, 1, none⟩ (.slice (some ⟨g, 0, none⟩) ts.length c)))
    clear t2 t3
    go_wp2_with fail
    refine HLE.out.mono ?_
    rintro e wo ⟨rfl, hwo⟩
    subst hwo
    go_wp2_with fail
    refine bodyPost_ret (v := .tuple #[.agg #[.int .i64 (Zae d), .slice (some ⟨g, 0, none⟩) ts.length c], .bool true]) (by simp [results, Tryz.results110, go_sem, q0, q1]) rfl ?_
    refine ⟨.slice (some ⟨g, 0, none⟩) ts.length c, ?_, ⟨S, vm, vl, ?_⟩, HLF.out⟩
    · unfold Zct; rw [HYES.out]; rfl
    · unfold ZbE; rw [HYES.out, HN.out]; exact HTF.out
theorem Zhn {P : Program} {md : Region.Mode} {Q : Exit -> Act -> World -> Prop} {ops : Array Oper} {S : World -> Prop} {fuel : Nat} {listed : Array Bool} {a : Act} {w : World} {o o2 o3 : Oper} (i j l : Nat) (hr : Region.ready md ops listed = [i, j, l]) (ho : ops[i]? = some o) (ho2 : ops[j]? = some o2) (ho3 : ops[l]? = some o3)
 (h : ∀ K : Act -> World -> Prop, Shut (∀ a w, S w -> (S w -> wpAnyH P md ops Q S fuel (listed.setIfInBounds i true) a w) -> K a w) -> if Region.wanted o (yielded ops a.tmps) = true then Oper.wp P o a w K Q else K (a.put o.dst undef) w)
 (h2 : ∀ K : Act -> World -> Prop, Shut (∀ a w, S w -> (S w -> wpAnyH P md ops Q S fuel (listed.setIfInBounds j true) a w) -> K a w) -> if Region.wanted o2 (yielded ops a.tmps) = true then Oper.wp P o2 a w K Q else K (a.put o2.dst undef) w)
 (h3 : ∀ K : Act -> World -> Prop, Shut (∀ a w, S w -> (S w -> wpAnyH P md ops Q S fuel (listed.setIfInBounds l true) a w) -> K a w) -> if Region.wanted o3 (yielded ops a.tmps) = true then Oper.wp P o3 a w K Q else K (a.put o3.dst undef) w) : wpAnyH P md ops Q S (fuel + 1) listed a w :=
 wpAnyH_ready hr (by simp) (AllReadyH.cons ho h (AllReadyH.cons ho2 h2 (AllReadyH.cons ho3 h3 AllReadyH.nil)))
theorem Ziq (o : Bool) (b : Nat) (d : Int) (w : World) (ht : Thr w b o (if o then Zae d else d)) :
 Calls Tryz.prog 103 #[.pointer (some ⟨b, 0, none⟩)] w fun e w' => e = .returned (.int .i64 (Zae d)) /\ Thr w' b true (Zae d) /\ Cgd (fun i => i = b) w w' := by
 cases o
 · exact Zm0 b d w ht
 · exact (Zm1 b (Zae d) w ht).mono (fun _ _ ⟨e, L⟩ => ⟨e, Thr.sm ht (L.block b (Thr.lt ht)), Cgd.of L⟩)
theorem Zm2 (aw at' : Option Addr) (cw ct : Nat) (d : Int) (ts : List Wb) (m : Mk) (w : World) (hv : ZG true w aw ts) (ha : Zq w at' m.2) (hal : m.2.length <= 1048576) (hok : ZN d ts = true) (hsm : Zaf ts) :
 Calls Tryz.prog 14 #[.agg #[.int .i64 d, .slice aw ts.length cw], .agg #[.int .i64 m.1, .slice at' m.2.length ct]] w fun e w' => ∃ vt, e = .returned (.tuple #[.agg #[.int .i64 (Zct m ts d), vt], .bool (Zdi m ts d)]) /\ (∃ S vm vl, TsR true w.heap.size w' vt (ZbE m ts d) S vm vl) /\ Below w.heap.size w w' := by
 obtain ⟨W1, hW1⟩ : ∃ W, w.alloc (.cells #[.int .i64 d, .slice aw ts.length cw] 26) = W := ⟨_, rfl⟩
 obtain ⟨W2, hW2⟩ : ∃ W, W1.alloc (.cells #[.int .i64 m.1, .slice at' m.2.length ct] 29) = W := ⟨_, rfl⟩
 obtain ⟨W, hW⟩ : ∃ W, W2.alloc (.cells #[.int .i64 0, .slice none 0 0] 26) = W := ⟨_, rfl⟩
 have s1 : W1.heap.size = w.heap.size + 1 := by rw [<- hW1]; simp
 have s2 : W2.heap.size = w.heap.size + 1 + 1 := by rw [<- hW2]; simp [s1]
 have s3 : W.heap.size = w.heap.size + 1 + 1 + 1 := by rw [<- hW]; simp [s2]
 have b1 : Below w.heap.size w W1 := by rw [<- hW1]; exact (Below.refl _ _).alloc (Nat.le_refl _) _
 have b2 : Below W1.heap.size W1 W2 := by rw [<- hW2]; exact (Below.refl _ _).alloc (Nat.le_refl _) _
 have b3 : Below W2.heap.size W2 W := by rw [<- hW]; exact (Below.refl _ _).alloc (Nat.le_refl _) _
 have t0 : Two W w.heap.size (.int .i64 d) (.slice aw ts.length cw) 26 := by
  have : Two W1 w.heap.size (.int .i64 d) (.slice aw ts.length cw) 26 := by rw [<- hW1]; exact Two.new w _ _ _
  exact (this.below b2).below b3
 have t1 : Two W (w.heap.size + 1) (.int .i64 m.1) (.slice at' m.2.length ct) 29 := by
  have : Two W2 (w.heap.size + 1) (.int .i64 m.1) (.slice at' m.2.length ct) 29 := by rw [<- hW2, <- s1]; exact Two.new W1 _ _ _
  exact this.below b3
 have t2 : Two W (w.heap.size + 1 + 1) (.int .i64 0) (.slice none 0 0) 26 := by rw [<- hW, <- s2]; exact Two.new W2 _ _ _
 have hB := Zb (Zb b1 b2) b3
 have HB := Za hB
 have HV := Za (fun W' (L : Below W.heap.size W W') => hv.next (Zb hB L))
 have HM := Za (fun W' (L : Below W.heap.size W W') => (ha.below (Nat.le_refl _) hB).below (Nat.le_refl _) L)
 have HT0 := Za t0
 have HT1 := Za t1
 have HT2 := Za t2
 have HSZ := Za s3
 have HOK := Za (And.intro hok (And.intro hsm hal))
 obtain ⟨hlv, hn1, hn4⟩ := Zem (ZeG hok)
 have H4 : Hid (ts.length = 4) := (Zad hok).1
 have HLV := Za hlv
 have HCT := Za (fun W' (L : Below W.heap.size W W') => Zjx true aw cw d ts W' (hv.next (Zb hB L)) hok hsm)
 have HOKT := Za (Zdj aw cw d ts W (hv.next hB) hsm)
 rw [hok] at HOKT
 have k0 := t0.c0
 have k1 := t0.c1
 have HWW : Hid (((w.alloc (.cells #[.int .i64 d, .slice aw ts.length cw] 26)).alloc (.cells #[.int .i64 m.1, .slice at' m.2.length ct] 29)).alloc (.cells #[.int .i64 0, .slice none 0 0] 26) = W) := by show _ = _; rw [hW1, hW2, hW]
 obtain ⟨N, hN⟩ : ∃ N, ZdB d = N := ⟨_, rfl⟩
 have HN := Za hN
 rw [hN] at hlv hn1 hn4 HLV
 clear hv ha hok hsm hal hB b1 b2 b3 t0 t1 t2 s1 s2 s3 hW hW1 hW2 hN hlv
 go_enter Tryz.func14, Tryz.ntmps14
 go_upto_region 1 with fail
 rw [HWW.out]
 clear HWW
 go_wp2_with fail
 refine HOKT.out.mono ?_
 rintro e W0 ⟨rfl, L0⟩
 clear k0 k1 HOKT
 go_upto_region 3 with fail
 go_cut [6, 7] from 11 to 20 (fun v b wx => ∃ Rb Tb g c S0 vm0 vl0, v = .pointer (some ⟨Rb, 0, none⟩) /\ b = .pointer (some ⟨Tb, 0, none⟩) /\ Two wx Rb (.int .i64 d) (.slice (some ⟨g, 0, none⟩) ts.length c) 26 /\ Thr wx Tb false d /\ TsR true W.heap.size wx (.slice (some ⟨g, 0, none⟩) ts.length c) ts S0 vm0 vl0 /\ (∀ b, FtR (.slice (some ⟨g, 0, none⟩) ts.length c) ts.length S0 b -> b ≠ Rb /\ b ≠ Tb) /\ Rb ≠ Tb /\ W.heap.size <= Rb /\ W.heap.size <= Tb /\ Tb < wx.heap.size /\ Rb < wx.heap.size /\ Below W.heap.size W wx)
 case first =>
  have BLo := Za (L0.drew)
  have HSo : Hid (∀ W', Below W.heap.size W W' -> W'.cell? ⟨w.heap.size, 0, none⟩ = some (.int .i64 d) /\ W'.cell? ⟨w.heap.size, 1, none⟩ = some (.slice aw ts.length cw)) := fun W' L' => ⟨(HT0.out.below L').c0, (HT0.out.below L').c1⟩
  refine Zm (S := fun W' => Below W.heap.size W W') (fuel := 5) [0, 2, 3, 4] (by kernel_rfl) (by kernel_rfl) (by kernel_rfl) (by kernel_rfl) BLo.out (fun _ => ?_)
  iterate 4 (refine ⟨_, rfl, ?_⟩; apply Exists.intro; refine ⟨Or.inl ⟨by rfl, fun w' hw' => ?_⟩, ?_⟩; (focus (obtain ⟨e1, e2⟩ := HSo.out w' hw'; first | (go_simp; done) | (go_simp; with_reducible rfl))); simp only [Act.put, List.getElem_toArray, List.getElem_cons_succ, List.getElem_cons_zero, List.setIfInBounds_toArray, List.set_cons_zero, List.set_cons_succ])
  obtain ⟨wv0, hv0⟩ : ∃ w0, W0.drew = w0 := ⟨_, rfl⟩
  have Bwv0 : Below W.heap.size W wv0 := by rw [<- hv0]; exact BLo.out
  have swv0 : W.heap.size <= wv0.heap.size := Bwv0.size
  rw [hv0]
  clear hv0
  refine Zhn 1 5 6 (by kernel_rfl) rfl rfl rfl (fun K hK => ?_) (fun K hK => ?_) (fun K hK => ?_)
  · go_simp
    refine (HCT.out wv0 Bwv0).mono ?_
    rintro e u1 ⟨vt, rfl, ⟨S0, vm0, vl0, ht⟩, Lu1⟩
    obtain ⟨g, c, rfl, hg1, hg2, hgc, -⟩ := ht.nonil (by have := H4.out; omega)
    have hft : ∀ b, FtR (.slice (some ⟨g, 0, none⟩) ts.length c) ts.length S0 b -> wv0.heap.size <= b /\ b < u1.heap.size := fun b hb => ht.bnd b hb
    have su1 := Lu1.size
    have Bu1 := Zb Bwv0 Lu1
    refine hK.out _ _ Bu1 (fun _ => ?_)
    clear hK K
    refine Z0 5 6 (by kernel_rfl) rfl rfl (fun K hK => ?_) (fun K hK => ?_)
    · go_simp
      obtain ⟨u2, hu2⟩ : ∃ w0, u1.alloc (.cells #[.int .u32 0, .int .i32 0, .int .u32 0, .int .i64 d] 151) = w0 := ⟨_, rfl⟩
      have Lu2 : Below u1.heap.size u1 u2 := by rw [<- hu2]; exact (Below.refl _ _).alloc (Nat.le_refl _) _
      obtain ⟨Tb, hTb⟩ : ∃ q, u1.heap.size = q := ⟨_, rfl⟩
      have hT : Thr u2 Tb false d := by rw [<- hu2, <- hTb]; exact heap_alloc_new u1 _
      have sT := hT.lt
      first | rw [hu2] | skip
      first | rw [hTb] | skip
      have su2 := Lu2.size
      replace ht := ht.next Lu2
      have Bu2 := Zb Bu1 Lu2
      refine hK.out _ _ Bu2 (fun _ => ?_)
      clear hK K hu2
      refine Zd 6 (by kernel_rfl) rfl (fun K hK => ?_)
      · go_simp
        obtain ⟨u3, hu3⟩ : ∃ w0, u2.alloc (.cells #[.int .i64 0, .slice none 0 0] 26) = w0 := ⟨_, rfl⟩
        have Lu3 : Below u2.heap.size u2 u3 := by rw [<- hu3]; exact (Below.refl _ _).alloc (Nat.le_refl _) _
        obtain ⟨Rb, hRb⟩ : ∃ q, u2.heap.size = q := ⟨_, rfl⟩
        have hR : Two u3 Rb (.int .i64 0) (.slice none 0 0) 26 := by rw [<- hu3, <- hRb]; exact Two.new u2 _ _ _
        have sR := hR.lt
        first | rw [hu3] | skip
        first | rw [hRb] | skip
        have su3 := Lu3.size
        replace ht := ht.next Lu3
        replace hT := hT.sm (Lu3.block _ hT.lt)
        have Bu3 := Zb Bu2 Lu3
        refine hK.out _ _ Bu3 (fun _ => ?_)
        clear hK K hu3
        have x0 := hR.c0
        have x1 := hR.c1
        have xf0 := hR.frozen 0
        have xf1 := hR.frozen 1
        refine Zd 7 (by kernel_rfl) rfl (fun K hK => ?_)
        · go_simp
          obtain ⟨u4, hu4⟩ : ∃ wz, (u3.setCell ⟨Rb, 0, none⟩ (.int .i64 d)).setCell ⟨Rb, 1, none⟩ (.slice (some ⟨g, 0, none⟩) ts.length c) = wz := ⟨_, rfl⟩
          have far : ∀ b, b ≠ Rb -> u4.heap[b]? = u3.heap[b]? := fun b hb => by rw [<- hu4]; exact (Below.heap_setCell _ ⟨Rb, 1, none⟩ _ b (fun e => hb e)).trans (Below.heap_setCell _ ⟨Rb, 0, none⟩ _ b (fun e => hb e))
          have su4 : u3.heap.size = u4.heap.size := by rw [<- hu4, Zc, Zc]
          replace ht := ht.sm (w' := u4) ⟨by omega, fun b hb => far b (by have := hft b hb; omega)⟩
          have Bu4 : Below W.heap.size W u4 := by rw [<- hu4]; exact (Bu3.setCell (by show W.heap.size <= Rb; omega) _).setCell (by show W.heap.size <= Rb; omega) _
          replace hR : Two u4 Rb (.int .i64 d) (.slice (some ⟨g, 0, none⟩) ts.length c) 26 := by rw [<- hu4]; exact (hR.set0 _).set1 _
          first | rw [hu4] | skip
          replace hT := hT.sm (w' := u4) (far Tb (by omega))
          refine hK.out _ _ Bu4 (fun _ => ?_)
          clear hK K hu4 far x0 x1 xf0 xf1
          refine Zv [8] rfl (by kernel_rfl) (by kernel_rfl) (by kernel_rfl) Bu4 ?_
          iterate 1 (refine ⟨_, rfl, ?_⟩; apply Exists.intro; refine ⟨Or.inl ⟨by rfl, fun w' hw' => ?_⟩, ?_⟩; (focus (first | (go_simp; done) | (go_simp; with_reducible rfl))); simp only [Act.put, List.getElem_toArray, List.getElem_cons_succ, List.getElem_cons_zero, List.setIfInBounds_toArray, List.set_cons_zero, List.set_cons_succ])
          refine NoPanic.normal (NoPanic.normal ?_)
          have hTl := hT.lt
          have hRl := hR.lt
          go_wp2_with fail
          go_meet
          exact ⟨Rb, Tb, g, c, S0, vm0, vl0, rfl, rfl, hR, hT, ht.lowm (by omega), fun b hb => by have := hft b hb; omega, by omega, by omega, by omega, by omega, by omega, Bu4⟩
    · go_simp
      obtain ⟨u2, hu2⟩ : ∃ w0, u1.alloc (.cells #[.int .i64 0, .slice none 0 0] 26) = w0 := ⟨_, rfl⟩
      have Lu2 : Below u1.heap.size u1 u2 := by rw [<- hu2]; exact (Below.refl _ _).alloc (Nat.le_refl _) _
      obtain ⟨Rb, hRb⟩ : ∃ q, u1.heap.size = q := ⟨_, rfl⟩
      have hR : Two u2 Rb (.int .i64 0) (.slice none 0 0) 26 := by rw [<- hu2, <- hRb]; exact Two.new u1 _ _ _
      have sR := hR.lt
      first | rw [hu2] | skip
      first | rw [hRb] | skip
      have su2 := Lu2.size
      replace ht := ht.next Lu2
      have Bu2 := Zb Bu1 Lu2
      refine hK.out _ _ Bu2 (fun _ => ?_)
      clear hK K hu2
      have x0 := hR.c0
      have x1 := hR.c1
      have xf0 := hR.frozen 0
      have xf1 := hR.frozen 1
      refine Z0 5 7 (by kernel_rfl) rfl rfl (fun K hK => ?_) (fun K hK => ?_)
      · go_simp
        obtain ⟨u3, hu3⟩ : ∃ w0, u2.alloc (.cells #[.int .u32 0, .int .i32 0, .int .u32 0, .int .i64 d] 151) = w0 := ⟨_, rfl⟩
        have Lu3 : Below u2.heap.size u2 u3 := by rw [<- hu3]; exact (Below.refl _ _).alloc (Nat.le_refl _) _
        obtain ⟨Tb, hTb⟩ : ∃ q, u2.heap.size = q := ⟨_, rfl⟩
        have hT : Thr u3 Tb false d := by rw [<- hu3, <- hTb]; exact heap_alloc_new u2 _
        have sT := hT.lt
        first | rw [hu3] | skip
        first | rw [hTb] | skip
        have su3 := Lu3.size
        replace ht := ht.next Lu3
        replace hR := hR.below Lu3
        have Bu3 := Zb Bu2 Lu3
        refine hK.out _ _ Bu3 (fun _ => ?_)
        clear hK K hu3 x0 x1 xf0 xf1
        have x0 := hR.c0
        have x1 := hR.c1
        have xf0 := hR.frozen 0
        have xf1 := hR.frozen 1
        refine Zd 7 (by kernel_rfl) rfl (fun K hK => ?_)
        · go_simp
          obtain ⟨u4, hu4⟩ : ∃ wz, (u3.setCell ⟨Rb, 0, none⟩ (.int .i64 d)).setCell ⟨Rb, 1, none⟩ (.slice (some ⟨g, 0, none⟩) ts.length c) = wz := ⟨_, rfl⟩
          have far : ∀ b, b ≠ Rb -> u4.heap[b]? = u3.heap[b]? := fun b hb => by rw [<- hu4]; exact (Below.heap_setCell _ ⟨Rb, 1, none⟩ _ b (fun e => hb e)).trans (Below.heap_setCell _ ⟨Rb, 0, none⟩ _ b (fun e => hb e))
          have su4 : u3.heap.size = u4.heap.size := by rw [<- hu4, Zc, Zc]
          replace ht := ht.sm (w' := u4) ⟨by omega, fun b hb => far b (by have := hft b hb; omega)⟩
          have Bu4 : Below W.heap.size W u4 := by rw [<- hu4]; exact (Bu3.setCell (by show W.heap.size <= Rb; omega) _).setCell (by show W.heap.size <= Rb; omega) _
          replace hR : Two u4 Rb (.int .i64 d) (.slice (some ⟨g, 0, none⟩) ts.length c) 26 := by rw [<- hu4]; exact (hR.set0 _).set1 _
          first | rw [hu4] | skip
          replace hT := hT.sm (w' := u4) (far Tb (by omega))
          refine hK.out _ _ Bu4 (fun _ => ?_)
          clear hK K hu4 far x0 x1 xf0 xf1
          refine Zv [8] rfl (by kernel_rfl) (by kernel_rfl) (by kernel_rfl) Bu4 ?_
          iterate 1 (refine ⟨_, rfl, ?_⟩; apply Exists.intro; refine ⟨Or.inl ⟨by rfl, fun w' hw' => ?_⟩, ?_⟩; (focus (first | (go_simp; done) | (go_simp; with_reducible rfl))); simp only [Act.put, List.getElem_toArray, List.getElem_cons_succ, List.getElem_cons_zero, List.setIfInBounds_toArray, List.set_cons_zero, List.set_cons_succ])
          refine NoPanic.normal (NoPanic.normal ?_)
          have hTl := hT.lt
          have hRl := hR.lt
          go_wp2_with fail
          go_meet
          exact ⟨Rb, Tb, g, c, S0, vm0, vl0, rfl, rfl, hR, hT, ht.lowm (by omega), fun b hb => by have := hft b hb; omega, by omega, by omega, by omega, by omega, by omega, Bu4⟩
      · go_simp
        obtain ⟨u3, hu3⟩ : ∃ wz, (u2.setCell ⟨Rb, 0, none⟩ (.int .i64 d)).setCell ⟨Rb, 1, none⟩ (.slice (some ⟨g, 0, none⟩) ts.length c) = wz := ⟨_, rfl⟩
        have far : ∀ b, b ≠ Rb -> u3.heap[b]? = u2.heap[b]? := fun b hb => by rw [<- hu3]; exact (Below.heap_setCell _ ⟨Rb, 1, none⟩ _ b (fun e => hb e)).trans (Below.heap_setCell _ ⟨Rb, 0, none⟩ _ b (fun e => hb e))
        have su3 : u2.heap.size = u3.heap.size := by rw [<- hu3, Zc, Zc]
        replace ht := ht.sm (w' := u3) ⟨by omega, fun b hb => far b (by have := hft b hb; omega)⟩
        have Bu3 : Below W.heap.size W u3 := by rw [<- hu3]; exact (Bu2.setCell (by show W.heap.size <= Rb; omega) _).setCell (by show W.heap.size <= Rb; omega) _
        replace hR : Two u3 Rb (.int .i64 d) (.slice (some ⟨g, 0, none⟩) ts.length c) 26 := by rw [<- hu3]; exact (hR.set0 _).set1 _
        first | rw [hu3] | skip
        refine hK.out _ _ Bu3 (fun _ => ?_)
        clear hK K hu3 far x0 x1 xf0 xf1
        refine Zd 5 (by kernel_rfl) rfl (fun K hK => ?_)
        · go_simp
          obtain ⟨u4, hu4⟩ : ∃ w0, u3.alloc (.cells #[.int .u32 0, .int .i32 0, .int .u32 0, .int .i64 d] 151) = w0 := ⟨_, rfl⟩
          have Lu4 : Below u3.heap.size u3 u4 := by rw [<- hu4]; exact (Below.refl _ _).alloc (Nat.le_refl _) _
          obtain ⟨Tb, hTb⟩ : ∃ q, u3.heap.size = q := ⟨_, rfl⟩
          have hT : Thr u4 Tb false d := by rw [<- hu4, <- hTb]; exact heap_alloc_new u3 _
          have sT := hT.lt
          first | rw [hu4] | skip
          first | rw [hTb] | skip
          have su4 := Lu4.size
          replace ht := ht.next Lu4
          replace hR := hR.below Lu4
          have Bu4 := Zb Bu3 Lu4
          refine hK.out _ _ Bu4 (fun _ => ?_)
          clear hK K hu4
          refine Zv [8] rfl (by kernel_rfl) (by kernel_rfl) (by kernel_rfl) Bu4 ?_
          iterate 1 (refine ⟨_, rfl, ?_⟩; apply Exists.intro; refine ⟨Or.inl ⟨by rfl, fun w' hw' => ?_⟩, ?_⟩; (focus (first | (go_simp; done) | (go_simp; with_reducible rfl))); simp only [Act.put, List.getElem_toArray, List.getElem_cons_succ, List.getElem_cons_zero, List.setIfInBounds_toArray, List.set_cons_zero, List.set_cons_succ])
          refine NoPanic.normal (NoPanic.normal ?_)
          have hTl := hT.lt
          have hRl := hR.lt
          go_wp2_with fail
          go_meet
          exact ⟨Rb, Tb, g, c, S0, vm0, vl0, rfl, rfl, hR, hT, ht.lowm (by omega), fun b hb => by have := hft b hb; omega, by omega, by omega, by omega, by omega, by omega, Bu4⟩
  · go_simp
    obtain ⟨u1, hu1⟩ : ∃ w0, wv0.alloc (.cells #[.int .u32 0, .int .i32 0, .int .u32 0, .int .i64 d] 151) = w0 := ⟨_, rfl⟩
    have Lu1 : Below wv0.heap.size wv0 u1 := by rw [<- hu1]; exact (Below.refl _ _).alloc (Nat.le_refl _) _
    obtain ⟨Tb, hTb⟩ : ∃ q, wv0.heap.size = q := ⟨_, rfl⟩
    have hT : Thr u1 Tb false d := by rw [<- hu1, <- hTb]; exact heap_alloc_new wv0 _
    have sT := hT.lt
    first | rw [hu1] | skip
    first | rw [hTb] | skip
    have su1 := Lu1.size
    have Bu1 := Zb Bwv0 Lu1
    refine hK.out _ _ Bu1 (fun _ => ?_)
    clear hK K hu1
    refine Z0 1 6 (by kernel_rfl) rfl rfl (fun K hK => ?_) (fun K hK => ?_)
    · go_simp
      refine (HCT.out u1 Bu1).mono ?_
      rintro e u2 ⟨vt, rfl, ⟨S0, vm0, vl0, ht⟩, Lu2⟩
      obtain ⟨g, c, rfl, hg1, hg2, hgc, -⟩ := ht.nonil (by have := H4.out; omega)
      have hft : ∀ b, FtR (.slice (some ⟨g, 0, none⟩) ts.length c) ts.length S0 b -> u1.heap.size <= b /\ b < u2.heap.size := fun b hb => ht.bnd b hb
      have su2 := Lu2.size
      replace hT := hT.sm (Lu2.block _ hT.lt)
      have Bu2 := Zb Bu1 Lu2
      refine hK.out _ _ Bu2 (fun _ => ?_)
      clear hK K
      refine Zd 6 (by kernel_rfl) rfl (fun K hK => ?_)
      · go_simp
        obtain ⟨u3, hu3⟩ : ∃ w0, u2.alloc (.cells #[.int .i64 0, .slice none 0 0] 26) = w0 := ⟨_, rfl⟩
        have Lu3 : Below u2.heap.size u2 u3 := by rw [<- hu3]; exact (Below.refl _ _).alloc (Nat.le_refl _) _
        obtain ⟨Rb, hRb⟩ : ∃ q, u2.heap.size = q := ⟨_, rfl⟩
        have hR : Two u3 Rb (.int .i64 0) (.slice none 0 0) 26 := by rw [<- hu3, <- hRb]; exact Two.new u2 _ _ _
        have sR := hR.lt
        first | rw [hu3] | skip
        first | rw [hRb] | skip
        have su3 := Lu3.size
        replace ht := ht.next Lu3
        replace hT := hT.sm (Lu3.block _ hT.lt)
        have Bu3 := Zb Bu2 Lu3
        refine hK.out _ _ Bu3 (fun _ => ?_)
        clear hK K hu3
        have x0 := hR.c0
        have x1 := hR.c1
        have xf0 := hR.frozen 0
        have xf1 := hR.frozen 1
        refine Zd 7 (by kernel_rfl) rfl (fun K hK => ?_)
        · go_simp
          obtain ⟨u4, hu4⟩ : ∃ wz, (u3.setCell ⟨Rb, 0, none⟩ (.int .i64 d)).setCell ⟨Rb, 1, none⟩ (.slice (some ⟨g, 0, none⟩) ts.length c) = wz := ⟨_, rfl⟩
          have far : ∀ b, b ≠ Rb -> u4.heap[b]? = u3.heap[b]? := fun b hb => by rw [<- hu4]; exact (Below.heap_setCell _ ⟨Rb, 1, none⟩ _ b (fun e => hb e)).trans (Below.heap_setCell _ ⟨Rb, 0, none⟩ _ b (fun e => hb e))
          have su4 : u3.heap.size = u4.heap.size := by rw [<- hu4, Zc, Zc]
          replace ht := ht.sm (w' := u4) ⟨by omega, fun b hb => far b (by have := hft b hb; omega)⟩
          have Bu4 : Below W.heap.size W u4 := by rw [<- hu4]; exact (Bu3.setCell (by show W.heap.size <= Rb; omega) _).setCell (by show W.heap.size <= Rb; omega) _
          replace hR : Two u4 Rb (.int .i64 d) (.slice (some ⟨g, 0, none⟩) ts.length c) 26 := by rw [<- hu4]; exact (hR.set0 _).set1 _
          first | rw [hu4] | skip
          replace hT := hT.sm (w' := u4) (far Tb (by omega))
          refine hK.out _ _ Bu4 (fun _ => ?_)
          clear hK K hu4 far x0 x1 xf0 xf1
          refine Zv [8] rfl (by kernel_rfl) (by kernel_rfl) (by kernel_rfl) Bu4 ?_
          iterate 1 (refine ⟨_, rfl, ?_⟩; apply Exists.intro; refine ⟨Or.inl ⟨by rfl, fun w' hw' => ?_⟩, ?_⟩; (focus (first | (go_simp; done) | (go_simp; with_reducible rfl))); simp only [Act.put, List.getElem_toArray, List.getElem_cons_succ, List.getElem_cons_zero, List.setIfInBounds_toArray, List.set_cons_zero, List.set_cons_succ])
          refine NoPanic.normal (NoPanic.normal ?_)
          have hTl := hT.lt
          have hRl := hR.lt
          go_wp2_with fail
          go_meet
          exact ⟨Rb, Tb, g, c, S0, vm0, vl0, rfl, rfl, hR, hT, ht.lowm (by omega), fun b hb => by have := hft b hb; omega, by omega, by omega, by omega, by omega, by omega, Bu4⟩
    · go_simp
      obtain ⟨u2, hu2⟩ : ∃ w0, u1.alloc (.cells #[.int .i64 0, .slice none 0 0] 26) = w0 := ⟨_, rfl⟩
      have Lu2 : Below u1.heap.size u1 u2 := by rw [<- hu2]; exact (Below.refl _ _).alloc (Nat.le_refl _) _
      obtain ⟨Rb, hRb⟩ : ∃ q, u1.heap.size = q := ⟨_, rfl⟩
      have hR : Two u2 Rb (.int .i64 0) (.slice none 0 0) 26 := by rw [<- hu2, <- hRb]; exact Two.new u1 _ _ _
      have sR := hR.lt
      first | rw [hu2] | skip
      first | rw [hRb] | skip
      have su2 := Lu2.size
      replace hT := hT.sm (Lu2.block _ hT.lt)
      have Bu2 := Zb Bu1 Lu2
      refine hK.out _ _ Bu2 (fun _ => ?_)
      clear hK K hu2
      refine Zd 1 (by kernel_rfl) rfl (fun K hK => ?_)
      · go_simp
        refine (HCT.out u2 Bu2).mono ?_
        rintro e u3 ⟨vt, rfl, ⟨S0, vm0, vl0, ht⟩, Lu3⟩
        obtain ⟨g, c, rfl, hg1, hg2, hgc, -⟩ := ht.nonil (by have := H4.out; omega)
        have hft : ∀ b, FtR (.slice (some ⟨g, 0, none⟩) ts.length c) ts.length S0 b -> u2.heap.size <= b /\ b < u3.heap.size := fun b hb => ht.bnd b hb
        have su3 := Lu3.size
        replace hT := hT.sm (Lu3.block _ hT.lt)
        replace hR := hR.below Lu3
        have Bu3 := Zb Bu2 Lu3
        refine hK.out _ _ Bu3 (fun _ => ?_)
        clear hK K
        have x0 := hR.c0
        have x1 := hR.c1
        have xf0 := hR.frozen 0
        have xf1 := hR.frozen 1
        refine Zd 7 (by kernel_rfl) rfl (fun K hK => ?_)
        · go_simp
          obtain ⟨u4, hu4⟩ : ∃ wz, (u3.setCell ⟨Rb, 0, none⟩ (.int .i64 d)).setCell ⟨Rb, 1, none⟩ (.slice (some ⟨g, 0, none⟩) ts.length c) = wz := ⟨_, rfl⟩
          have far : ∀ b, b ≠ Rb -> u4.heap[b]? = u3.heap[b]? := fun b hb => by rw [<- hu4]; exact (Below.heap_setCell _ ⟨Rb, 1, none⟩ _ b (fun e => hb e)).trans (Below.heap_setCell _ ⟨Rb, 0, none⟩ _ b (fun e => hb e))
          have su4 : u3.heap.size = u4.heap.size := by rw [<- hu4, Zc, Zc]
          replace ht := ht.sm (w' := u4) ⟨by omega, fun b hb => far b (by have := hft b hb; omega)⟩
          have Bu4 : Below W.heap.size W u4 := by rw [<- hu4]; exact (Bu3.setCell (by show W.heap.size <= Rb; omega) _).setCell (by show W.heap.size <= Rb; omega) _
          replace hR : Two u4 Rb (.int .i64 d) (.slice (some ⟨g, 0, none⟩) ts.length c) 26 := by rw [<- hu4]; exact (hR.set0 _).set1 _
          first | rw [hu4] | skip
          replace hT := hT.sm (w' := u4) (far Tb (by omega))
          refine hK.out _ _ Bu4 (fun _ => ?_)
          clear hK K hu4 far x0 x1 xf0 xf1
          refine Zv [8] rfl (by kernel_rfl) (by kernel_rfl) (by kernel_rfl) Bu4 ?_
          iterate 1 (refine ⟨_, rfl, ?_⟩; apply Exists.intro; refine ⟨Or.inl ⟨by rfl, fun w' hw' => ?_⟩, ?_⟩; (focus (first | (go_simp; done) | (go_simp; with_reducible rfl))); simp only [Act.put, List.getElem_toArray, List.getElem_cons_succ, List.getElem_cons_zero, List.setIfInBounds_toArray, List.set_cons_zero, List.set_cons_succ])
          refine NoPanic.normal (NoPanic.normal ?_)
          have hTl := hT.lt
          have hRl := hR.lt
          go_wp2_with fail
          go_meet
          exact ⟨Rb, Tb, g, c, S0, vm0, vl0, rfl, rfl, hR, hT, ht.lowm (by omega), fun b hb => by have := hft b hb; omega, by omega, by omega, by omega, by omega, by omega, Bu4⟩
  · go_simp
    obtain ⟨u1, hu1⟩ : ∃ w0, wv0.alloc (.cells #[.int .i64 0, .slice none 0 0] 26) = w0 := ⟨_, rfl⟩
    have Lu1 : Below wv0.heap.size wv0 u1 := by rw [<- hu1]; exact (Below.refl _ _).alloc (Nat.le_refl _) _
    obtain ⟨Rb, hRb⟩ : ∃ q, wv0.heap.size = q := ⟨_, rfl⟩
    have hR : Two u1 Rb (.int .i64 0) (.slice none 0 0) 26 := by rw [<- hu1, <- hRb]; exact Two.new wv0 _ _ _
    have sR := hR.lt
    first | rw [hu1] | skip
    first | rw [hRb] | skip
    have su1 := Lu1.size
    have Bu1 := Zb Bwv0 Lu1
    refine hK.out _ _ Bu1 (fun _ => ?_)
    clear hK K hu1
    refine Z0 1 5 (by kernel_rfl) rfl rfl (fun K hK => ?_) (fun K hK => ?_)
    · go_simp
      refine (HCT.out u1 Bu1).mono ?_
      rintro e u2 ⟨vt, rfl, ⟨S0, vm0, vl0, ht⟩, Lu2⟩
      obtain ⟨g, c, rfl, hg1, hg2, hgc, -⟩ := ht.nonil (by have := H4.out; omega)
      have hft : ∀ b, FtR (.slice (some ⟨g, 0, none⟩) ts.length c) ts.length S0 b -> u1.heap.size <= b /\ b < u2.heap.size := fun b hb => ht.bnd b hb
      have su2 := Lu2.size
      replace hR := hR.below Lu2
      have Bu2 := Zb Bu1 Lu2
      refine hK.out _ _ Bu2 (fun _ => ?_)
      clear hK K
      have x0 := hR.c0
      have x1 := hR.c1
      have xf0 := hR.frozen 0
      have xf1 := hR.frozen 1
      refine Z0 5 7 (by kernel_rfl) rfl rfl (fun K hK => ?_) (fun K hK => ?_)
      · go_simp
        obtain ⟨u3, hu3⟩ : ∃ w0, u2.alloc (.cells #[.int .u32 0, .int .i32 0, .int .u32 0, .int .i64 d] 151) = w0 := ⟨_, rfl⟩
        have Lu3 : Below u2.heap.size u2 u3 := by rw [<- hu3]; exact (Below.refl _ _).alloc (Nat.le_refl _) _
        obtain ⟨Tb, hTb⟩ : ∃ q, u2.heap.size = q := ⟨_, rfl⟩
        have hT : Thr u3 Tb false d := by rw [<- hu3, <- hTb]; exact heap_alloc_new u2 _
        have sT := hT.lt
        first | rw [hu3] | skip
        first | rw [hTb] | skip
        have su3 := Lu3.size
        replace ht := ht.next Lu3
        replace hR := hR.below Lu3
        have Bu3 := Zb Bu2 Lu3
        refine hK.out _ _ Bu3 (fun _ => ?_)
        clear hK K hu3 x0 x1 xf0 xf1
        have x0 := hR.c0
        have x1 := hR.c1
        have xf0 := hR.frozen 0
        have xf1 := hR.frozen 1
        refine Zd 7 (by kernel_rfl) rfl (fun K hK => ?_)
        · go_simp
          obtain ⟨u4, hu4⟩ : ∃ wz, (u3.setCell ⟨Rb, 0, none⟩ (.int .i64 d)).setCell ⟨Rb, 1, none⟩ (.slice (some ⟨g, 0, none⟩) ts.length c) = wz := ⟨_, rfl⟩
          have far : ∀ b, b ≠ Rb -> u4.heap[b]? = u3.heap[b]? := fun b hb => by rw [<- hu4]; exact (Below.heap_setCell _ ⟨Rb, 1, none⟩ _ b (fun e => hb e)).trans (Below.heap_setCell _ ⟨Rb, 0, none⟩ _ b (fun e => hb e))
          have su4 : u3.heap.size = u4.heap.size := by rw [<- hu4, Zc, Zc]
          replace ht := ht.sm (w' := u4) ⟨by omega, fun b hb => far b (by have := hft b hb; omega)⟩
          have Bu4 : Below W.heap.size W u4 := by rw [<- hu4]; exact (Bu3.setCell (by show W.heap.size <= Rb; omega) _).setCell (by show W.heap.size <= Rb; omega) _
          replace hR : Two u4 Rb (.int .i64 d) (.slice (some ⟨g, 0, none⟩) ts.length c) 26 := by rw [<- hu4]; exact (hR.set0 _).set1 _
          first | rw [hu4] | skip
          replace hT := hT.sm (w' := u4) (far Tb (by omega))
          refine hK.out _ _ Bu4 (fun _ => ?_)
          clear hK K hu4 far x0 x1 xf0 xf1
          refine Zv [8] rfl (by kernel_rfl) (by kernel_rfl) (by kernel_rfl) Bu4 ?_
          iterate 1 (refine ⟨_, rfl, ?_⟩; apply Exists.intro; refine ⟨Or.inl ⟨by rfl, fun w' hw' => ?_⟩, ?_⟩; (focus (first | (go_simp; done) | (go_simp; with_reducible rfl))); simp only [Act.put, List.getElem_toArray, List.getElem_cons_succ, List.getElem_cons_zero, List.setIfInBounds_toArray, List.set_cons_zero, List.set_cons_succ])
          refine NoPanic.normal (NoPanic.normal ?_)
          have hTl := hT.lt
          have hRl := hR.lt
          go_wp2_with fail
          go_meet
          exact ⟨Rb, Tb, g, c, S0, vm0, vl0, rfl, rfl, hR, hT, ht.lowm (by omega), fun b hb => by have := hft b hb; omega, by omega, by omega, by omega, by omega, by omega, Bu4⟩
      · go_simp
        obtain ⟨u3, hu3⟩ : ∃ wz, (u2.setCell ⟨Rb, 0, none⟩ (.int .i64 d)).setCell ⟨Rb, 1, none⟩ (.slice (some ⟨g, 0, none⟩) ts.length c) = wz := ⟨_, rfl⟩
        have far : ∀ b, b ≠ Rb -> u3.heap[b]? = u2.heap[b]? := fun b hb => by rw [<- hu3]; exact (Below.heap_setCell _ ⟨Rb, 1, none⟩ _ b (fun e => hb e)).trans (Below.heap_setCell _ ⟨Rb, 0, none⟩ _ b (fun e => hb e))
        have su3 : u2.heap.size = u3.heap.size := by rw [<- hu3, Zc, Zc]
        replace ht := ht.sm (w' := u3) ⟨by omega, fun b hb => far b (by have := hft b hb; omega)⟩
        have Bu3 : Below W.heap.size W u3 := by rw [<- hu3]; exact (Bu2.setCell (by show W.heap.size <= Rb; omega) _).setCell (by show W.heap.size <= Rb; omega) _
        replace hR : Two u3 Rb (.int .i64 d) (.slice (some ⟨g, 0, none⟩) ts.length c) 26 := by rw [<- hu3]; exact (hR.set0 _).set1 _
        first | rw [hu3] | skip
        refine hK.out _ _ Bu3 (fun _ => ?_)
        clear hK K hu3 far x0 x1 xf0 xf1
        refine Zd 5 (by kernel_rfl) rfl (fun K hK => ?_)
        · go_simp
          obtain ⟨u4, hu4⟩ : ∃ w0, u3.alloc (.cells #[.int .u32 0, .int .i32 0, .int .u32 0, .int .i64 d] 151) = w0 := ⟨_, rfl⟩
          have Lu4 : Below u3.heap.size u3 u4 := by rw [<- hu4]; exact (Below.refl _ _).alloc (Nat.le_refl _) _
          obtain ⟨Tb, hTb⟩ : ∃ q, u3.heap.size = q := ⟨_, rfl⟩
          have hT : Thr u4 Tb false d := by rw [<- hu4, <- hTb]; exact heap_alloc_new u3 _
          have sT := hT.lt
          first | rw [hu4] | skip
          first | rw [hTb] | skip
          have su4 := Lu4.size
          replace ht := ht.next Lu4
          replace hR := hR.below Lu4
          have Bu4 := Zb Bu3 Lu4
          refine hK.out _ _ Bu4 (fun _ => ?_)
          clear hK K hu4
          refine Zv [8] rfl (by kernel_rfl) (by kernel_rfl) (by kernel_rfl) Bu4 ?_
          iterate 1 (refine ⟨_, rfl, ?_⟩; apply Exists.intro; refine ⟨Or.inl ⟨by rfl, fun w' hw' => ?_⟩, ?_⟩; (focus (first | (go_simp; done) | (go_simp; with_reducible rfl))); simp only [Act.put, List.getElem_toArray, List.getElem_cons_succ, List.getElem_cons_zero, List.setIfInBounds_toArray, List.set_cons_zero, List.set_cons_succ])
          refine NoPanic.normal (NoPanic.normal ?_)
          have hTl := hT.lt
          have hRl := hR.lt
          go_wp2_with fail
          go_meet
          exact ⟨Rb, Tb, g, c, S0, vm0, vl0, rfl, rfl, hR, hT, ht.lowm (by omega), fun b hb => by have := hft b hb; omega, by omega, by omega, by omega, by omega, by omega, Bu4⟩
    · go_simp
      obtain ⟨u2, hu2⟩ : ∃ w0, u1.alloc (.cells #[.int .u32 0, .int .i32 0, .int .u32 0, .int .i64 d] 151) = w0 := ⟨_, rfl⟩
      have Lu2 : Below u1.heap.size u1 u2 := by rw [<- hu2]; exact (Below.refl _ _).alloc (Nat.le_refl _) _
      obtain ⟨Tb, hTb⟩ : ∃ q, u1.heap.size = q := ⟨_, rfl⟩
      have hT : Thr u2 Tb false d := by rw [<- hu2, <- hTb]; exact heap_alloc_new u1 _
      have sT := hT.lt
      first | rw [hu2] | skip
      first | rw [hTb] | skip
      have su2 := Lu2.size
      replace hR := hR.below Lu2
      have Bu2 := Zb Bu1 Lu2
      refine hK.out _ _ Bu2 (fun _ => ?_)
      clear hK K hu2
      refine Zd 1 (by kernel_rfl) rfl (fun K hK => ?_)
      · go_simp
        refine (HCT.out u2 Bu2).mono ?_
        rintro e u3 ⟨vt, rfl, ⟨S0, vm0, vl0, ht⟩, Lu3⟩
        obtain ⟨g, c, rfl, hg1, hg2, hgc, -⟩ := ht.nonil (by have := H4.out; omega)
        have hft : ∀ b, FtR (.slice (some ⟨g, 0, none⟩) ts.length c) ts.length S0 b -> u2.heap.size <= b /\ b < u3.heap.size := fun b hb => ht.bnd b hb
        have su3 := Lu3.size
        replace hT := hT.sm (Lu3.block _ hT.lt)
        replace hR := hR.below Lu3
        have Bu3 := Zb Bu2 Lu3
        refine hK.out _ _ Bu3 (fun _ => ?_)
        clear hK K
        have x0 := hR.c0
        have x1 := hR.c1
        have xf0 := hR.frozen 0
        have xf1 := hR.frozen 1
        refine Zd 7 (by kernel_rfl) rfl (fun K hK => ?_)
        · go_simp
          obtain ⟨u4, hu4⟩ : ∃ wz, (u3.setCell ⟨Rb, 0, none⟩ (.int .i64 d)).setCell ⟨Rb, 1, none⟩ (.slice (some ⟨g, 0, none⟩) ts.length c) = wz := ⟨_, rfl⟩
          have far : ∀ b, b ≠ Rb -> u4.heap[b]? = u3.heap[b]? := fun b hb => by rw [<- hu4]; exact (Below.heap_setCell _ ⟨Rb, 1, none⟩ _ b (fun e => hb e)).trans (Below.heap_setCell _ ⟨Rb, 0, none⟩ _ b (fun e => hb e))
          have su4 : u3.heap.size = u4.heap.size := by rw [<- hu4, Zc, Zc]
          replace ht := ht.sm (w' := u4) ⟨by omega, fun b hb => far b (by have := hft b hb; omega)⟩
          have Bu4 : Below W.heap.size W u4 := by rw [<- hu4]; exact (Bu3.setCell (by show W.heap.size <= Rb; omega) _).setCell (by show W.heap.size <= Rb; omega) _
          replace hR : Two u4 Rb (.int .i64 d) (.slice (some ⟨g, 0, none⟩) ts.length c) 26 := by rw [<- hu4]; exact (hR.set0 _).set1 _
          first | rw [hu4] | skip
          replace hT := hT.sm (w' := u4) (far Tb (by omega))
          refine hK.out _ _ Bu4 (fun _ => ?_)
          clear hK K hu4 far x0 x1 xf0 xf1
          refine Zv [8] rfl (by kernel_rfl) (by kernel_rfl) (by kernel_rfl) Bu4 ?_
          iterate 1 (refine ⟨_, rfl, ?_⟩; apply Exists.intro; refine ⟨Or.inl ⟨by rfl, fun w' hw' => ?_⟩, ?_⟩; (focus (first | (go_simp; done) | (go_simp; with_reducible rfl))); simp only [Act.put, List.getElem_toArray, List.getElem_cons_succ, List.getElem_cons_zero, List.setIfInBounds_toArray, List.set_cons_zero, List.set_cons_succ])
          refine NoPanic.normal (NoPanic.normal ?_)
          have hTl := hT.lt
          have hRl := hR.lt
          go_wp2_with fail
          go_meet
          exact ⟨Rb, Tb, g, c, S0, vm0, vl0, rfl, rfl, hR, hT, ht.lowm (by omega), fun b hb => by have := hft b hb; omega, by omega, by omega, by omega, by omega, by omega, Bu4⟩
 case rest =>
  obtain ⟨R, T, g, c, S0, vm0, vl0, rfl, rfl, hR, hT, hS, hft, hRT, hWR, hWT, -, -, LW⟩ := hcut
  generalize hwc : wc = w3 at *
  clear hwc wc L0
  obtain ⟨g0, c0, hgg, hg1, hg2, hgc, -⟩ := hS.nonil (by have := H4.out; omega)
  obtain rfl : g = g0 := by injection hgg with h1 h2 h3; injection h1 with h1; injection h1
  clear hgg hgc
  have HTS3 := Za hS
  have HTO3 := Za hR
  have HTH3 := Za hT
  have HL3 := Za LW
  have HRT := Za hRT
  have HS0 : Hid ((∀ i b, i < ts.length -> S0 i b -> b ≠ R /\ b ≠ T) /\ g ≠ R /\ g ≠ T) := ⟨fun i b hi hb => hft b (Or.inr ⟨i, hi, hb⟩), hft g (Or.inl rfl)⟩
  clear hS hR hT LW hft hRT
  go_wp2_with fail
  go_loopg [8] N (fun gk iv wr => ∃ (k : Nat) (S : Nat -> Nat -> Prop) (vm vl : Nat -> Value) (o : Bool), k <= N /\ N - k <= gk /\ iv = .int .i64 k /\ ZeF m ts k = true /\ TsR true W.heap.size wr (.slice (some ⟨g, 0, none⟩) ts.length c) (Zek m ts k) S vm vl /\ (∀ i b, i < ts.length -> S i b -> b ≠ R /\ b ≠ T) /\ Two wr R (.int .i64 d) (.slice (some ⟨g, 0, none⟩) ts.length c) 26 /\ Thr wr T o (if o then Zae d else d) /\ Below W.heap.size W wr)
  case atStart => exact ⟨0, _, _, _, false, Nat.zero_le _, Nat.sub_le _ _, rfl, rfl, HTS3.out, HS0.out.1, HTO3.out, HTH3.out, HL3.out⟩
  case round =>
   obtain ⟨k, S, vm, vl, o, hk, hgk, rfl, hrb, hp, hsb, hto, hth, L⟩ := hrel
   have HRO := Za (Ziq o T d wr hth)
   have HP0 := Za hp
   have HT00 := Za hto
   have HL0 := Za L
   have HSB := Za hsb
   have HRB := Za hrb
   clear hp hto L hsb hrb hth
   go_wp2_with fail
   refine HRO.out.mono ?_
   rintro e wp ⟨rfl, hth, hcg⟩
   have HTH := Za hth
   have HL : Hid (Below W.heap.size W wp) := HL0.out.trans (hcg.below HL0.out.size (fun i e => by have e' : i = T := e; omega))
   have HP := Za (HP0.out.sm (hcg.sm (fun b hb => (HP0.out.bnd b hb).2) (fun b hb e => by
    have e' : b = T := e
    rcases hb with hb | ⟨i, hi, hb⟩
    · injection hb with hb; exact HS0.out.2.2 (hb.trans e')
    · exact (HSB.out i b (by rw [ZbC] at hi; exact hi) hb).2 e')))
   have HT : Hid (Two wp R (.int .i64 d) (.slice (some ⟨g, 0, none⟩) ts.length c) 26) := (hcg.2.2.2.2 R HT00.out.lt (fun e => HRT.out e)).trans HT00.out
   have HLE := Za (ZoP (Zae d) wp)
   rw [HLV.out] at HLE
   clear hth hcg HRO HP0 HT00 HL0
   by_cases hlt : k < N
   · have hcond : ((k : Int) <= (N : Int) - 1) := by omega
     go_wp2_with fail
     refine HLE.out.mono ?_
     rintro e wo ⟨rfl, hwo⟩
     subst hwo
     have hVr := HV.out wo HL.out
     have hkt : k < ts.length := by have := H4.out; omega
     obtain ⟨wb, wof, am, cm, al, cl, rfl, hwb, c0, c1, hmv, hcv, hcap⟩ := hVr.web hkt
     have hweb := Zay HOK.out.1 (n := k) (by omega)
     have BLo := Za ((Below.refl wo.heap.size wo).drew)
     have HCo := Za (fun W' (L' : Below wo.heap.size wo W') => iLnkC am al at' cm cl ct (Ze ts k) m W' (hmv.next L') (hcv.next L') (HM.out W' (Zb HL.out L')) HOK.out.2.2 (hcap rfl).1 (hcap rfl).2 (HOK.out.2.1.2 k).1 (HOK.out.2.1.2 k).2 hweb)
     have hB0l := (HT0.out.below HL.out).lt
     have hB1l := (HT1.out.below HL.out).lt
     have HSo : Hid (∀ W', Below wo.heap.size wo W' -> W'.cell? ⟨w.heap.size, 1, none⟩ = some (.slice (some ⟨wb, wof, none⟩) ts.length cw) /\ W'.cell? ⟨wb, wof + k * 2, none⟩ = some (.slice am (Ze ts k).1.length cm) /\ W'.cell? ⟨wb, wof + k * 2 + 1, none⟩ = some (.slice al (Ze ts k).2.length cl) /\ W'.cell? ⟨w.heap.size + 1, 0, none⟩ = some (.int .i64 m.1) /\ W'.cell? ⟨w.heap.size + 1, 1, none⟩ = some (.slice at' m.2.length ct) /\ (0 : Int) <= (k : Int) /\ (k : Int) < (ts.length : Int)) := fun W' L' => ⟨((HT0.out.below HL.out).below L').c1, (L'.cell (p := ⟨wb, wof + k * 2, none⟩) hwb).trans c0, (L'.cell (p := ⟨wb, wof + k * 2 + 1, none⟩) hwb).trans c1, ((HT1.out.below HL.out).below L').c0, ((HT1.out.below HL.out).below L').c1, Int.natCast_nonneg _, by omega⟩
     obtain ⟨ml, hml⟩ : ∃ ml, (Ze ts k).1.length = ml := ⟨_, rfl⟩
     obtain ⟨ll, hll⟩ : ∃ ll, (Ze ts k).2.length = ll := ⟨_, rfl⟩
     rw [hml, hll] at HCo HSo
     clear hVr hmv hcv c0 c1 hcap hweb hml hll hwb
     go_wp2_with fail
     go_cut [9, 10] from 21 to 46 (fun v b wx => ∃ X a1 l1 c1 a2 l2 c2 F, v = .pointer (some ⟨X, 0, none⟩) /\ b = .bool (Zk ((Ze ts k).1 ++ [m])) /\ Two wx X (.slice a1 l1 c1) (.slice a2 l2 c2) 47 /\ (Zk ((Ze ts k).1 ++ [m]) = true -> OwW true F wx (.slice a1 l1 c1) (.slice a2 l2 c2) (Zhm m (Ze ts k)).1 (Zhm m (Ze ts k)).2) /\ (∀ b, F b -> wo.heap.size <= b) /\ wo.heap.size <= X /\ Below wo.heap.size wo wx)
     case first =>
      refine Zm (S := fun W' => Below wo.heap.size wo W') (fuel := 7) [0, 1, 2, 3, 4, 5] (by kernel_rfl) (by kernel_rfl) (by kernel_rfl) (by kernel_rfl) BLo.out (fun _ => ?_)
      iterate 6 (refine ⟨_, rfl, ?_⟩; apply Exists.intro; refine ⟨Or.inl ⟨by rfl, fun w' hw' => ?_⟩, ?_⟩; (focus (obtain ⟨e1, e2, e3, e4, e5, e6⟩ := HSo.out w' hw'; first | (go_simp; done) | (go_simp; with_reducible rfl))); simp only [Act.put, List.getElem_toArray, List.getElem_cons_succ, List.getElem_cons_zero, List.setIfInBounds_toArray, List.set_cons_zero, List.set_cons_succ])
      obtain ⟨wv0, hv0⟩ : ∃ w0, wo.drew = w0 := ⟨_, rfl⟩
      have B0 : Below wo.heap.size wo wv0 := by rw [<- hv0]; exact BLo.out
      have s0 : wo.heap.size <= wv0.heap.size := B0.size
      rw [hv0]
      clear hv0
      refine Z0 6 10 (by kernel_rfl) rfl rfl (fun K hK => ?_) (fun K hK => ?_)
      · go_simp
        refine (HCo.out wv0 B0).mono ?_
        rintro e w2 ⟨a1, l1, c1, a2, l2, c2, F, rfl, how, hF, L2⟩
        have LA := Zb B0 L2
        refine hK.out _ _ LA (fun hS4 => ?_)
        clear hK K
        refine Zn 3 [7, 8, 9] (by kernel_rfl) (by kernel_rfl) (by kernel_rfl) hS4 ?_
        iterate 3 (refine ⟨_, rfl, ?_⟩; apply Exists.intro; refine ⟨Or.inl ⟨by rfl, fun w' hw' => ?_⟩, ?_⟩; (focus (first | (go_simp; done) | (go_simp; with_reducible rfl))); simp only [Act.put, List.getElem_toArray, List.getElem_cons_succ, List.getElem_cons_zero, List.setIfInBounds_toArray, List.set_cons_zero, List.set_cons_succ])
        refine Zd 10 (by kernel_rfl) rfl (fun K hK => ?_)
        go_simp
        refine hK.out _ _ (LA.alloc LA.size _) (fun _ => ?_)
        clear hK K
        refine Zd 11 (by kernel_rfl) rfl (fun K hK => ?_)
        go_simp
        obtain ⟨wz, hwz⟩ : ∃ wz, w2.alloc (.cells #[(.slice a1 l1 c1), (.slice a2 l2 c2)] 47) = wz := ⟨_, rfl⟩
        have LZ : Below w2.heap.size w2 wz := by rw [<- hwz]; exact (Below.refl _ _).alloc (Nat.le_refl _) _
        have HLZ := Za (Zb LA LZ)
        have HTZ : Hid (Two wz w2.heap.size (.slice a1 l1 c1) (.slice a2 l2 c2) 47) := by show Two _ _ _ _ _; rw [<- hwz]; exact Two.new w2 _ _ _
        have HOZ := Za (fun h => (how h).next LZ)
        have HFZ : Hid ((∀ b, F b -> wo.heap.size <= b) /\ wo.heap.size <= w2.heap.size) := ⟨fun b hb => by have := (hF b hb).1; omega, LA.size⟩
        rw [hwz]
        refine hK.out _ _ HLZ.out (fun hS9 => ?_)
        clear hK K hwz how hF LA L2 LZ
        refine Zv [12] rfl (by kernel_rfl) (by kernel_rfl) (by kernel_rfl) hS9 ?_
        iterate 1 (refine ⟨_, rfl, ?_⟩; apply Exists.intro; refine ⟨Or.inl ⟨by rfl, fun w' hw' => ?_⟩, ?_⟩; (focus (first | (go_simp; done) | (go_simp; with_reducible rfl))); simp only [Act.put, List.getElem_toArray, List.getElem_cons_succ, List.getElem_cons_zero, List.setIfInBounds_toArray, List.set_cons_zero, List.set_cons_succ])
        refine NoPanic.normal (NoPanic.normal ?_)
        go_wp2_with fail
        go_meet
        exact ⟨_, a1, l1, c1, a2, l2, c2, F, rfl, rfl, HTZ.out, HOZ.out, HFZ.out.1, HFZ.out.2, HLZ.out⟩
      · go_simp
        obtain ⟨Wx, hWx⟩ : ∃ W', wv0.alloc (.cells #[.slice none 0 0, .slice none 0 0] 47) = W' := ⟨_, rfl⟩
        obtain ⟨Xb, hXb⟩ : ∃ q, wv0.heap.size = q := ⟨_, rfl⟩
        have LX : Below wo.heap.size wo Wx := by rw [<- hWx]; exact B0.alloc s0 _
        have hTX : Two Wx Xb (.slice none 0 0) (.slice none 0 0) 47 := by rw [<- hWx, <- hXb]; exact Two.new wv0 _ _ _
        have hXo : wo.heap.size <= Xb := by omega
        have hXl := hTX.lt
        first | rw [hWx] | skip
        first | rw [hXb] | skip
        refine hK.out _ _ LX (fun _ => ?_)
        clear hK K hWx
        refine Zd 6 (by kernel_rfl) rfl (fun K hK => ?_)
        go_simp
        refine (HCo.out Wx LX).mono ?_
        rintro e w2 ⟨a1, l1, c1, a2, l2, c2, F, rfl, how, hF, L2⟩
        have LA := Zb LX L2
        have hT4 := hTX.below L2
        refine hK.out _ _ LA (fun hS4 => ?_)
        clear hK K
        refine Zn 2 [7, 8, 9] (by kernel_rfl) (by kernel_rfl) (by kernel_rfl) hS4 ?_
        iterate 3 (refine ⟨_, rfl, ?_⟩; apply Exists.intro; refine ⟨Or.inl ⟨by rfl, fun w' hw' => ?_⟩, ?_⟩; (focus (first | (go_simp; done) | (go_simp; with_reducible rfl))); simp only [Act.put, List.getElem_toArray, List.getElem_cons_succ, List.getElem_cons_zero, List.setIfInBounds_toArray, List.set_cons_zero, List.set_cons_succ])
        have x0 := hT4.c0
        have x1 := hT4.c1
        have xf0 := hT4.frozen 0
        have xf1 := hT4.frozen 1
        refine Zd 11 (by kernel_rfl) rfl (fun K hK => ?_)
        go_simp
        have HLZ := Za ((LA.setCell (by show wo.heap.size <= Xb; exact hXo) (.slice a1 l1 c1) : Below wo.heap.size wo (w2.setCell ⟨Xb, 0, none⟩ (.slice a1 l1 c1))).setCell (by show wo.heap.size <= Xb; exact hXo) (.slice a2 l2 c2) : Below wo.heap.size wo ((w2.setCell ⟨Xb, 0, none⟩ (.slice a1 l1 c1)).setCell ⟨Xb, 1, none⟩ (.slice a2 l2 c2)))
        have HTZ := Za ((hT4.set0 (.slice a1 l1 c1)).set1 (.slice a2 l2 c2))
        have HOZ := Za (fun h => (how h).sm (w' := (w2.setCell ⟨Xb, 0, none⟩ (.slice a1 l1 c1)).setCell ⟨Xb, 1, none⟩ (.slice a2 l2 c2)) ⟨by rw [Zc, Zc]; exact Nat.le_refl _, fun b hb => (Below.heap_setCell _ ⟨Xb, 1, none⟩ _ b (fun e => by have e' : b = Xb := e; have := (hF b hb).1; omega)).trans (Below.heap_setCell _ ⟨Xb, 0, none⟩ _ b (fun e => by have e' : b = Xb := e; have := (hF b hb).1; omega))⟩)
        have HFZ : Hid (∀ b, F b -> wo.heap.size <= b) := fun b hb => by have := (hF b hb).1; omega
        clear how hF
        generalize (w2.setCell ⟨Xb, 0, none⟩ (.slice a1 l1 c1)).setCell ⟨Xb, 1, none⟩ (.slice a2 l2 c2) = wz at *
        refine hK.out _ _ HLZ.out (fun hS9 => ?_)
        clear hK K x0 x1 xf0 xf1 LA L2 hT4
        refine Zv [12] rfl (by kernel_rfl) (by kernel_rfl) (by kernel_rfl) hS9 ?_
        iterate 1 (refine ⟨_, rfl, ?_⟩; apply Exists.intro; refine ⟨Or.inl ⟨by rfl, fun w' hw' => ?_⟩, ?_⟩; (focus (first | (go_simp; done) | (go_simp; with_reducible rfl))); simp only [Act.put, List.getElem_toArray, List.getElem_cons_succ, List.getElem_cons_zero, List.setIfInBounds_toArray, List.set_cons_zero, List.set_cons_succ])
        refine NoPanic.normal (NoPanic.normal ?_)
        go_wp2_with fail
        go_meet
        exact ⟨Xb, a1, l1, c1, a2, l2, c2, F, rfl, rfl, HTZ.out, HOZ.out, HFZ.out, hXo, HLZ.out⟩
     case rest =>
      obtain ⟨X, a1, l1, c1, a2, l2, c2, F, rfl, rfl, hTX, hOW, hFX, hXW, LW⟩ := hcut
      generalize hwc : wc = w5 at *
      clear hwc wc HCo HSo BLo HLE
      have HL5 := Za (Zb HL.out LW)
      have HP5 := Za (HP.out.next LW)
      have HT5 := Za (HT.out.below LW)
      have HTH5 := Za (HTH.out.sm (LW.block T HTH.out.lt))
      rcases hmb : Zk ((Ze ts k).1 ++ [m]) with _ | _
      · have t05 := HT0.out.below HL5.out
        have k0 := t05.c0
        have k1 := t05.c1
        have HCY5 := Za (HCT.out w5 HL5.out)
        have HNO : Hid (Zdi m ts d = false) := Zkj hmb (by rw [HN.out]; exact hlt)
        clear hOW hTX t05
        go_wp2_with fail
        refine HCY5.out.mono ?_
        rintro e w6 ⟨vt, rfl, hcp, L6⟩
        obtain ⟨va, vc, rfl⟩ : ∃ va vc, vt = .slice va ts.length vc := by obtain ⟨_, _, _, h⟩ := hcp; obtain ⟨a, c, e, -⟩ := h.form; exact ⟨a, c, e⟩
        have t26 := HT2.out.below (Zb HL5.out L6)
        have r0 := t26.c0
        have r1 := t26.c1
        have rf0 := t26.frozen 0
        have rf1 := t26.frozen 1
        have t27 := (t26.set0 (.int .i64 d)).set1 (.slice va ts.length vc)
        have q0 := t27.c0
        have q1 := t27.c1
        obtain ⟨S1, vm1, vl1, hts1⟩ := hcp
        have hz5 := HL5.out.size
        have hsz := HSZ.out
        have HTF := Za ((hts1.sm (w' := (w6.setCell ⟨w.heap.size + 1 + 1, 0, none⟩ (.int .i64 d)).setCell ⟨w.heap.size + 1 + 1, 1, none⟩ (.slice va ts.length vc)) ⟨by rw [Zc, Zc]; exact Nat.le_refl _, fun b hb => (Below.heap_setCell _ ⟨w.heap.size + 1 + 1, 1, none⟩ _ b (fun e => by have e' : b = w.heap.size + 1 + 1 := e; have := (hts1.bnd b hb).1; omega)).trans (Below.heap_setCell _ ⟨w.heap.size + 1 + 1, 0, none⟩ _ b (fun e => by have e' : b = w.heap.size + 1 + 1 := e; have := (hts1.bnd b hb).1; omega))⟩).lowm (base' := w.heap.size) (by omega))
        have HLF := Za (((Zb HB.out (Zb HL5.out L6)).setCell (by show w.heap.size <= w.heap.size + 1 + 1; omega) (.int .i64 d)).setCell (by show w.heap.size <= w.heap.size + 1 + 1; omega) (.slice va ts.length vc) : Below w.heap.size w ((w6.setCell ⟨w.heap.size + 1 + 1, 0, none⟩ (.int .i64 d)).setCell ⟨w.heap.size + 1 + 1, 1, none⟩ (.slice va ts.length vc)))
        clear hts1 t26 t27 L6 k0 k1
        go_wp2_with fail
        refine bodyPost_ret (v := .tuple #[.agg #[.int .i64 d, (.slice va ts.length vc)], .bool false]) (by simp [results, Tryz.results14, go_sem, q0, q1]) rfl ?_
        refine ⟨(.slice va ts.length vc), ?_, ⟨S1, vm1, vl1, ?_⟩, HLF.out⟩
        · unfold Zct; rw [HNO.out]; rfl
        · unfold ZbE; rw [HNO.out]; exact HTF.out
      · have HOW := Za (hOW hmb)
        have HMB := Za hmb
        have hRL := ZbC m ts k
        have hPL := HP.out
        rw [<- hRL] at hPL
        have HPU := Za (hPL.put LW (k := k) (by rw [hRL]; exact hkt) HOW.out hFX HL.out.size)
        rw [hRL] at HPU
        have hcl : ∀ i, i < (Zek m ts k).length -> w5.cell? ⟨g, i * 2, none⟩ = some (vm i) /\ w5.cell? ⟨g, i * 2 + 1, none⟩ = some (vl i) /\ ∀ j, w5.frozen? ⟨g, j, none⟩ = false := by
         obtain ⟨g', c', hge, -, -, -, hcl⟩ := (HP5.out).nonil (by rw [hRL]; omega)
         injection hge with h1 h2 h3
         injection h1 with h1
         injection h1 with h1
         subst h1
         exact hcl
        obtain ⟨e0, e1, ef⟩ := hcl k (by rw [hRL]; exact hkt)
        have f0 := ef (k * 2)
        have f1 := ef (k * 2 + 1)
        have o1 := HT5.out.c1
        have x0 := hTX.c0
        have x1 := hTX.c1
        have hi0 : (0 : Int) <= (k : Int) := Int.natCast_nonneg _
        have hi1 : (k : Int) < (ts.length : Int) := by omega
        have hgo : g ≠ R := HS0.out.2.1
        have hgT : g ≠ T := HS0.out.2.2
        have HTH6 : Hid (Thr ((w5.setCell ⟨g, k * 2, none⟩ (.slice a1 l1 c1)).setCell ⟨g, k * 2 + 1, none⟩ (.slice a2 l2 c2)) T true (Zae d)) := HTH5.out.sm ((Below.heap_setCell _ ⟨g, k * 2 + 1, none⟩ _ T (fun e => hgT e.symm)).trans (Below.heap_setCell _ ⟨g, k * 2, none⟩ _ T (fun e => hgT e.symm)))
        have HE : Hid (Two ((w5.setCell ⟨g, k * 2, none⟩ (.slice a1 l1 c1)).setCell ⟨g, k * 2 + 1, none⟩ (.slice a2 l2 c2)) R (.int .i64 d) (.slice (some ⟨g, 0, none⟩) ts.length c) 26 /\ Below W.heap.size W ((w5.setCell ⟨g, k * 2, none⟩ (.slice a1 l1 c1)).setCell ⟨g, k * 2 + 1, none⟩ (.slice a2 l2 c2))) :=
         ⟨(HT5.out.far hgo _).far hgo _, (HL5.out.setCell (by show W.heap.size <= g; exact hg1) _).setCell (by show W.heap.size <= g; exact hg1) _⟩
        have hOl := HT.out.lt
        have hTl := HTH.out.lt
        have HSN : Hid (∀ i b, i < ts.length -> Zb2 S k F i b -> b ≠ R /\ b ≠ T) := fun i b hi hb => by
         unfold Zb2 at hb
         by_cases e : i = k
         · rw [if_pos e] at hb; have := hFX b hb; omega
         · rw [if_neg e] at hb; exact HSB.out i b hi hb
        have HRN := Za (Zio HRB.out hmb)
        clear hPL hRL hcl ef hOW hTX HP HT HL HP5 HT5 HL5 LW
        go_wp2_with fail
        go_roundg (N - (k + 1))
        case rel => exact ⟨k + 1, _, _, _, true, by omega, Nat.le_refl _, by go_num, HRN.out, HPU.out, HSN.out, HE.out.1, HTH6.out, HE.out.2⟩
        case measure => omega
   · obtain rfl : k = N := by omega
     have hcond : ¬ ((k : Int) <= (k : Int) - 1) := by omega
     have HYES : Hid (Zdi m ts d = true) := by show ZeF m ts (ZdB d) = true; rw [HN.out]; exact HRB.out
     have HRL := Za (Ziq true T d wp HTH.out)
     go_wp2_with fail
     refine HLE.out.mono ?_
     rintro e wo ⟨rfl, hwo⟩
     subst hwo
     clear HLE
     go_wp2_with fail
     refine HRL.out.mono ?_
     rintro e wq ⟨rfl, hth, hcg⟩
     have hLq : Below W.heap.size W wq := HL.out.trans (hcg.below HL.out.size (fun i e => by have e' : i = T := e; omega))
     have hPq := HP.out.sm (hcg.sm (fun b hb => (HP.out.bnd b hb).2) (fun b hb e => by
      have e' : b = T := e
      rcases hb with hb | ⟨i, hi, hb⟩
      · injection hb with hb; exact HS0.out.2.2 (hb.trans e')
      · exact (HSB.out i b (by rw [ZbC] at hi; exact hi) hb).2 e'))
     have hTq : Two wq R (.int .i64 d) (.slice (some ⟨g, 0, none⟩) ts.length c) 26 := (hcg.2.2.2.2 R HT.out.lt (fun e => HRT.out e)).trans HT.out
     have y0 := hTq.c0
     have yf := hTq.frozen 0
     have t2 := HT2.out.below hLq
     obtain ⟨wr2, hwr2⟩ : ∃ wr2, wq.setCell ⟨R, 0, none⟩ (.int .i64 (Zae d)) = wr2 := ⟨_, rfl⟩
     have hz := hLq.size
     have hsz := HSZ.out
     have hR2 : Two wr2 R (.int .i64 (Zae d)) (.slice (some ⟨g, 0, none⟩) ts.length c) 26 := by rw [<- hwr2]; exact hTq.set0 _
     have hL2 : Below W.heap.size W wr2 := by rw [<- hwr2]; exact hLq.setCell (by show W.heap.size <= R; exact hWR) _
     have hP2 : TsR true W.heap.size wr2 (.slice (some ⟨g, 0, none⟩) ts.length c) (Zek m ts k) S vm vl := hPq.sm (by
      rw [<- hwr2]
      refine ⟨by rw [Zc]; exact Nat.le_refl _, fun b hb => Below.heap_setCell _ ⟨R, 0, none⟩ _ b (fun e => ?_)⟩
      have e' : b = R := e
      rcases hb with hb | ⟨i, hi, hb⟩
      · injection hb with hb; exact HS0.out.2.1 (hb.trans e')
      · exact (HSB.out i b (by rw [ZbC] at hi; exact hi) hb).1 e')
     have t2 := HT2.out.below hL2
     have r0 := t2.c0
     have r1 := t2.c1
     have rf0 := t2.frozen 0
     have rf1 := t2.frozen 1
     have x0 := hR2.c0
     have x1 := hR2.c1
     have t3 := (t2.set0 (.int .i64 (Zae d))).set1 (.slice (some ⟨g, 0, none⟩) ts.length c)
     have q0 := t3.c0
     have q1 := t3.c1
     have hz2 := hL2.size
     have HTF := Za ((hP2.sm (w' := (wr2.setCell ⟨w.heap.size + 1 + 1, 0, none⟩ (.int .i64 (Zae d))).setCell ⟨w.heap.size + 1 + 1, 1, none⟩ (.slice (some ⟨g, 0, none⟩) ts.length c)) ⟨by rw [Zc, Zc]; exact Nat.le_refl _, fun b hb => (Below.heap_setCell _ ⟨w.heap.size + 1 + 1, 1, none⟩ _ b (fun e => by have e' : b = w.heap.size + 1 + 1 := e; have := (hP2.bnd b hb).1; omega)).trans (Below.heap_setCell _ ⟨w.heap.size + 1 + 1, 0, none⟩ _ b (fun e => by have e' : b = w.heap.size + 1 + 1 := e; have := (hP2.bnd b hb).1; omega))⟩).lowm (base' := w.heap.size) (by omega))
     have HLF := Za (((Zb HB.out hL2).setCell (by show w.heap.size <= w.heap.size + 1 + 1; omega) (.int .i64 (Zae d))).setCell (by show w.heap.size <= w.heap.size + 1 + 1; omega) (.slice (some ⟨g, 0, none⟩) ts.length c) : Below w.heap.size w ((wr2.setCell ⟨w.heap.size + 1 + 1, 0, none⟩ (.int .i64 (Zae d))).setCell ⟨w.heap.size + 1 + 1, 1, none⟩ (.slice (some ⟨g, 0, none⟩) ts.length c)))
     clear t2 t3 hth hcg hLq hPq hTq hR2 hL2 hP2 HP HT HL
     go_wp2_with fail
     try rw [hwr2]
     go_wp2_with fail
     refine bodyPost_ret (v := .tuple #[.agg #[.int .i64 (Zae d), .slice (some ⟨g, 0, none⟩) ts.length c], .bool true]) (by simp [results, Tryz.results14, go_sem, q0, q1]) rfl ?_
     refine ⟨.slice (some ⟨g, 0, none⟩) ts.length c, ?_, ⟨S, vm, vl, ?_⟩, HLF.out⟩
     · unfold Zct; rw [HYES.out]; rfl
     · unfold ZbE; rw [HYES.out, HN.out]; exact HTF.out
 end Go.Proofs.YtaaagmgglolibaaGreat
namespace Go.Proofs.YtaaagmgglolibaaGreat
open Go Go.RowKit
def rB (m : Mk) (ts : List Wb) (d : Int) : Bool := ZN d ts && Zdi m ts d
def rD (m : Mk) (ts : List Wb) (d : Int) : Int := if ZN d ts = true then Zct m ts d else 0
def rT (m : Mk) (ts : List Wb) (d : Int) : List Wb := if ZN d ts = true then ZbE m ts d else []
theorem ZjO {x : Wb} (h : ZR x.1 x.2 = true) : ZU x.1 /\ ZaE x.2 := by
 obtain ⟨h1, h2, h3, h4⟩ := Za6 h
 exact ⟨⟨by omega, fun i => by have := h2 i; omega⟩, ⟨by omega, fun i => by have := h4 i; omega⟩⟩
theorem Zho {m : Mk} {ts : List Wb} : ∀ {n : Nat}, ZeF m ts n = true -> ∀ k, k < n -> Zk ((Ze ts k).1 ++ [m]) = true
 | 0, _, k, hk => by omega
 | n + 1, h, k, hk => by
   unfold ZeF at h
   rw [Bool.and_eq_true] at h
   rcases Nat.lt_or_ge k n with h1 | h1
   · exact Zho h.1 k h1
   · obtain rfl : k = n := by omega
     exact h.2
theorem Zkk {m : Mk} {ts : List Wb} {d : Int} (hok : ZN d ts = true) (i : Nat) (hi : i < 4) : ZR (Ze (ZbE m ts d) i).1 (Ze (ZbE m ts d) i).2 = true := by
 have hw := Zay hok (n := i) hi
 unfold ZbE
 by_cases h : Zdi m ts d = true
 · rw [if_pos h]
   obtain ⟨-, -, hn⟩ := Zem (ZeG hok)
   rw [Zel m ts _ (by have := (Zad hok).1; omega)]
   by_cases e : i < ZdB d
   · rw [if_pos e]
     exact ZdO hw (Zho h i e) (Zck (Zt hw))
   · rw [if_neg e]; exact hw
 · rw [if_neg h]; exact hw
theorem Zm3 (m : Mk) (ts : List Wb) (d : Int) : (rT m ts d).length <= 4 := by
 unfold rT
 by_cases h : ZN d ts = true
 · rw [if_pos h]
   have := (Zad h).1
   unfold ZbE
   by_cases h2 : Zdi m ts d = true
   · rw [if_pos h2, ZbC]; omega
   · rw [if_neg h2]; omega
 · rw [if_neg h]; simp
theorem Zo0 (m : Mk) (ts : List Wb) (d : Int) : Zaf (rT m ts d) := by
 refine ⟨by have := Zm3 m ts d; omega, fun i => ?_⟩
 have hz : ZU (([], []) : Wb).1 /\ ZaE (([], []) : Wb).2 := ⟨⟨by simp, fun i => by simp [mat]⟩, ⟨by simp, fun i => by simp [cn]⟩⟩
 unfold rT
 by_cases h : ZN d ts = true
 · rw [if_pos h]
   rcases Nat.lt_or_ge i 4 with h1 | h1
   · exact ZjO (Zkk h i h1)
   · have hl : (ZbE m ts d).length <= i := by have := Zm3 m ts d; unfold rT at this; rw [if_pos h] at this; omega
     have : Ze (ZbE m ts d) i = ([], []) := by unfold Ze; rw [List.getD_eq_getElem?_getD, List.getElem?_eq_none hl]; rfl
     rw [this]; exact hz
 · rw [if_neg h]
   have : Ze [] i = ([], []) := by simp [Ze]
   rw [this]; exact hz
def ZdD (base : Nat) (w : World) (a : Option Addr) (ts : List Wb) : Prop := ∀ w' : World, w.heap.size <= w'.heap.size -> (∀ b, base <= b -> b < w.heap.size -> w'.heap[b]? = w.heap[b]?) -> ZG true w' a ts
theorem TsR.kept {o : Bool} {base : Nat} {w : World} {a : Option Addr} {n c : Nat} {ts : List Wb} {S : Nat -> Nat -> Prop} {vm vl : Nat -> Value} (h : TsR o base w (.slice a n c) ts S vm vl) : ZdD base w a ts := fun w' hs e => by
 obtain ⟨a', c', e', -, hv⟩ := (h.sm (w' := w') ⟨hs, fun b hb => e b (h.bnd b hb).1 (h.bnd b hb).2⟩).form
 injection e' with e1 e2 e3
 subst e1
 exact hv
theorem gotSR (aw at' : Option Addr) (cw ct : Nat) (d : Int) (ts : List Wb) (m : Mk) (w : World) (hv : ZG true w aw ts) (ha : Zq w at' m.2) (hsm : Zaf ts) (hal : m.2.length <= 1048576) :
 Calls Tryz.prog 17 #[.agg #[.int .i64 d, .slice aw ts.length cw], .agg #[.int .i64 m.1, .slice at' m.2.length ct]] w fun e w' => ∃ a1 c1, e = .returned (.tuple #[.agg #[.int .i64 (rD m ts d), .slice a1 (rT m ts d).length c1], .bool (rB m ts d)]) /\ ZdD w.heap.size w' a1 (rT m ts d) /\ Below w.heap.size w w' := by
 obtain ⟨W1, hW1⟩ : ∃ W, w.alloc (.cells #[.int .i64 d, .slice aw ts.length cw] 26) = W := ⟨_, rfl⟩
 obtain ⟨W2, hW2⟩ : ∃ W, W1.alloc (.cells #[.int .i64 m.1, .slice at' m.2.length ct] 29) = W := ⟨_, rfl⟩
 obtain ⟨W, hW⟩ : ∃ W, W2.alloc (.cells #[.int .i64 0, .slice none 0 0] 26) = W := ⟨_, rfl⟩
 have s1 : W1.heap.size = w.heap.size + 1 := by rw [<- hW1]; simp
 have s2 : W2.heap.size = w.heap.size + 1 + 1 := by rw [<- hW2]; simp [s1]
 have s3 : W.heap.size = w.heap.size + 1 + 1 + 1 := by rw [<- hW]; simp [s2]
 have b1 : Below w.heap.size w W1 := by rw [<- hW1]; exact (Below.refl _ _).alloc (Nat.le_refl _) _
 have b2 : Below W1.heap.size W1 W2 := by rw [<- hW2]; exact (Below.refl _ _).alloc (Nat.le_refl _) _
 have b3 : Below W2.heap.size W2 W := by rw [<- hW]; exact (Below.refl _ _).alloc (Nat.le_refl _) _
 have t0 : Two W w.heap.size (.int .i64 d) (.slice aw ts.length cw) 26 := by
  have : Two W1 w.heap.size (.int .i64 d) (.slice aw ts.length cw) 26 := by rw [<- hW1]; exact Two.new w _ _ _
  exact (this.below b2).below b3
 have t1 : Two W (w.heap.size + 1) (.int .i64 m.1) (.slice at' m.2.length ct) 29 := by
  have : Two W2 (w.heap.size + 1) (.int .i64 m.1) (.slice at' m.2.length ct) 29 := by rw [<- hW2, <- s1]; exact Two.new W1 _ _ _
  exact this.below b3
 have t2 : Two W (w.heap.size + 1 + 1) (.int .i64 0) (.slice none 0 0) 26 := by rw [<- hW, <- s2]; exact Two.new W2 _ _ _
 have hB := Zb (Zb b1 b2) b3
 have HB := Za hB
 have HT0 := Za t0
 have HT1 := Za t1
 have HT2 := Za t2
 have HSZ := Za s3
 have HOKT := Za (Zen true aw cw d ts W (hv.next hB) hsm)
 have HG := Za (fun (W' : World) (L : Below W.heap.size W W') (hok : ZN d ts = true) => Zht aw at' cw ct d ts m W' (hv.next (Zb hB L)) ((ha.below (Nat.le_refl _) hB).below (Nat.le_refl _) L) hal hok hsm)
 have k0 := t0.c0
 have k1 := t0.c1
 have HWW : Hid (((w.alloc (.cells #[.int .i64 d, .slice aw ts.length cw] 26)).alloc (.cells #[.int .i64 m.1, .slice at' m.2.length ct] 29)).alloc (.cells #[.int .i64 0, .slice none 0 0] 26) = W) := by show _ = _; rw [hW1, hW2, hW]
 clear hv ha hsm hal hB b1 b2 b3 t0 t1 t2 s1 s2 s3 hW hW1 hW2
 rcases hok : ZN d ts with _ | _
 · rw [hok] at HOKT
   have HR : Hid (rD m ts d = 0 /\ rT m ts d = [] /\ rB m ts d = false) := by unfold rD rT rB; rw [hok]; exact ⟨rfl, rfl, rfl⟩
   clear hok
   go_enter Tryz.func17, Tryz.ntmps17
   go_upto_region 1 with fail
   rw [HWW.out]
   clear HWW
   go_wp2_with fail
   refine HOKT.out.mono ?_
   rintro e W0 ⟨rfl, L0⟩
   have t2 := HT2.out.below L0
   have r0 := t2.c0
   have r1 := t2.c1
   have rf0 := t2.frozen 0
   have rf1 := t2.frozen 1
   have t3 := (t2.set0 (.int .i64 0)).set1 (.slice none 0 0)
   have q0 := t3.c0
   have q1 := t3.c1
   have HLF := Za (((Zb HB.out L0).setCell (by show w.heap.size <= w.heap.size + 1 + 1; omega) (.int .i64 0)).setCell (by show w.heap.size <= w.heap.size + 1 + 1; omega) (.slice none 0 0) : Below w.heap.size w ((W0.setCell ⟨w.heap.size + 1 + 1, 0, none⟩ (.int .i64 0)).setCell ⟨w.heap.size + 1 + 1, 1, none⟩ (.slice none 0 0)))
   clear k0 k1 HOKT t2 t3 L0
   go_wp2_with fail
   refine bodyPost_ret (v := .tuple #[.agg #[.int .i64 0, .slice none 0 0], .bool false]) (by simp [results, Tryz.results17, go_sem, q0, q1]) rfl ?_
   obtain ⟨h1, h2, h3⟩ := HR.out
   rw [h1, h2, h3]
   exact ⟨none, 0, rfl, fun _ _ _ => Or.inl rfl, HLF.out⟩
 · rw [hok] at HOKT
   have HGG := Za (fun (W' : World) (L : Below W.heap.size W W') => HG.out W' L hok)
   have HR : Hid (rD m ts d = Zct m ts d /\ rT m ts d = ZbE m ts d /\ rB m ts d = Zdi m ts d) := by unfold rD rT rB; rw [hok]; exact ⟨rfl, rfl, by simp⟩
   clear hok HG
   go_enter Tryz.func17, Tryz.ntmps17
   go_upto_region 1 with fail
   rw [HWW.out]
   clear HWW
   go_wp2_with fail
   refine HOKT.out.mono ?_
   rintro e W0 ⟨rfl, L0⟩
   have HG0 := Za (HGG.out W0 L0)
   have HL0 := Za L0
   clear k0 k1 HOKT
   have k0 := (HT0.out.below L0).c0
   have k1 := (HT0.out.below L0).c1
   have m0 := (HT1.out.below L0).c0
   have m1 := (HT1.out.below L0).c1
   clear L0 HGG
   go_wp2_with fail
   refine HG0.out.mono ?_
   rintro e W3 ⟨vt, rfl, ⟨S, vm, vl, ht⟩, L3⟩
   obtain ⟨va, vc, rfl, -⟩ := ht.form
   have LL := Zb HL0.out L3
   have t2 := HT2.out.below LL
   have r0 := t2.c0
   have r1 := t2.c1
   have rf0 := t2.frozen 0
   have rf1 := t2.frozen 1
   have t3 := (t2.set0 (.int .i64 (Zct m ts d))).set1 (.slice va (ZbE m ts d).length vc)
   have q0 := t3.c0
   have q1 := t3.c1
   have hz0 := HL0.out.size
   have hsz := HSZ.out
   have HTF := Za ((ht.sm (w' := (W3.setCell ⟨w.heap.size + 1 + 1, 0, none⟩ (.int .i64 (Zct m ts d))).setCell ⟨w.heap.size + 1 + 1, 1, none⟩ (.slice va (ZbE m ts d).length vc)) ⟨by rw [Zc, Zc]; exact Nat.le_refl _, fun b hb => (Below.heap_setCell _ ⟨w.heap.size + 1 + 1, 1, none⟩ _ b (fun e => by have e' : b = w.heap.size + 1 + 1 := e; have := (ht.bnd b hb).1; omega)).trans (Below.heap_setCell _ ⟨w.heap.size + 1 + 1, 0, none⟩ _ b (fun e => by have e' : b = w.heap.size + 1 + 1 := e; have := (ht.bnd b hb).1; omega))⟩).lowm (base' := w.heap.size) (by omega)).kept
   have HLF := Za (((Zb HB.out LL).setCell (by show w.heap.size <= w.heap.size + 1 + 1; omega) (.int .i64 (Zct m ts d))).setCell (by show w.heap.size <= w.heap.size + 1 + 1; omega) (.slice va (ZbE m ts d).length vc) : Below w.heap.size w ((W3.setCell ⟨w.heap.size + 1 + 1, 0, none⟩ (.int .i64 (Zct m ts d))).setCell ⟨w.heap.size + 1 + 1, 1, none⟩ (.slice va (ZbE m ts d).length vc)))
   clear k0 k1 m0 m1 t2 t3 L3 LL ht
   go_wp2_with fail
   refine bodyPost_ret (v := .tuple #[.agg #[.int .i64 (Zct m ts d), .slice va (ZbE m ts d).length vc], .bool (Zdi m ts d)]) (by simp [results, Tryz.results17, go_sem, q0, q1]) rfl ?_
   obtain ⟨h1, h2, h3⟩ := HR.out
   rw [h1, h2, h3]
   exact ⟨va, vc, rfl, HTF.out, HLF.out⟩
theorem Zjy (aw at' : Option Addr) (cw ct : Nat) (d : Int) (ts : List Wb) (m : Mk) (w : World) (hv : ZG true w aw ts) (hsm : Zaf ts) (hno : ZN d ts = false) :
 Calls Tryz.prog 14 #[.agg #[.int .i64 d, .slice aw ts.length cw], .agg #[.int .i64 m.1, .slice at' m.2.length ct]] w fun e w' => e = .returned (.tuple #[.agg #[.int .i64 0, .slice none 0 0], .bool false]) /\ Below w.heap.size w w' := by
 obtain ⟨W1, hW1⟩ : ∃ W, w.alloc (.cells #[.int .i64 d, .slice aw ts.length cw] 26) = W := ⟨_, rfl⟩
 obtain ⟨W2, hW2⟩ : ∃ W, W1.alloc (.cells #[.int .i64 m.1, .slice at' m.2.length ct] 29) = W := ⟨_, rfl⟩
 obtain ⟨W, hW⟩ : ∃ W, W2.alloc (.cells #[.int .i64 0, .slice none 0 0] 26) = W := ⟨_, rfl⟩
 have s1 : W1.heap.size = w.heap.size + 1 := by rw [<- hW1]; simp
 have s2 : W2.heap.size = w.heap.size + 1 + 1 := by rw [<- hW2]; simp [s1]
 have b1 : Below w.heap.size w W1 := by rw [<- hW1]; exact (Below.refl _ _).alloc (Nat.le_refl _) _
 have b2 : Below W1.heap.size W1 W2 := by rw [<- hW2]; exact (Below.refl _ _).alloc (Nat.le_refl _) _
 have b3 : Below W2.heap.size W2 W := by rw [<- hW]; exact (Below.refl _ _).alloc (Nat.le_refl _) _
 have t0 : Two W w.heap.size (.int .i64 d) (.slice aw ts.length cw) 26 := by
  have : Two W1 w.heap.size (.int .i64 d) (.slice aw ts.length cw) 26 := by rw [<- hW1]; exact Two.new w _ _ _
  exact (this.below b2).below b3
 have t2 : Two W (w.heap.size + 1 + 1) (.int .i64 0) (.slice none 0 0) 26 := by rw [<- hW, <- s2]; exact Two.new W2 _ _ _
 have hB := Zb (Zb b1 b2) b3
 have HB := Za hB
 have HT2 := Za t2
 have HOKT := Za (Zdj aw cw d ts W (hv.next hB) hsm)
 rw [hno] at HOKT
 have k0 := t0.c0
 have k1 := t0.c1
 have HWW : Hid (((w.alloc (.cells #[.int .i64 d, .slice aw ts.length cw] 26)).alloc (.cells #[.int .i64 m.1, .slice at' m.2.length ct] 29)).alloc (.cells #[.int .i64 0, .slice none 0 0] 26) = W) := by show _ = _; rw [hW1, hW2, hW]
 clear hv hsm hB b1 b2 b3 t0 t2 s1 s2 hW hW1 hW2 hno
 go_enter Tryz.func14, Tryz.ntmps14
 go_upto_region 1 with fail
 rw [HWW.out]
 clear HWW
 go_wp2_with fail
 refine HOKT.out.mono ?_
 rintro e W0 ⟨rfl, L0⟩
 have t2 := HT2.out.below L0
 have r0 := t2.c0
 have r1 := t2.c1
 have rf0 := t2.frozen 0
 have rf1 := t2.frozen 1
 have t3 := (t2.set0 (.int .i64 0)).set1 (.slice none 0 0)
 have q0 := t3.c0
 have q1 := t3.c1
 have HLF := Za (((Zb HB.out L0).setCell (by show w.heap.size <= w.heap.size + 1 + 1; omega) (.int .i64 0)).setCell (by show w.heap.size <= w.heap.size + 1 + 1; omega) (.slice none 0 0) : Below w.heap.size w ((W0.setCell ⟨w.heap.size + 1 + 1, 0, none⟩ (.int .i64 0)).setCell ⟨w.heap.size + 1 + 1, 1, none⟩ (.slice none 0 0)))
 clear k0 k1 HOKT t2 t3 L0
 go_wp2_with fail
 refine bodyPost_ret (v := .tuple #[.agg #[.int .i64 0, .slice none 0 0], .bool false]) (by simp [results, Tryz.results14, go_sem, q0, q1]) rfl ?_
 exact ⟨rfl, HLF.out⟩
theorem gotFR (aw at' : Option Addr) (cw ct : Nat) (d : Int) (ts : List Wb) (m : Mk) (w : World) (hv : ZG true w aw ts) (ha : Zq w at' m.2) (hsm : Zaf ts) (hal : m.2.length <= 1048576) :
 Calls Tryz.prog 14 #[.agg #[.int .i64 d, .slice aw ts.length cw], .agg #[.int .i64 m.1, .slice at' m.2.length ct]] w fun e w' => ∃ a1 c1, e = .returned (.tuple #[.agg #[.int .i64 (rD m ts d), .slice a1 (rT m ts d).length c1], .bool (rB m ts d)]) /\ TsO true (Btw w.heap.size w'.heap.size) w' (.slice a1 (rT m ts d).length c1) (rT m ts d) /\ Below w.heap.size w w' := by
 rcases hok : ZN d ts with _ | _
 · refine (Zjy aw at' cw ct d ts m w hv hsm hok).mono ?_
   rintro e w' ⟨rfl, L⟩
   have h : rD m ts d = 0 /\ rT m ts d = [] /\ rB m ts d = false := by unfold rD rT rB; rw [hok]; exact ⟨rfl, rfl, rfl⟩
   rw [h.1, h.2.1, h.2.2]
   exact ⟨none, 0, rfl, (TsO.zero true w').mono (fun b hb => hb.2) (fun b hb => hb.elim), L⟩
 · refine (Zm2 aw at' cw ct d ts m w hv ha hal hok hsm).mono ?_
   rintro e w' ⟨vt, rfl, ⟨S, vm, vl, ht⟩, L⟩
   obtain ⟨va, vc, rfl, -⟩ := ht.form
   have h : rD m ts d = Zct m ts d /\ rT m ts d = ZbE m ts d /\ rB m ts d = Zdi m ts d := by unfold rD rT rB; rw [hok]; exact ⟨rfl, rfl, by simp⟩
   rw [h.1, h.2.1, h.2.2]
   exact ⟨va, vc, rfl, ht.out, L⟩
theorem gotIR (aw at' : Option Addr) (cw ct : Nat) (d : Int) (ts : List Wb) (m : Mk) (w : World) (hv : ZG true w aw ts) (ha : Zq w at' m.2) (hsm : Zaf ts) (hal : m.2.length <= 1048576) :
 Calls Tryz.prog 14 #[.agg #[.int .i64 d, .slice aw ts.length cw], .agg #[.int .i64 m.1, .slice at' m.2.length ct]] w fun e w' => ∃ a1 c1, e = .returned (.tuple #[.agg #[.int .i64 (rD m ts d), .slice a1 (rT m ts d).length c1], .bool (rB m ts d)]) /\ ZdD w.heap.size w' a1 (rT m ts d) /\ Below w.heap.size w w' := by
 refine (gotFR aw at' cw ct d ts m w hv ha hsm hal).mono ?_
 rintro e w' ⟨a1, c1, rfl, h, L⟩
 refine ⟨a1, c1, rfl, fun w2 hs e => ?_, L⟩
 obtain ⟨a, c, e', -, hv⟩ := h.view
 injection e' with e1 e2 e3
 subst e1
 exact hv w2 ⟨hs, fun b hb => e b hb.1 hb.2⟩
theorem ZgM {lo : List Mk} {x m : Mk} (hm : Zk (lo ++ [m]) = true) (h : Zbg lo x = true) : Zbg (lo ++ [m]) x = true := by
 obtain ⟨h1, h2⟩ := Zch.1 h
 obtain ⟨k1, -, k3⟩ := Zz h1
 have hi : Zs lo x.1 < (lo ++ [m]).length := by simp; omega
 have e1 : mid (lo ++ [m]) (Zs lo x.1) = mid lo (Zs lo x.1) := by simp [mid, List.getD, List.getElem?_append_left k1]
 have e2 : mat (lo ++ [m]) (Zs lo x.1) = mat lo (Zs lo x.1) := by simp [mat, List.getD, List.getElem?_append_left k1]
 rw [k3] at e1
 rw [h2] at e2
 obtain ⟨z1, z2⟩ := Zax hm hi
 rw [e1] at z1 z2
 exact Zch.2 ⟨by omega, by rw [z2]; exact e2⟩
theorem Zlm {lo : List Mk} {m : Mk} (hm : Zk (lo ++ [m]) = true) : Zbg (lo ++ [m]) m = true := by
 have hi : lo.length < (lo ++ [m]).length := by simp
 have e1 : mid (lo ++ [m]) lo.length = m.1 := by simp [mid, List.getD]
 have e2 : mat (lo ++ [m]) lo.length = m.2 := by simp [mat, List.getD]
 obtain ⟨z1, z2⟩ := Zax hm hi
 rw [e1] at z1 z2
 exact Zch.2 ⟨by omega, by rw [z2]; exact e2⟩
theorem ZjP {m : Mk} {ts : List Wb} {d : Int} (hok : ZN d ts = true) : ZN (Zct m ts d) (ZbE m ts d) = true := by
 rcases hr : Zdi m ts d with _ | _
 · have e1 : Zct m ts d = d := by unfold Zct; rw [hr]; rfl
   have e2 : ZbE m ts d = ts := by unfold ZbE; rw [hr]; rfl
   rw [e1, e2]; exact hok
 have e1 : Zct m ts d = Zae d := by unfold Zct; rw [hr]; rfl
 have e2 : ZbE m ts d = Zek m ts (ZdB d) := by unfold ZbE; rw [hr]; rfl
 obtain ⟨-, n1, n4⟩ := Zem (ZeG hok)
 have hl4 : ts.length = 4 := (Zad hok).1
 have hw := fun i hi => Zkk (m := m) hok i hi
 rw [e2] at hw
 rw [e1, e2]
 have hrng := Zhe (ZeG hok)
 have hin : inR (Zae d) 0 1000002 = true := by simp [inR]; omega
 unfold ZN
 rw [hin, ZbC, hl4]
 simp only [decide_true, Bool.true_and, List.all_eq_true, List.mem_range]
 intro n hn
 unfold Zbh
 rw [hw n hn, Bool.true_and, Bool.or_eq_true]
 by_cases h0 : n = 0
 · exact Or.inl (by simp [h0])
 refine Or.inr ?_
 have hb := Zcq hok (n := n - 1) (by omega)
 rw [show n - 1 + 1 = n by omega] at hb
 rw [Zel m ts _ (by omega), Zel m ts _ (by omega)]
 rw [ZaZ, List.all_eq_true] at hb ⊢
 by_cases h1 : n < ZdB d
 · rw [if_pos h1, if_pos (show n - 1 < ZdB d by omega)]
   have hm : Zk ((Ze ts (n - 1)).1 ++ [m]) = true := Zho hr (n - 1) (by omega)
   intro x hx
   rcases List.mem_append.1 hx with hx | hx
   · exact ZgM hm (hb x hx)
   · rw [List.mem_singleton.1 hx]; exact Zlm hm
 · rw [if_neg h1]
   by_cases h2 : n - 1 < ZdB d
   · rw [if_pos h2]
     have hm : Zk ((Ze ts (n - 1)).1 ++ [m]) = true := Zho hr (n - 1) h2
     exact fun x hx => ZgM hm (hb x hx)
   · rw [if_neg h2]; exact hb
theorem Zbm {base : Nat} {w w' : World} {g c : Nat} {xs : List Int} (h : ZL base w g c xs) (e : w'.heap[g]? = w.heap[g]?) : ZL base w' g c xs := Zh9 h (fun q hq => by injection hq with hq; rw [<- hq]; exact e)
theorem ZdD.step {base : Nat} {w w2 : World} {a : Option Addr} {ts : List Wb} (h : ZdD base w a ts) (hs : w.heap.size <= w2.heap.size) (e : ∀ b, base <= b -> b < w.heap.size -> w2.heap[b]? = w.heap[b]?) : ZdD base w2 a ts :=
 fun w' h1 h2 => h w' (Nat.le_trans hs h1) (fun b hb1 hb2 => (h2 b hb1 (by omega)).trans (e b hb1 hb2))
end Go.Proofs.YtaaagmgglolibaaGreat
