import Derived.Test.YtaaagmgglolibaaGreatLkWebZz
import Derived.Test.YtaaagmgglolibaaGreatFeHelpZz
import Derived.Test.YtaaagmgglolibaaGreatTwOkZz
import Derived.Test.YtaaagmgglolibaaGreatMRowZz
import Derived.Test.YtaaagmgglolibaaGreatLastZz
set_option maxRecDepth 100000
set_option maxHeartbeats 8000000
namespace Go.Proofs.YtaaagmgglolibaaGreat
open Go Go.RowKit
theorem ZkE {base : Nat} {w w' : World} {g c : Nat} {ds : List Dm} (h : ZaK base w g c ds) (e : ∀ b, base <= b -> b < w.heap.size -> w'.heap[b]? = w.heap[b]?) : ZaK base w' g c ds :=
 ⟨Zaz h.1 (e g h.lt.1 h.lt.2), fun d hd => ⟨(h.2.1 d hd).1.same (e d.2.1 (h.2.1 d hd).1.lt2.1 (h.2.1 d hd).1.lt2.2), (h.2.1 d hd).2⟩, h.2.2⟩
theorem Zj2 {base B1 gm c : Nat} {w : World} {ds : List Dm} {ms : List Mk} {ls : List (List Int)} {v : Value} {rs : List Rw} (h1 : ZaK base w gm c ds) (h2 : Zw ds = ms) (h3 : ZbF B1 w v rs) (h4 : ZaP rs = ls) (h5 : base <= B1) : OwW false (Btw base w.heap.size) w (.slice (some ⟨gm, 0, none⟩) ms.length c) v ms ls := by
 have hl : ds.length = ms.length := by rw [<- h2, ZF]
 have hr : rs.length = ls.length := by rw [<- h4, ZaP]; simp
 have hc := h1.cap
 have hv : ∃ al cl, v = .slice al ls.length cl /\ ls.length <= cl /\ ∀ w', Sta (Btw base w.heap.size) w w' -> ZW w' al ls := by
  rcases h3 with ⟨rfl, rfl⟩ | ⟨gl, cl, rfl, hm⟩
  · have : ls = [] := by rw [<- h4]; rfl
    subst this
    exact ⟨none, 0, rfl, Nat.le_refl _, fun _ _ => Or.inl rfl⟩
  · have hcap : rs.length <= cl := by
     obtain ⟨-, ⟨e, -⟩ | ⟨g', cap, cur, e, -, -, hcc, -⟩⟩ := hm.row
     · cases e
     · injection e with e1 e2 e3; omega
    refine ⟨some ⟨gl, 0, none⟩, cl, by rw [hr], by omega, fun w' hs => ?_⟩
    have := (hm.same (w' := w') (fun b hb => hs.2 b ⟨by have := (hm.all b hb).1; omega, (hm.all b hb).2⟩)).view
    rw [h4] at this
    exact this.cview
 obtain ⟨al, cl, e, hcl, hcv⟩ := hv
 refine ⟨fun b hb => hb.2, fun h => (by cases h), ⟨_, c, al, cl, rfl, e, by omega, hcl, fun w' hs => ⟨?_, hcv w' hs⟩⟩⟩
 have := (ZkE h1 (w' := w') (fun b hb1 hb2 => hs.2 b ⟨hb1, hb2⟩)).view
 rw [h2] at this
 exact this
def ZgV (base : Nat) (w : World) (v : Value) (ts : List Wb) : Prop := ∃ S vm vl, TsR false base w v ts S vm vl
theorem ZoF (v0 : Bool) (aw : Option Addr) (cw : Nat) (d : Int) (ts : List Wb) (w : World) (hv : ZG v0 w aw ts) (hok : ZN d ts = true) :
 Calls Tryz.prog 196 #[.agg #[.int .i64 d, .slice aw ts.length cw]] w fun e w' => ∃ vt, e = .returned (.agg #[.int .i64 d, vt]) /\ ZgV w.heap.size w' vt ts /\ Below w.heap.size w w' := by
 obtain ⟨j0, hj0, hy0, hy1, hy2⟩ := info_parts Tryz.info47
 obtain ⟨W1, hW1⟩ : ∃ W, w.alloc (.cells #[.int .i64 d, .slice aw ts.length cw] 26) = W := ⟨_, rfl⟩
 obtain ⟨W2, hW2⟩ : ∃ W, W1.alloc (.cells #[.int .i64 0, .slice none 0 0] 26) = W := ⟨_, rfl⟩
 obtain ⟨W, hW⟩ : ∃ W, W2.alloc (.cells #[.int .i64 d, .slice none 0 0] 26) = W := ⟨_, rfl⟩
 have s1 : W1.heap.size = w.heap.size + 1 := by rw [<- hW1]; simp
 have s2 : W2.heap.size = w.heap.size + 1 + 1 := by rw [<- hW2]; simp [s1]
 have s3 : W.heap.size = w.heap.size + 1 + 1 + 1 := by rw [<- hW]; simp [s2]
 have b1 : Below w.heap.size w W1 := by rw [<- hW1]; exact (Below.refl _ _).alloc (Nat.le_refl _) _
 have b2 : Below W1.heap.size W1 W2 := by rw [<- hW2]; exact (Below.refl _ _).alloc (Nat.le_refl _) _
 have b3 : Below W2.heap.size W2 W := by rw [<- hW]; exact (Below.refl _ _).alloc (Nat.le_refl _) _
 have t0 : Two W w.heap.size (.int .i64 d) (.slice aw ts.length cw) 26 := by
  have : Two W1 w.heap.size (.int .i64 d) (.slice aw ts.length cw) 26 := by rw [<- hW1]; exact Two.new w _ _ _
  exact (this.below b2).below b3
 have t1 : Two W (w.heap.size + 1) (.int .i64 0) (.slice none 0 0) 26 := by
  have : Two W2 (w.heap.size + 1) (.int .i64 0) (.slice none 0 0) 26 := by rw [<- hW2, <- s1]; exact Two.new W1 _ _ _
  exact this.below b3
 have t2 : Two W (w.heap.size + 1 + 1) (.int .i64 d) (.slice none 0 0) 26 := by rw [<- hW, <- s2]; exact Two.new W2 _ _ _
 have HB := Za (Zb (Zb b1 b2) b3)
 have HT := Za (And.intro t0 (And.intro t1 t2))
 have HSZ := Za s3
 have HV := Za hv
 have H4 := Za (Zad hok).1
 have HWB : Hid (∀ i, i < ts.length -> ZR (Ze ts i).1 (Ze ts i).2 = true) := fun i hi => Zay hok (by have := H4.out; omega)
 have HWW : Hid (((w.alloc (.cells #[.int .i64 d, .slice aw ts.length cw] 26)).alloc (.cells #[.int .i64 0, .slice none 0 0] 26)).alloc (.cells #[.int .i64 d, .slice none 0 0] 26) = W) := by show _ = _; rw [hW1, hW2, hW]
 have R0 := Za (TsR.start false W.heap.size W)
 clear hv hok b1 b2 b3 t0 t1 t2 s1 s2 s3 hW hW1 hW2
 go_enter Tryz.func196, Tryz.ntmps196
 go_upto_region 2 with fail
 rw [HWW.out]
 clear HWW
 go_wp2_with fail
 go_loopw [4] (fun vi wr => ∃ (i : Nat) (v : Value) (us : List Wb) (S : Nat -> Nat -> Prop) (vm vl : Nat -> Value), i <= ts.length /\ vi = .int .i64 i /\ us = ts.take i /\ us.length = i /\ Two wr (w.heap.size + 1 + 1) (.int .i64 d) v 26 /\ TsR false W.heap.size wr v us S vm vl /\ Cgd (fun b => b = w.heap.size + 1 + 1) W wr) (fun vi _ => ts.length - (intOf vi).toNat)
 case atStart => exact ⟨0, _, [], _, _, _, Nat.zero_le _, rfl, rfl, rfl, HT.out.2.2, R0.out, Cgd.refl _ _⟩
 case round =>
  obtain ⟨i, v, us, S, vm, vl, hi, rfl, hus, hul, hto, htr, K⟩ := hrel
  have hzk := K.2.2.2.1
  have hs3 := HSZ.out
  have LW : Below w.heap.size w wr := HB.out.trans (K.below (by omega) (fun b hb => by omega))
  have LX : ∀ b, b < W.heap.size -> b ≠ w.heap.size + 1 + 1 -> wr.heap[b]? = W.heap[b]? := fun b h1 h2 => K.2.2.2.2 b h1 h2
  have c1 : wr.cell? ⟨w.heap.size, 1, none⟩ = some (.slice aw ts.length cw) := (World.cell?_of_block (LX w.heap.size (by omega) (by omega))).trans HT.out.1.c1
  have HTO := Za hto
  have HTR := Za htr
  have HK := Za K
  have HLW := Za LW
  have HUS := Za (And.intro hus hul)
  have HLX := Za LX
  by_cases hlt : i < ts.length
  · obtain ⟨wb, wo, am, cm, al, cl, rfl, hwb, d0, d1, hmv, hcv, -⟩ := (HV.out.next LW).web hlt
    have hwbw : wb < w.heap.size := by
     obtain ⟨b', o', _, _, _, _, e', hb', -⟩ := HV.out.web hlt
     injection e' with e'
     injection e' with e1 e2
     omega
    have hweb := HWB.out i hlt
    have hi0 : (0 : Int) <= (i : Int) := Int.natCast_nonneg _
    have hi1 : (i : Int) < (ts.length : Int) := by omega
    have hi3 : i < 4 := by have := H4.out; omega
    obtain ⟨q1, q2, q3, q4⟩ := Za6 hweb
    have o1 := hto.c1
    have hol := hto.lt
    have hcw := c1
    have HS0 : Hid (∀ W' : World, (∀ j, j < W.heap.size -> W'.heap[j]? = wr.heap[j]?) -> W'.cell? ⟨w.heap.size + 1 + 1, 1, none⟩ = some v /\ W'.cell? ⟨w.heap.size, 1, none⟩ = some (.slice (some ⟨wb, wo, none⟩) ts.length cw) /\ W'.cell? ⟨wb, wo + i * 2, none⟩ = some (.slice am (Ze ts i).1.length cm) /\ W'.cell? ⟨wb, wo + i * 2 + 1, none⟩ = some (.slice al (Ze ts i).2.length cl)) := fun W' h => ⟨(World.cell?_of_block (h (w.heap.size + 1 + 1) (by omega))).trans o1, (World.cell?_of_block (h w.heap.size (by omega))).trans hcw, (World.cell?_of_block (a := ⟨wb, wo + i * 2, none⟩) (h wb (by omega))).trans d0, (World.cell?_of_block (a := ⟨wb, wo + i * 2 + 1, none⟩) (h wb (by omega))).trans d1⟩
    have HC := Za (ZlK am al cm cl (Ze ts i).1 (Ze ts i).2 wr.drew (hmv.next (Below.refl _ _).drew) (hcv.next (Below.refl _ _).drew) q1 q2 q3 q4)
    obtain ⟨ml, hml⟩ : ∃ ml, (Ze ts i).1.length = ml := ⟨_, rfl⟩
    obtain ⟨ll, hll⟩ : ∃ ll, (Ze ts i).2.length = ll := ⟨_, rfl⟩
    have HID := Za (And.intro hml hll)
    rw [hml] at HC HS0 d0
    rw [hll] at HC HS0 d1
    clear hml hll hto htr K LW LX hmv hcv hus hul hweb q1 q2 q3 q4 o1 hcw
    go_wp2_with fail
    clear c1 d0 d1
    refine Z6 (S := fun W' => W'.cell? ⟨w.heap.size + 1 + 1, 1, none⟩ = some v /\ W'.cell? ⟨w.heap.size, 1, none⟩ = some (.slice (some ⟨wb, wo, none⟩) ts.length cw) /\ W'.cell? ⟨wb, wo + i * 2, none⟩ = some (.slice am ml cm) /\ W'.cell? ⟨wb, wo + i * 2 + 1, none⟩ = some (.slice al ll cl)) (fuel := 4)
     [0, 1, 2, 3, 4, 5, 6] _ rfl (by kernel_rfl) (by kernel_rfl) (by kernel_rfl) (by kernel_rfl) (by kernel_rfl) (by kernel_rfl) (by kernel_rfl) (HS0.out _ (fun j _ => rfl)) (fun _ => ?_)
    iterate 7 (refine ⟨_, rfl, ?_⟩; apply Exists.intro; refine ⟨Or.inl ⟨by rfl, fun w' hw' => ?_⟩, ?_⟩; (focus (obtain ⟨e1, e2, e3, e4⟩ := hw'; first | (go_simp; done) | (go_simp; with_reducible rfl))); simp only [Act.put, List.setIfInBounds_toArray])
    refine Zd 7 (by kernel_rfl) rfl (fun K hK => ?_)
    go_simp
    refine HC.out.mono ?_
    rintro e w5 ⟨gm, c, dd, v3, rs, B1, rfl, hd1, hd2, hl1, hl2, -, -, hb1, -, L5⟩
    have L5' : Below wr.heap.size wr w5 := ⟨L5.os, L5.tape, L5.output, L5.size, L5.block⟩
    have how := Zj2 hd1 hd2 hl1 hl2 hb1
    have hdz : wr.drew.heap.size = wr.heap.size := rfl
    rw [hdz] at how
    rw [HID.out.1] at how
    obtain ⟨am3, cm3, al3, cl3, e31, rfl, -, -, -⟩ := how.view
    rw [HID.out.2] at how
    have HOW := Za how
    have HL5 := Za L5'
    have hz5 := L5'.size
    clear hd1 hd2 hl1 hl2 hb1 L5 L5' how hdz e31 HC
    rw [HID.out.2]
    refine hK.out _ _ (HS0.out _ (fun j hj => HL5.out.block j (by omega))) (fun _ => ?_)
    clear hK K
    refine Zd 8 (by kernel_rfl) rfl (fun K hK => ?_)
    go_simp
    obtain ⟨w7, hw7⟩ : ∃ w7, w5.alloc (.cells #[.slice (some ⟨gm, 0, none⟩) ml c, .slice al3 ll cl3] 47) = w7 := ⟨_, rfl⟩
    have HN7 : Hid (w7.heap[w5.heap.size]? = some (.cells #[.slice (some ⟨gm, 0, none⟩) ml c, .slice al3 ll cl3] 47 (0, 0))) := by show _ = _; rw [<- hw7]; exact heap_alloc_new w5 _
    have L57 : Below w5.heap.size w5 w7 := by rw [<- hw7]; exact (Below.refl _ _).alloc (Nat.le_refl _) _
    have hs7 : w7.heap.size = w5.heap.size + 1 := by rw [<- hw7]; simp
    have HL7 := Za (Zb HL5.out L57)
    have HTR7 := Za (HTR.out.next HL7.out)
    have HOW7 := Za (HOW.out.next L57)
    try rw [Nat.zero_add]
    try rw [hw7]
    clear hw7 L57
    refine hK.out _ _ (HS0.out _ (fun j hj => HL7.out.block j (by omega))) (fun _ => ?_)
    clear hK K
    refine Zd 9 (by kernel_rfl) rfl (fun K hK => ?_)
    refine step_append_lies w7 rfl (.tmp 16) (.tmp 23) 24 rfl W.heap.size 47 j0 _ 2 48 Tryz.underlying24 hj0 hy0 hy1 hy2 rfl (by omega) v us.length (ZbZ vm vl us.length) rfl HTR7.out.row ⟨w5.heap.size, 0, none⟩ 1 1 [.slice (some ⟨gm, 0, none⟩) ml c, .slice al3 ll cl3] rfl rfl (World.news_of_block (cs := #[.slice (some ⟨gm, 0, none⟩) ml c, .slice al3 ll cl3]) HN7.out) (by simp [Value.oneCell']) (by omega) (by have := HUS.out.2; unfold maxLen; omega) (by have := HUS.out.2; omega) (by omega) w7.heap.size rfl ?_
    intro g8 c8 w8 hown8 hgrow8 hat8 hlt8
    have hlow := HTR.out.bnd
    have hul := HUS.out.2
    have hrowlt : ∀ q, v.ownBlock = some q -> W.heap.size <= q /\ q < wr.heap.size := fun q e => hlow q (Or.inl e)
    have hOW8 : OwW false (Btw wr.heap.size w5.heap.size) w8 (.slice (some ⟨gm, 0, none⟩) ml c) (.slice al3 ll cl3) (Ze ts i).1 (Ze ts i).2 := HOW7.out.sm ⟨hgrow8.size, fun b hb => hgrow8.block b (by have := hb.2; omega) (fun e => by have := hrowlt b e.symm; have := hb.1; omega)⟩
    have HM8 := Za (HTR.out.snoc (w8 := w8) (t := Ze ts i) hown8 (by have := hgrow8.size; omega) (fun b hb hne => (hgrow8.block b (by omega) (fun e => hne e.symm)).trans (HL7.out.block b hb)) hOW8 (fun b hb => ⟨hb.1, fun e => by
     rcases hat8 with h1 | h1
     · have := hrowlt g8 h1; have := hb.1; omega
     · have := hb.2; omega⟩) (by rcases hat8 with h1 | h1; exact Or.inl h1; exact Or.inr (by omega)) (by omega) (by omega))
    have HG8 : Hid (W.heap.size <= g8) := by
     show _ <= _
     rcases hat8 with h1 | h1
     · exact (hrowlt g8 h1).1
     · omega
    have HK8 : Hid (∀ j, j < W.heap.size -> w8.heap[j]? = wr.heap[j]?) := fun j hj => (hgrow8.block j (by omega) (fun e => by have := hrowlt j e.symm; omega)).trans (HL7.out.block j (by omega))
    have hz8 := hgrow8.size
    have HKK : Hid (w8.os = wr.os /\ w8.tape = wr.tape /\ w8.output = wr.output) := ⟨hgrow8.os.trans HL7.out.os, hgrow8.tape.trans HL7.out.tape, hgrow8.output.trans HL7.out.output⟩
    clear hown8 hgrow8 hlow hrowlt hOW8 hul
    refine hK.out _ _ (HS0.out _ HK8.out) (fun _ => ?_)
    clear hK K
    refine Zd 10 (by kernel_rfl) rfl (fun K hK => ?_)
    go_simp
    refine hK.out _ _ (HS0.out _ HK8.out) (fun _ => ?_)
    clear hK K
    refine wpAnyH_done (by kernel_rfl) ?_ _
    simp only [Exit.then]
    have t8 : Two w8 (w.heap.size + 1 + 1) (.int .i64 d) v 26 := (HK8.out (w.heap.size + 1 + 1) (by omega)).trans HTO.out
    have u1 := t8.c1
    have uf1 := t8.frozen 1
    have HT9 := Za (t8.set1 (.slice (some ⟨g8, 0, none⟩) (us.length + 1) c8))
    have HM9 := Za (HM8.out.sm (w' := w8.setCell ⟨w.heap.size + 1 + 1, 1, none⟩ (.slice (some ⟨g8, 0, none⟩) (us.length + 1) c8)) ⟨by rw [Zc]; exact Nat.le_refl _, fun b hb => Below.heap_setCell w8 ⟨w.heap.size + 1 + 1, 1, none⟩ _ b (fun e => by have h1 := (HM8.out.bnd b (by simpa using hb)).1; have e' : b = w.heap.size + 1 + 1 := e; omega)⟩)
    have HK9 : Hid (Cgd (fun b => b = w.heap.size + 1 + 1) W (w8.setCell ⟨w.heap.size + 1 + 1, 1, none⟩ (.slice (some ⟨g8, 0, none⟩) (us.length + 1) c8))) := ⟨HKK.out.1.trans HK.out.1, HKK.out.2.1.trans HK.out.2.1, HKK.out.2.2.trans HK.out.2.2.1, by rw [Zc]; omega, fun j hj hne => (Below.heap_setCell w8 ⟨w.heap.size + 1 + 1, 1, none⟩ _ j (fun e => hne e)).trans ((HK8.out j hj).trans (HK.out.2.2.2.2 j hj hne))⟩
    clear HS0 HL5 HL7 HTR7 HN7 HM8 HK8 HKK t8 HOW HOW7
    go_wp2_with fail
    refine NoPanic.normal ?_
    go_wp2_with fail
    go_roundw
    case rel => exact ⟨i + 1, _, us ++ [Ze ts i], _, _, _, by omega, by go_num, by rw [HUS.out.1, List.take_add_one]; congr 1; simp [Ze, List.getD, hlt], by simp [HUS.out.2], HT9.out, HM9.out, HK9.out⟩
    case measure => simp [intOf]; omega
  · obtain rfl : i = ts.length := by omega
    have hut : us = ts := by rw [hus, List.take_length]
    subst hut
    obtain ⟨a, cc, rfl, -, -⟩ := htr.form
    have p1 : Two wr (w.heap.size + 1) (.int .i64 0) (.slice none 0 0) 26 := (LX (w.heap.size + 1) (by omega) (by omega)).trans HT.out.2.1
    have q0 := p1.c0
    have q1 := p1.c1
    have qf0 := p1.frozen 0
    have qf1 := p1.frozen 1
    have o0 := hto.c0
    have o1 := hto.c1
    have p2 := (p1.set0 (.int .i64 d)).set1 (.slice a us.length cc)
    have r0 := p2.c0
    have r1 := p2.c1
    obtain ⟨wz, hwz⟩ : ∃ wz, (wr.setCell ⟨w.heap.size + 1, 0, none⟩ (.int .i64 d)).setCell ⟨w.heap.size + 1, 1, none⟩ (.slice a us.length cc) = wz := ⟨_, rfl⟩
    have hfar : ∀ j, j ≠ w.heap.size + 1 -> wz.heap[j]? = wr.heap[j]? := fun j hj => by
     rw [<- hwz, Below.heap_setCell _ ⟨w.heap.size + 1, 1, none⟩ _ j (fun e => hj e), Below.heap_setCell _ ⟨w.heap.size + 1, 0, none⟩ _ j (fun e => hj e)]
    have hsz : wz.heap.size = wr.heap.size := by rw [<- hwz]; simp [World.setCell]
    have LE : Below w.heap.size w wz := by rw [<- hwz]; exact (LW.setCell (by show w.heap.size <= w.heap.size + 1; omega) _).setCell (by show w.heap.size <= w.heap.size + 1; omega) _
    have hF := htr.sm (w' := wz) ⟨by omega, fun b hb => hfar b (fun e => by have := (htr.bnd b hb).1; omega)⟩
    have HF : Hid (TsR false w.heap.size wz (.slice a us.length cc) us S vm vl) := ⟨ZeM hF.row (by omega), hF.webs, hF.off, hF.apart, hF.four, fun j b hj hb => by have := hF.low j b hj hb; omega⟩
    have HLE := Za LE
    have HWZ := Za hwz
    have hki : ¬ ((us.length : Int) < (us.length : Int)) := by omega
    clear htr hto K LW LX p1 p2 hfar hsz LE hF hwz HTO HTR HK HLW HUS HLX hus hul
    go_wp2_with fail
    refine bodyPost_ret (v := .agg #[.int .i64 d, .slice a us.length cc]) (by simp [results, Tryz.results196, go_sem, r0, r1]) rfl ?_
    rw [HWZ.out]
    exact ⟨_, rfl, ⟨S, vm, vl, HF.out⟩, HLE.out⟩
def Zd2 : List Wb := [([], []), ([], []), ([], []), ([], [])]
theorem Zmf (i : Nat) : Ze Zd2 i = ([], []) := by
 rcases i with _ | _ | _ | _ | i <;> first | rfl | simp [madeCells] | kernel_rfl
theorem newT (base : Nat) (w : World) (hb : base <= w.heap.size) : ZgV base (w.alloc (.cells (madeCells #[.slice none 0 0, .slice none 0 0] 8) 47)) (.slice (some ⟨w.heap.size, 0, none⟩) 4 4) Zd2 := by
 have e : (madeCells #[.slice none 0 0, .slice none 0 0] 8).toList = ZbZ (fun _ => .slice none 0 0) (fun _ => .slice none 0 0) 4 := by kernel_rfl
 have h := World.ownsRow_lit (base := base) (e := 47) (size := 2) w (madeCells #[.slice none 0 0, .slice none 0 0] 8) 4 hb (by unfold maxLen; omega) (by kernel_rfl)
 rw [e] at h
 refine ⟨fun _ _ => False, fun _ => .slice none 0 0, fun _ => .slice none 0 0, h, fun i _ => ?_, fun _ _ _ _ hf => hf, fun _ _ _ _ _ _ hf _ => hf, by decide, fun _ _ _ hf => hf.elim⟩
 rw [Zmf]
 exact OwW.zero false _
theorem Zgi : ZN 1 Zd2 = true := by kernel_rfl
theorem Zfb (w : World) :
 Calls Tryz.prog 24 #[] w fun e w' => ∃ b, e = .returned (.agg #[.int .i64 1, .slice (some ⟨b, 0, none⟩) 4 4]) /\ ZgV w.heap.size w' (.slice (some ⟨b, 0, none⟩) 4 4) Zd2 /\ Below w.heap.size w w' := by
 have hmk : ∀ w : World, (Instr.makeSlice 24 (.int .i64 4) (.int .i64 4)).run Tryz.prog w = .ok (.slice (some ⟨w.heap.size, 0, none⟩) 4 4) (w.alloc (.cells (madeCells #[.slice none 0 0, .slice none 0 0] 8) 47)) := fun w => ZaV (P := Tryz.prog) 24 47 (.agg #[.slice none 0 0, .slice none 0 0]) 2 48 Tryz.underlying24 Tryz.info47 .i64 .i64 4 (by omega) (by omega) w
 go_enter Tryz.func24, Tryz.ntmps24
 go_wp2_with fail
 refine bodyPost_ret (v := .agg #[.int .i64 1, .slice (some ⟨w.heap.size + 1, 0, none⟩) 4 4]) (by simp [results, Tryz.results24, go_sem]) rfl ?_
 refine ⟨w.heap.size + 1, rfl, ?_, ((Below.refl w.heap.size w).alloc (Nat.le_refl _) _).alloc (by simp) _⟩
 obtain ⟨W, hW⟩ : ∃ W, w.alloc (.cells #[.int .i64 1, .slice (some ⟨w.heap.size + 1, 0, none⟩) 4 4] 26) = W := ⟨_, rfl⟩
 have hs : W.heap.size = w.heap.size + 1 := by rw [<- hW]; simp
 have h := newT w.heap.size W (by omega)
 rw [hs, <- hW] at h
 exact h
end Go.Proofs.YtaaagmgglolibaaGreat
