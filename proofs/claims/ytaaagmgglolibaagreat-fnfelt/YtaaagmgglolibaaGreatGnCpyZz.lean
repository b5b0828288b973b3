import Derived.Test.YtaaagmgglolibaaGreatLkWebZz
import Derived.Test.YtaaagmgglolibaaGreatFeHelpZz
import Derived.Test.YtaaagmgglolibaaGreatTwOkZz
import Derived.Test.YtaaagmgglolibaaGreatTwArgsZz
import Derived.Test.YtaaagmgglolibaaGreatMathZz
import Derived.Test.YtaaagmgglolibaaGreatMCopyZz
import Derived.Test.YtaaagmgglolibaaGreatOnDoZz
import Derived.Test.YtaaagmgglolibaaGreatTwAskZz
import Derived.Test.YtaaagmgglolibaaGreatStHasZz
set_option maxRecDepth 100000
set_option maxHeartbeats 8000000
namespace Go.Proofs.YtaaagmgglolibaaGreat
open Go Go.RowKit
theorem ZfH {base : Nat} {w w' : World} {g c : Nat} {ds : List Dm} (h : Z8 base w g c ds) (e : ∀ b, base <= b -> b < w.heap.size -> w'.heap[b]? = w.heap[b]?) : Z8 base w' g c ds :=
 ⟨Zam h.1 (e g h.lt.1 h.lt.2), fun d hd => ⟨(h.2.1 d hd).1.same (e d.2.1 (h.2.1 d hd).1.lt2.1 (h.2.1 d hd).1.lt2.2), (h.2.1 d hd).2⟩, h.2.2⟩
theorem Zje {base B1 gm c : Nat} {w : World} {ds : List Dm} {ms : List Mk} {ls : List (List Int)} {v : Value} {rs : List Rw} (h1 : Z8 base w gm c ds) (h2 : Zs ds = ms) (h3 : Zbo B1 w v rs) (h4 : ZaJ rs = ls) (h5 : base <= B1) : OwW false (Btw base w.heap.size) w (.slice (some ⟨gm, 0, none⟩) ms.length c) v ms ls := by
 have hl : ds.length = ms.length := by rw [<- h2, ZL]
 have hr : rs.length = ls.length := by rw [<- h4, ZaJ]; simp
 have hc := h1.cap
 have hv : ∃ al cl, v = .slice al ls.length cl /\ ls.length <= cl /\ ∀ w', Sta (Btw base w.heap.size) w w' -> Zaj w' al ls := by
  rcases h3 with ⟨rfl, rfl⟩ | ⟨gl, cl, rfl, hm⟩
  · have : ls = [] := by rw [<- h4]; rfl
    subst this
    exact ⟨none, 0, rfl, Nat.le_refl _, fun _ _ => Or.inl rfl⟩
  · have hcap : rs.length <= cl := by
     obtain ⟨-, ⟨e, -⟩ | ⟨g', cap, cur, e, -, -, hcc, -⟩⟩ := hm.row
     · cases e
     · injection e with e1 e2 e3; omega
    refine ⟨some ⟨gl, 0, none⟩, cl, by rw [hr], by omega, fun w' hs => ?_⟩
    have := (hm.same (w' := w') (fun b hb => hs.2 b ⟨by have := (hm.all b hb).1; omega, (hm.all b hb).2⟩)).view
    rw [h4] at this
    exact this.cview
 obtain ⟨al, cl, e, hcl, hcv⟩ := hv
 refine ⟨fun b hb => hb.2, fun h => (by cases h), ⟨_, c, al, cl, rfl, e, by omega, hcl, fun w' hs => ⟨?_, hcv w' hs⟩⟩⟩
 have := (ZfH h1 (w' := w') (fun b hb1 hb2 => hs.2 b ⟨hb1, hb2⟩)).view
 rw [h2] at this
 exact this
def ZhW (base : Nat) (w : World) (v : Value) (ts : List Wb) : Prop := ∃ S vm vl, TsR false base w v ts S vm vl
theorem Znu (v0 : Bool) (aw : Option Addr) (cw : Nat) (d : Int) (ts : List Wb) (w : World) (hv : ZC v0 w aw ts) (hok : ZX d ts = true) :
 Calls Tryz.prog 196 #[.agg #[.int .i64 d, .slice aw ts.length cw]] w fun e w' => ∃ vt, e = .returned (.agg #[.int .i64 d, vt]) /\ ZhW w.heap.size w' vt ts /\ Below w.heap.size w w' := by
 obtain ⟨j0, hj0, hy0, hy1, hy2⟩ := info_parts Tryz.info47
 obtain ⟨W1, hW1⟩ : ∃ W, w.alloc (.cells #[.int .i64 d, .slice aw ts.length cw] 26) = W := ⟨_, rfl⟩
 obtain ⟨W2, hW2⟩ : ∃ W, W1.alloc (.cells #[.int .i64 0, .slice none 0 0] 26) = W := ⟨_, rfl⟩
 obtain ⟨W, hW⟩ : ∃ W, W2.alloc (.cells #[.int .i64 d, .slice none 0 0] 26) = W := ⟨_, rfl⟩
 have s1 : W1.heap.size = w.heap.size + 1 := by rw [<- hW1]; simp
 have s2 : W2.heap.size = w.heap.size + 1 + 1 := by rw [<- hW2]; simp [s1]
 have s3 : W.heap.size = w.heap.size + 1 + 1 + 1 := by rw [<- hW]; simp [s2]
 have b1 : Below w.heap.size w W1 := by rw [<- hW1]; exact (Below.refl _ _).alloc (Nat.le_refl _) _
 have b2 : Below W1.heap.size W1 W2 := by rw [<- hW2]; exact (Below.refl _ _).alloc (Nat.le_refl _) _
 have b3 : Below W2.heap.size W2 W := by rw [<- hW]; exact (Below.refl _ _).alloc (Nat.le_refl _) _
 have t0 : Two W w.heap.size (.int .i64 d) (.slice aw ts.length cw) 26 := by
  have : Two W1 w.heap.size (.int .i64 d) (.slice aw ts.length cw) 26 := by rw [<- hW1]; exact Two.new w _ _ _
  exact (this.below b2).below b3
 have t1 : Two W (w.heap.size + 1) (.int .i64 0) (.slice none 0 0) 26 := by
  have : Two W2 (w.heap.size + 1) (.int .i64 0) (.slice none 0 0) 26 := by rw [<- hW2, <- s1]; exact Two.new W1 _ _ _
  exact this.below b3
 have t2 : Two W (w.heap.size + 1 + 1) (.int .i64 d) (.slice none 0 0) 26 := by rw [<- hW, <- s2]; exact Two.new W2 _ _ _
 have HB := Za (Zd (Zd b1 b2) b3)
 have HT := Za (And.intro t0 (And.intro t1 t2))
 have HSZ := Za s3
 have HV := Za hv
 have H4 := Za (ZaP hok).1
 have HWB : Hid (∀ i, i < ts.length -> ZR (Ze ts i).1 (Ze ts i).2 = true) := fun i hi => Zaz hok (by have := H4.out; omega)
 have HWW : Hid (((w.alloc (.cells #[.int .i64 d, .slice aw ts.length cw] 26)).alloc (.cells #[.int .i64 0, .slice none 0 0] 26)).alloc (.cells #[.int .i64 d, .slice none 0 0] 26) = W) := by show _ = _; rw [hW1, hW2, hW]
 have R0 := Za (TsR.start false W.heap.size W)
 clear hv hok b1 b2 b3 t0 t1 t2 s1 s2 s3 hW hW1 hW2
 go_enter Tryz.func196, Tryz.ntmps196
 go_upto_region 2 with fail
 rw [HWW.out]
 clear HWW
 go_wp2_with fail
 go_loopw [4] (fun vi wr => ∃ (i : Nat) (v : Value) (us : List Wb) (S : Nat -> Nat -> Prop) (vm vl : Nat -> Value), i <= ts.length /\ vi = .int .i64 i /\ us = ts.take i /\ us.length = i /\ Two wr (w.heap.size + 1 + 1) (.int .i64 d) v 26 /\ TsR false W.heap.size wr v us S vm vl /\ Cgd (fun b => b = w.heap.size + 1 + 1) W wr) (fun vi _ => ts.length - (intOf vi).toNat)
 case atStart => exact ⟨0, _, [], _, _, _, Nat.zero_le _, rfl, rfl, rfl, HT.out.2.2, R0.out, Cgd.refl _ _⟩
 case round =>
  obtain ⟨i, v, us, S, vm, vl, hi, rfl, hus, hul, hto, htr, K⟩ := hrel
  have hzk := K.2.2.2.1
  have hs3 := HSZ.out
  have LW : Below w.heap.size w wr := HB.out.trans (K.below (by omega) (fun b hb => by omega))
  have LX : ∀ b, b < W.heap.size -> b ≠ w.heap.size + 1 + 1 -> wr.heap[b]? = W.heap[b]? := fun b h1 h2 => K.2.2.2.2 b h1 h2
  have c1 : wr.cell? ⟨w.heap.size, 1, none⟩ = some (.slice aw ts.length cw) := (World.cell?_of_block (LX w.heap.size (by omega) (by omega))).trans HT.out.1.c1
  have HTO := Za hto
  have HTR := Za htr
  have HK := Za K
  have HLW := Za LW
  have HUS := Za (And.intro hus hul)
  have HLX := Za LX
  by_cases hlt : i < ts.length
  · obtain ⟨wb, wo, am, cm, al, cl, rfl, hwb, d0, d1, hmv, hcv, -⟩ := (HV.out.next LW).web hlt
    have hwbw : wb < w.heap.size := by
     obtain ⟨b', o', _, _, _, _, e', hb', -⟩ := HV.out.web hlt
     injection e' with e'
     injection e' with e1 e2
     omega
    have hweb := HWB.out i hlt
    have hi0 : (0 : Int) <= (i : Int) := Int.natCast_nonneg _
    have hi1 : (i : Int) < (ts.length : Int) := by omega
    have hi3 : i < 4 := by have := H4.out; omega
    obtain ⟨q1, q2, q3, q4⟩ := Zbr hweb
    have o1 := hto.c1
    have hol := hto.lt
    have hcw := c1
    have HS0 : Hid (∀ W' : World, (∀ j, j < W.heap.size -> W'.heap[j]? = wr.heap[j]?) -> W'.cell? ⟨w.heap.size + 1 + 1, 1, none⟩ = some v /\ W'.cell? ⟨w.heap.size, 1, none⟩ = some (.slice (some ⟨wb, wo, none⟩) ts.length cw) /\ W'.cell? ⟨wb, wo + i * 2, none⟩ = some (.slice am (Ze ts i).1.length cm) /\ W'.cell? ⟨wb, wo + i * 2 + 1, none⟩ = some (.slice al (Ze ts i).2.length cl)) := fun W' h => ⟨(World.cell?_of_block (h (w.heap.size + 1 + 1) (by omega))).trans o1, (World.cell?_of_block (h w.heap.size (by omega))).trans hcw, (World.cell?_of_block (a := ⟨wb, wo + i * 2, none⟩) (h wb (by omega))).trans d0, (World.cell?_of_block (a := ⟨wb, wo + i * 2 + 1, none⟩) (h wb (by omega))).trans d1⟩
    have HC := Za (ZkT am al cm cl (Ze ts i).1 (Ze ts i).2 wr.drew (hmv.next (Below.refl _ _).drew) (hcv.next (Below.refl _ _).drew) q1 q2 q3 q4)
    obtain ⟨ml, hml⟩ : ∃ ml, (Ze ts i).1.length = ml := ⟨_, rfl⟩
    obtain ⟨ll, hll⟩ : ∃ ll, (Ze ts i).2.length = ll := ⟨_, rfl⟩
    have HID := Za (And.intro hml hll)
    rw [hml] at HC HS0 d0
    rw [hll] at HC HS0 d1
    clear hml hll hto htr K LW LX hmv hcv hus hul hweb q1 q2 q3 q4 o1 hcw
    go_wp2_with fail
    clear c1 d0 d1
    refine Zbh (S := fun W' => W'.cell? ⟨w.heap.size + 1 + 1, 1, none⟩ = some v /\ W'.cell? ⟨w.heap.size, 1, none⟩ = some (.slice (some ⟨wb, wo, none⟩) ts.length cw) /\ W'.cell? ⟨wb, wo + i * 2, none⟩ = some (.slice am ml cm) /\ W'.cell? ⟨wb, wo + i * 2 + 1, none⟩ = some (.slice al ll cl)) (fuel := 4)
     [0, 1, 2, 3, 4, 5, 6] _ rfl (by kernel_rfl) (by kernel_rfl) (by kernel_rfl) (by kernel_rfl) (by kernel_rfl) (by kernel_rfl) (by kernel_rfl) (HS0.out _ (fun j _ => rfl)) (fun _ => ?_)
    iterate 7 (refine ⟨_, rfl, ?_⟩; apply Exists.intro; refine ⟨Or.inl ⟨by rfl, fun w' hw' => ?_⟩, ?_⟩; (focus (obtain ⟨e1, e2, e3, e4⟩ := hw'; first | (go_simp; done) | (go_simp; with_reducible rfl))); simp only [Act.put, List.setIfInBounds_toArray])
    refine Zg 7 (by kernel_rfl) rfl (fun K hK => ?_)
    go_simp
    refine HC.out.mono ?_
    rintro e w5 ⟨gm, c, dd, v3, rs, B1, rfl, hd1, hd2, hl1, hl2, -, -, hb1, -, L5⟩
    have L5' : Below wr.heap.size wr w5 := ⟨L5.os, L5.tape, L5.output, L5.size, L5.block⟩
    have how := Zje hd1 hd2 hl1 hl2 hb1
    have hdz : wr.drew.heap.size = wr.heap.size := rfl
    rw [hdz] at how
    rw [HID.out.1] at how
    obtain ⟨am3, cm3, al3, cl3, e31, rfl, -, -, -⟩ := how.view
    rw [HID.out.2] at how
    have HOW := Za how
    have HL5 := Za L5'
    have hz5 := L5'.size
    clear hd1 hd2 hl1 hl2 hb1 L5 L5' how hdz e31 HC
    rw [HID.out.2]
    refine hK.out _ _ (HS0.out _ (fun j hj => HL5.out.block j (by omega))) (fun _ => ?_)
    clear hK K
    refine Zg 8 (by kernel_rfl) rfl (fun K hK => ?_)
    go_simp
    obtain ⟨w7, hw7⟩ : ∃ w7, w5.alloc (.cells #[.slice (some ⟨gm, 0, none⟩) ml c, .slice al3 ll cl3] 47) = w7 := ⟨_, rfl⟩
    have HN7 : Hid (w7.heap[w5.heap.size]? = some (.cells #[.slice (some ⟨gm, 0, none⟩) ml c, .slice al3 ll cl3] 47 (0, 0))) := by show _ = _; rw [<- hw7]; exact heap_alloc_new w5 _
    have L57 : Below w5.heap.size w5 w7 := by rw [<- hw7]; exact (Below.refl _ _).alloc (Nat.le_refl _) _
    have hs7 : w7.heap.size = w5.heap.size + 1 := by rw [<- hw7]; simp
    have HL7 := Za (Zd HL5.out L57)
    have HTR7 := Za (HTR.out.next HL7.out)
    have HOW7 := Za (HOW.out.next L57)
    try rw [Nat.zero_add]
    try rw [hw7]
    clear hw7 L57
    refine hK.out _ _ (HS0.out _ (fun j hj => HL7.out.block j (by omega))) (fun _ => ?_)
    clear hK K
    refine Zg 9 (by kernel_rfl) rfl (fun K hK => ?_)
    refine step_append_lies w7 rfl (.tmp 16) (.tmp 23) 24 rfl W.heap.size 47 j0 _ 2 48 Tryz.underlying24 hj0 hy0 hy1 hy2 rfl (by omega) v us.length (ZbJ vm vl us.length) rfl HTR7.out.row ⟨w5.heap.size, 0, none⟩ 1 1 [.slice (some ⟨gm, 0, none⟩) ml c, .slice al3 ll cl3] rfl rfl (World.news_of_block (cs := #[.slice (some ⟨gm, 0, none⟩) ml c, .slice al3 ll cl3]) HN7.out) (by simp [Value.oneCell']) (by omega) (by have := HUS.out.2; unfold maxLen; omega) (by have := HUS.out.2; omega) (by omega) w7.heap.size rfl ?_
    intro g8 c8 w8 hown8 hgrow8 hat8 hlt8
    have hlow := HTR.out.bnd
    have hul := HUS.out.2
    have hrowlt : ∀ q, v.ownBlock = some q -> W.heap.size <= q /\ q < wr.heap.size := fun q e => hlow q (Or.inl e)
    have hOW8 : OwW false (Btw wr.heap.size w5.heap.size) w8 (.slice (some ⟨gm, 0, none⟩) ml c) (.slice al3 ll cl3) (Ze ts i).1 (Ze ts i).2 := HOW7.out.sm ⟨hgrow8.size, fun b hb => hgrow8.block b (by have := hb.2; omega) (fun e => by have := hrowlt b e.symm; have := hb.1; omega)⟩
    have HM8 := Za (HTR.out.snoc (w8 := w8) (t := Ze ts i) hown8 (by have := hgrow8.size; omega) (fun b hb hne => (hgrow8.block b (by omega) (fun e => hne e.symm)).trans (HL7.out.block b hb)) hOW8 (fun b hb => ⟨hb.1, fun e => by
     rcases hat8 with h1 | h1
     · have := hrowlt g8 h1; have := hb.1; omega
     · have := hb.2; omega⟩) (by rcases hat8 with h1 | h1; exact Or.inl h1; exact Or.inr (by omega)) (by omega) (by omega))
    have HG8 : Hid (W.heap.size <= g8) := by
     show _ <= _
     rcases hat8 with h1 | h1
     · exact (hrowlt g8 h1).1
     · omega
    have HK8 : Hid (∀ j, j < W.heap.size -> w8.heap[j]? = wr.heap[j]?) := fun j hj => (hgrow8.block j (by omega) (fun e => by have := hrowlt j e.symm; omega)).trans (HL7.out.block j (by omega))
    have hz8 := hgrow8.size
    have HKK : Hid (w8.os = wr.os /\ w8.tape = wr.tape /\ w8.output = wr.output) := ⟨hgrow8.os.trans HL7.out.os, hgrow8.tape.trans HL7.out.tape, hgrow8.output.trans HL7.out.output⟩
    clear hown8 hgrow8 hlow hrowlt hOW8 hul
    refine hK.out _ _ (HS0.out _ HK8.out) (fun _ => ?_)
    clear hK K
    refine Zg 10 (by kernel_rfl) rfl (fun K hK => ?_)
    go_simp
    refine hK.out _ _ (HS0.out _ HK8.out) (fun _ => ?_)
    clear hK K
    refine wpAnyH_done (by kernel_rfl) ?_ _
    simp only [Exit.then]
    have t8 : Two w8 (w.heap.size + 1 + 1) (.int .i64 d) v 26 := (HK8.out (w.heap.size + 1 + 1) (by omega)).trans HTO.out
    have u1 := t8.c1
    have uf1 := t8.frozen 1
    have HT9 := Za (t8.set1 (.slice (some ⟨g8, 0, none⟩) (us.length + 1) c8))
    have HM9 := Za (HM8.out.sm (w' := w8.setCell ⟨w.heap.size + 1 + 1, 1, none⟩ (.slice (some ⟨g8, 0, none⟩) (us.length + 1) c8)) ⟨by rw [Zc]; exact Nat.le_refl _, fun b hb => Below.heap_setCell w8 ⟨w.heap.size + 1 + 1, 1, none⟩ _ b (fun e => by have h1 := (HM8.out.bnd b (by simpa using hb)).1; have e' : b = w.heap.size + 1 + 1 := e; omega)⟩)
    have HK9 : Hid (Cgd (fun b => b = w.heap.size + 1 + 1) W (w8.setCell ⟨w.heap.size + 1 + 1, 1, none⟩ (.slice (some ⟨g8, 0, none⟩) (us.length + 1) c8))) := ⟨HKK.out.1.trans HK.out.1, HKK.out.2.1.trans HK.out.2.1, HKK.out.2.2.trans HK.out.2.2.1, by rw [Zc]; omega, fun j hj hne => (Below.heap_setCell w8 ⟨w.heap.size + 1 + 1, 1, none⟩ _ j (fun e => hne e)).trans ((HK8.out j hj).trans (HK.out.2.2.2.2 j hj hne))⟩
    clear HS0 HL5 HL7 HTR7 HN7 HM8 HK8 HKK t8 HOW HOW7
    go_wp2_with fail
    refine NoPanic.normal ?_
    go_wp2_with fail
    go_roundw
    case rel => exact ⟨i + 1, _, us ++ [Ze ts i], _, _, _, by omega, by go_num, by rw [HUS.out.1, List.take_add_one]; congr 1; simp [Ze, List.getD, hlt], by simp [HUS.out.2], HT9.out, HM9.out, HK9.out⟩
    case measure => simp [intOf]; omega
  · obtain rfl : i = ts.length := by omega
    have hut : us = ts := by rw [hus, List.take_length]
    subst hut
    obtain ⟨a, cc, rfl, -, -⟩ := htr.form
    have p1 : Two wr (w.heap.size + 1) (.int .i64 0) (.slice none 0 0) 26 := (LX (w.heap.size + 1) (by omega) (by omega)).trans HT.out.2.1
    have q0 := p1.c0
    have q1 := p1.c1
    have qf0 := p1.frozen 0
    have qf1 := p1.frozen 1
    have o0 := hto.c0
    have o1 := hto.c1
    have p2 := (p1.set0 (.int .i64 d)).set1 (.slice a us.length cc)
    have r0 := p2.c0
    have r1 := p2.c1
    obtain ⟨wz, hwz⟩ : ∃ wz, (wr.setCell ⟨w.heap.size + 1, 0, none⟩ (.int .i64 d)).setCell ⟨w.heap.size + 1, 1, none⟩ (.slice a us.length cc) = wz := ⟨_, rfl⟩
    have hfar : ∀ j, j ≠ w.heap.size + 1 -> wz.heap[j]? = wr.heap[j]? := fun j hj => by
     rw [<- hwz, Below.heap_setCell _ ⟨w.heap.size + 1, 1, none⟩ _ j (fun e => hj e), Below.heap_setCell _ ⟨w.heap.size + 1, 0, none⟩ _ j (fun e => hj e)]
    have hsz : wz.heap.size = wr.heap.size := by rw [<- hwz]; simp [World.setCell]
    have LE : Below w.heap.size w wz := by rw [<- hwz]; exact (LW.setCell (by show w.heap.size <= w.heap.size + 1; omega) _).setCell (by show w.heap.size <= w.heap.size + 1; omega) _
    have hF := htr.sm (w' := wz) ⟨by omega, fun b hb => hfar b (fun e => by have := (htr.bnd b hb).1; omega)⟩
    have HF : Hid (TsR false w.heap.size wz (.slice a us.length cc) us S vm vl) := ⟨Zeq hF.row (by omega), hF.webs, hF.off, hF.apart, hF.four, fun j b hj hb => by have := hF.low j b hj hb; omega⟩
    have HLE := Za LE
    have HWZ := Za hwz
    have hki : ¬ ((us.length : Int) < (us.length : Int)) := by omega
    clear htr hto K LW LX p1 p2 hfar hsz LE hF hwz HTO HTR HK HLW HUS HLX hus hul
    go_wp2_with fail
    refine bodyPost_ret (v := .agg #[.int .i64 d, .slice a us.length cc]) (by simp [results, Tryz.results196, go_sem, r0, r1]) rfl ?_
    rw [HWZ.out]
    exact ⟨_, rfl, ⟨S, vm, vl, HF.out⟩, HLE.out⟩
def ZjT (m : Mk) (x : Wb) : Wb := (x.1 ++ [m], Zey x.1 x.2 (ZdO x.1 m.2 3) m.1)
def ZfC (m : Mk) (ts : List Wb) : Nat -> List Wb
 | 0 => ts
 | k + 1 => (ZfC m ts k).set k (ZjT m (Ze ts k))
def Ze7 (m : Mk) (ts : List Wb) : Nat -> Bool
 | 0 => true
 | k + 1 => Ze7 m ts k && Zm ((Ze ts k).1 ++ [m])
theorem ZdU (m : Mk) (ts : List Wb) : ∀ k, (ZfC m ts k).length = ts.length
 | 0 => rfl
 | k + 1 => by rw [ZfC, List.length_set, ZdU m ts k]
theorem Zml {m : Mk} {ts : List Wb} {k n : Nat} (h : Zm ((Ze ts k).1 ++ [m]) = false) (hk : k < n) : Ze7 m ts n = false := by
 induction n with
 | zero => omega
 | succ n ih =>
   unfold Ze7
   rcases Nat.lt_or_ge k n with h1 | h1
   · rw [ih h1]; rfl
   · obtain rfl : k = n := by omega
     rw [h]; simp
theorem Zlj {m : Mk} {ts : List Wb} {k : Nat} (h1 : Ze7 m ts k = true) (h : Zm ((Ze ts k).1 ++ [m]) = true) : Ze7 m ts (k + 1) = true := by
 unfold Ze7; rw [h1, h]; rfl
theorem ZdK {ts : List Wb} {k : Nat} (x : Wb) (hk : k < ts.length) (i : Nat) : Ze (ts.set k x) i = if i = k then x else Ze ts i := by
 unfold Ze
 rw [List.getD_eq_getElem?_getD, List.getD_eq_getElem?_getD, List.getElem?_set]
 by_cases e : i = k
 · subst e; simp [hk]
 · rw [if_neg (fun h => e h.symm), if_neg e]
theorem ZeD (m : Mk) (ts : List Wb) : ∀ k, k <= ts.length -> ∀ i, Ze (ZfC m ts k) i = if i < k then ZjT m (Ze ts i) else Ze ts i
 | 0, _, i => by rw [ZfC, if_neg (by omega)]
 | k + 1, hk, i => by
   rw [ZfC, ZdK _ (by rw [ZdU]; omega), ZeD m ts k (by omega) i]
   by_cases e : i = k
   · rw [if_pos e, if_pos (by omega), e]
   · rw [if_neg e]
     by_cases e2 : i < k
     · rw [if_pos e2, if_pos (by omega)]
     · rw [if_neg e2, if_neg (by omega)]
theorem ZgN (vm vl : Nat -> Value) (n k : Nat) (xm xl : Value) : ((ZbJ vm vl n).set (k * 2) xm).set (k * 2 + 1) xl = ZbJ (Zb2 vm k xm) (Zb2 vl k xl) n := by
 refine List.ext_getElem (by simp [ZbJ]) (fun j h1 h2 => ?_)
 have e1 : (ZbJ (Zb2 vm k xm) (Zb2 vl k xl) n)[j] = ZcW (Zb2 vm k xm) (Zb2 vl k xl) j := by simp [ZbJ]
 rw [e1, List.getElem_set, List.getElem_set]
 have e2 : ∀ h, (ZbJ vm vl n)[j]'h = ZcW vm vl j := fun h => by simp [ZbJ]
 unfold ZcW Zb2
 by_cases a : k * 2 + 1 = j
 · rw [if_pos a, if_neg (by omega), if_pos (by omega)]
 · rw [if_neg a]
   by_cases b : k * 2 = j
   · rw [if_pos b, if_pos (by omega), if_pos (by omega)]
   · rw [if_neg b, e2]
     unfold ZcW
     by_cases c : j % 2 = 0
     · rw [if_pos c, if_pos c, if_neg (by omega)]
     · rw [if_neg c, if_neg c, if_neg (by omega)]
theorem TsR.lowm {o : Bool} {base base' : Nat} {w : World} {v : Value} {ts : List Wb} {S : Nat -> Nat -> Prop} {vm vl : Nat -> Value} (h : TsR o base w v ts S vm vl) (hb : base' <= base) : TsR o base' w v ts S vm vl :=
 ⟨⟨h.row.1, h.row.2.imp id fun ⟨g, cap, cur, h1, h2, h3⟩ => ⟨g, cap, cur, h1, Nat.le_trans hb h2, h3⟩⟩, h.webs, h.off, h.apart, h.four, fun i b hi hs => Nat.le_trans hb (h.low i b hi hs)⟩
theorem TsR.nonil {o : Bool} {base : Nat} {w : World} {v : Value} {ts : List Wb} {S : Nat -> Nat -> Prop} {vm vl : Nat -> Value} (h : TsR o base w v ts S vm vl) (hn : 0 < ts.length) : ∃ g c, v = .slice (some ⟨g, 0, none⟩) ts.length c /\ base <= g /\ g < w.heap.size /\ ts.length <= c /\ ∀ i, i < ts.length -> w.cell? ⟨g, i * 2, none⟩ = some (vm i) /\ w.cell? ⟨g, i * 2 + 1, none⟩ = some (vl i) /\ (∀ j, w.frozen? ⟨g, j, none⟩ = false) := by
 obtain ⟨h1, ⟨rfl, h2⟩ | ⟨g, cap, cur, rfl, hb', hg, hc, h3⟩⟩ := h.row
 · omega
 · have hr := h.row
   refine ⟨g, cap, rfl, hb', (World.ownsRow.lt hr g rfl).2, hc, fun i hi => ?_⟩
   have c0 := World.ownsRow.cellAt hr (i * 2) (by omega)
   have c1 := World.ownsRow.cellAt hr (i * 2 + 1) (by omega)
   rw [Zjf (by omega)] at c0 c1
   have a0 : ZcW vm vl (i * 2) = vm i := by unfold ZcW; rw [if_pos (by omega), show i * 2 / 2 = i by omega]
   have a1 : ZcW vm vl (i * 2 + 1) = vl i := by unfold ZcW; rw [if_neg (by omega), show (i * 2 + 1) / 2 = i by omega]
   rw [a0] at c0
   rw [a1] at c1
   exact ⟨c0, c1, fun j => by simp [World.frozen?, hg]⟩
theorem TsR.put {o : Bool} {base g c : Nat} {w w' : World} {ts : List Wb} {S : Nat -> Nat -> Prop} {vm vl : Nat -> Value} (h : TsR o base w (.slice (some ⟨g, 0, none⟩) ts.length c) ts S vm vl) (L : Below w.heap.size w w') {k : Nat} (hk : k < ts.length) {F : Nat -> Prop} {xm xl : Value} {t : Wb} (hw : OwW o F w' xm xl t.1 t.2) (hF : ∀ b, F b -> w.heap.size <= b) (hbs : base <= w.heap.size) :
 TsR o base ((w'.setCell ⟨g, k * 2, none⟩ xm).setCell ⟨g, k * 2 + 1, none⟩ xl) (.slice (some ⟨g, 0, none⟩) ts.length c) (ts.set k t) (ZcP S k F) (Zb2 vm k xm) (Zb2 vl k xl) := by
 have hg := (h.bnd g (Or.inl rfl)).2
 have h' := h.next L
 have far : ∀ b, b ≠ g -> ((w'.setCell ⟨g, k * 2, none⟩ xm).setCell ⟨g, k * 2 + 1, none⟩ xl).heap[b]? = w'.heap[b]? := fun b hb => (Below.heap_setCell _ ⟨g, k * 2 + 1, none⟩ xl b (fun e => hb e)).trans (Below.heap_setCell _ ⟨g, k * 2, none⟩ xm b (fun e => hb e))
 have sz : w'.heap.size <= ((w'.setCell ⟨g, k * 2, none⟩ xm).setCell ⟨g, k * 2 + 1, none⟩ xl).heap.size := by rw [Zc, Zc]; exact Nat.le_refl _
 have hl : (ts.set k t).length = ts.length := List.length_set ..
 refine ⟨?_, fun i hi => ?_, fun i hi q e => ?_, fun i j hi hj hne b => ?_, by rw [hl]; exact h.four, fun i b hi hs => ?_⟩
 · have r1 := (World.ownsRow.stored h'.row (k * 2) xm).1
   have r2 := (World.ownsRow.stored r1 (k * 2 + 1) xl).1
   rw [ZgN] at r2
   rw [hl]
   exact r2
 · rw [hl] at hi
   rw [ZdK t hk]
   unfold ZcP Zb2
   by_cases e : i = k
   · rw [if_pos e, if_pos e, if_pos e, if_pos e]
     exact hw.sm ⟨sz, fun b hb => far b (fun eq => by have := hF b hb; omega)⟩
   · rw [if_neg e, if_neg e, if_neg e, if_neg e]
     exact (h'.webs i hi).sm ⟨sz, fun b hb => far b (fun eq => h.off i hi g rfl (eq ▸ hb))⟩
 · rw [hl] at hi
   injection e with e
   subst e
   unfold ZcP
   by_cases e : i = k
   · rw [if_pos e]
     exact fun hb => by have hx : w.heap.size <= g := hF _ hb; omega
   · rw [if_neg e]
     exact h.off i hi _ rfl
 · rw [hl] at hi hj
   unfold ZcP
   by_cases e : i = k
   · rw [if_pos e, if_neg (by omega)]
     exact fun hb hb' => by have := hF b hb; have := (h.webs j hj).bnd b hb'; omega
   · rw [if_neg e]
     by_cases e' : j = k
     · rw [if_pos e']
       exact fun hb hb' => by have := hF b hb'; have := (h.webs i hi).bnd b hb; omega
     · rw [if_neg e']
       exact h.apart i j hi hj hne b
 · rw [hl] at hi
   unfold ZcP at hs
   by_cases e : i = k
   · rw [if_pos e] at hs; have := hF b hs; omega
   · rw [if_neg e] at hs; exact h.low i b hi hs
theorem Zhd {base base' : Nat} {w : World} {g c : Nat} {ds : List Dm} (h : Z8 base w g c ds) (hb : base' <= base) : Z8 base' w g c ds :=
 have ow : ∀ {e : TypeId} {size n : Nat} {v : Value} {xs : List Value}, w.ownsRow base e size v n xs -> w.ownsRow base' e size v n xs := fun h => ⟨h.1, h.2.imp id fun ⟨g, cap, cur, h1, h2, h3⟩ => ⟨g, cap, cur, h1, Nat.le_trans hb h2, h3⟩⟩
 ⟨ow h.1, fun d hd => ⟨ow (h.2.1 d hd).1, (h.2.1 d hd).2⟩, h.2.2⟩
def LnkC (o : Bool) (f : Nat) : Prop := ∀ (am al at' : Option Addr) (cm cl ct : Nat) (x : Wb) (m : Mk) (w : World), Zw w am x.1 -> Zaj w al x.2 -> Zp w at' m.2 -> m.2.length <= 1048576 -> x.1.length <= cm -> x.2.length <= cl -> ZP x.1 -> Za3 x.2 -> ZR x.1 x.2 = true ->
 Calls Tryz.prog f #[.agg #[.slice am x.1.length cm, .slice al x.2.length cl], .agg #[.int .i64 m.1, .slice at' m.2.length ct], .int .i64 3] w fun e w' => ∃ (a1 : Option Addr) (l1 c1 : Nat) (a2 : Option Addr) (l2 c2 : Nat) (F : Nat -> Prop), e = .returned (.tuple #[.agg #[.slice a1 l1 c1, .slice a2 l2 c2], .bool (Zm (x.1 ++ [m]))]) /\ (Zm (x.1 ++ [m]) = true -> OwW o F w' (.slice a1 l1 c1) (.slice a2 l2 c2) (ZjT m x).1 (ZjT m x).2) /\ (∀ b, F b -> w.heap.size <= b /\ b < w'.heap.size) /\ Below w.heap.size w w'
theorem sLnkC : LnkC false 197 := by
 intro am al at' cm cl ct x m w hm hl ha hal _ _ _ _ hw
 refine (ZkU am al at' cm cl ct x.1 x.2 m 3 w hm hl ha hal hw).mono ?_
 rintro e w' (⟨hb, rfl, L⟩ | ⟨hb, gm, cm', gl, cl', rfl, ho, L⟩)
 · rw [hb]
   exact ⟨_, _, _, _, _, _, fun _ => False, rfl, (by intro h; cases h), (fun b h => h.elim), L⟩
 · rw [hb]
   refine ⟨_, _, _, _, _, _, Btw w.heap.size w'.heap.size, rfl, fun _ => ?_, fun b h => h, L⟩
   obtain ⟨B, ds, B', rs, h1, h2, hd, hdm, hlm, hnr, -⟩ := ho
   have hrl : rs.length = x.2.length + 1 := by
    have h1 : (ZaJ rs).length = rs.length := ZaV rs
    rw [hnr, ZdP] at h1
    rw [Zaq hw]; exact h1.symm
   have hr := Zje (base := w.heap.size) (Zhd hd h1) hdm (Or.inr ⟨gl, cl', rfl, hlm⟩) hnr h2
   rw [hrl] at hr
   rw [List.length_append, List.length_singleton] at hr
   exact hr
def Zd9 (d : Int) : Nat := (Zil (Zbw d)).toNat + 1
def ZeN (m : Mk) (ts : List Wb) (d : Int) : Bool := Ze7 m ts (Zd9 d)
def ZeO (m : Mk) (ts : List Wb) (d : Int) : Int := if ZeN m ts d = true then Zbw d else d
def Zdk (m : Mk) (ts : List Wb) (d : Int) : List Wb := if ZeN m ts d = true then ZfC m ts (Zd9 d) else ts
theorem Zgt {d : Int} (h : inR d 0 1000002 = true) : Zil (Zbw d) = ((Zd9 d : Nat) : Int) - 1 /\ 1 <= Zd9 d /\ Zd9 d <= 4 := by
 have hr : inR (Zbw d) 0 1000002 = true := by have := Zgu h; simp [inR]; omega
 have h1 := Zjg hr
 have h3 := Zmm 3 (Zbw d)
 unfold Zd9
 rw [h1]
 omega
theorem Zgv {d : Int} {ts : List Wb} (h : ZX d ts = true) : inR d 0 1000002 = true := by
 unfold ZX at h; rw [Bool.and_eq_true] at h; exact h.1
theorem ZgM (aw at' : Option Addr) (cw ct : Nat) (d : Int) (ts : List Wb) (m : Mk) (w : World) (hv : ZC true w aw ts) (ha : Zp w at' m.2) (hal : m.2.length <= 1048576) (hok : ZX d ts = true) (hsm : ZaY ts) :
 Calls Tryz.prog 110 #[.agg #[.int .i64 d, .slice aw ts.length cw], .agg #[.int .i64 m.1, .slice at' m.2.length ct]] w fun e w' => ∃ vt, e = .returned (.tuple #[.agg #[.int .i64 (ZeO m ts d), vt], .bool (ZeN m ts d)]) /\ ZhW w.heap.size w' vt (Zdk m ts d) /\ Below w.heap.size w w' := by
 obtain ⟨W1, hW1⟩ : ∃ W, w.alloc (.cells #[.int .i64 d, .slice aw ts.length cw] 26) = W := ⟨_, rfl⟩
 obtain ⟨W2, hW2⟩ : ∃ W, W1.alloc (.cells #[.int .i64 m.1, .slice at' m.2.length ct] 29) = W := ⟨_, rfl⟩
 obtain ⟨W, hW⟩ : ∃ W, W2.alloc (.cells #[.int .i64 0, .slice none 0 0] 26) = W := ⟨_, rfl⟩
 have s1 : W1.heap.size = w.heap.size + 1 := by rw [<- hW1]; simp
 have s2 : W2.heap.size = w.heap.size + 1 + 1 := by rw [<- hW2]; simp [s1]
 have s3 : W.heap.size = w.heap.size + 1 + 1 + 1 := by rw [<- hW]; simp [s2]
 have b1 : Below w.heap.size w W1 := by rw [<- hW1]; exact (Below.refl _ _).alloc (Nat.le_refl _) _
 have b2 : Below W1.heap.size W1 W2 := by rw [<- hW2]; exact (Below.refl _ _).alloc (Nat.le_refl _) _
 have b3 : Below W2.heap.size W2 W := by rw [<- hW]; exact (Below.refl _ _).alloc (Nat.le_refl _) _
 have t0 : Two W w.heap.size (.int .i64 d) (.slice aw ts.length cw) 26 := by
  have : Two W1 w.heap.size (.int .i64 d) (.slice aw ts.length cw) 26 := by rw [<- hW1]; exact Two.new w _ _ _
  exact (this.below b2).below b3
 have t1 : Two W (w.heap.size + 1) (.int .i64 m.1) (.slice at' m.2.length ct) 29 := by
  have : Two W2 (w.heap.size + 1) (.int .i64 m.1) (.slice at' m.2.length ct) 29 := by rw [<- hW2, <- s1]; exact Two.new W1 _ _ _
  exact this.below b3
 have t2 : Two W (w.heap.size + 1 + 1) (.int .i64 0) (.slice none 0 0) 26 := by rw [<- hW, <- s2]; exact Two.new W2 _ _ _
 have hB := Zd (Zd b1 b2) b3
 have HB := Za hB
 have HV := Za (fun W' (L : Below W.heap.size W W') => hv.next (Zd hB L))
 have HM := Za (fun W' (L : Below W.heap.size W W') => (ha.below (Nat.le_refl _) hB).below (Nat.le_refl _) L)
 have HT0 := Za t0
 have HT1 := Za t1
 have HT2 := Za t2
 have HSZ := Za s3
 have HOK := Za (And.intro hok (And.intro hsm hal))
 obtain ⟨hlv, hn1, hn4⟩ := Zgt (Zgv hok)
 have H4 : Hid (ts.length = 4) := (ZaP hok).1
 have HLV := Za hlv
 have HCY := Za (fun W' (L : Below W.heap.size W W') => Znu true aw cw d ts W' (hv.next (Zd hB L)) hok)
 have k0 := t0.c0
 have k1 := t0.c1
 have HWW : Hid (((w.alloc (.cells #[.int .i64 d, .slice aw ts.length cw] 26)).alloc (.cells #[.int .i64 m.1, .slice at' m.2.length ct] 29)).alloc (.cells #[.int .i64 0, .slice none 0 0] 26) = W) := by show _ = _; rw [hW1, hW2, hW]
 obtain ⟨N, hN⟩ : ∃ N, Zd9 d = N := ⟨_, rfl⟩
 have HN := Za hN
 rw [hN] at hlv hn1 hn4 HLV
 clear hv ha hok hsm hal hB b1 b2 b3 t0 t1 t2 s1 s2 s3 hW hW1 hW2 hN hlv
 go_enter Tryz.func110, Tryz.ntmps110
 go_upto_region 1 with fail
 rw [HWW.out]
 clear HWW
 go_wp2_with fail
 refine (HCY.out W (Below.refl _ _)).mono ?_
 rintro e w1 ⟨vt, rfl, ⟨S0, vm0, vl0, ht⟩, L1⟩
 clear k0 k1
 obtain ⟨g, c, rfl, hg1, hg2, hgc, -⟩ := ht.nonil (by have := H4.out; omega)
 have hS0 : ∀ i b, i < ts.length -> S0 i b -> b < w1.heap.size := fun i b hi hb => (ht.webs i hi).bnd b hb
 obtain ⟨w2, hw2⟩ : ∃ w2, w1.alloc (.cells #[.int .i64 d, .slice (some ⟨g, 0, none⟩) ts.length c] 26) = w2 := ⟨_, rfl⟩
 have L2 : Below w1.heap.size w1 w2 := by rw [<- hw2]; exact (Below.refl _ _).alloc (Nat.le_refl _) _
 have tO : Two w2 w1.heap.size (.int .i64 d) (.slice (some ⟨g, 0, none⟩) ts.length c) 26 := by rw [<- hw2]; exact Two.new w1 _ _ _
 obtain ⟨O, hO⟩ : ∃ O, w1.heap.size = O := ⟨_, rfl⟩
 have hWO : W.heap.size <= O := by have := L1.size; omega
 have HL2 := Za (Zd L1 L2)
 have HTS := Za (ht.next L2)
 have HQ2 := Za hw2
 rw [hO] at tO hS0 hg2
 have HTO := Za tO
 have HS0 : Hid ((∀ i b, i < ts.length -> S0 i b -> b ≠ O) /\ g ≠ O) := ⟨fun i b hi hb => by have := hS0 i b hi hb; omega, by omega⟩
 have k0 := (HT0.out.below HL2.out).c0
 have o0 := tO.c0
 have of0 := tO.frozen 0
 have HRL := Za (Zmn d w2)
 clear ht L1 L2 hw2 hS0 tO
 go_upto_region 2 with fail
 first | rw [HQ2.out] | skip
 first | rw [hO] | skip
 clear HQ2
 go_wp2_with fail
 refine HRL.out.mono ?_
 rintro e w3' ⟨rfl, hw3e⟩
 subst hw3e
 obtain ⟨w3, hw3⟩ : ∃ w3, w3'.setCell ⟨O, 0, none⟩ (.int .i64 (Zbw d)) = w3 := ⟨_, rfl⟩
 have HTO3 : Hid (Two w3 O (.int .i64 (Zbw d)) (.slice (some ⟨g, 0, none⟩) ts.length c) 26) := by show Two _ _ _ _ _; rw [<- hw3]; exact HTO.out.set0 _
 have HL3 : Hid (Below W.heap.size W w3) := by show Below _ _ _; rw [<- hw3]; exact HL2.out.setCell (by show W.heap.size <= O; exact hWO) _
 have HTS3 : Hid (TsR false W.heap.size w3 (.slice (some ⟨g, 0, none⟩) ts.length c) ts S0 vm0 vl0) := HTS.out.sm (by
  rw [<- hw3]
  refine ⟨by rw [Zc]; exact Nat.le_refl _, fun b hb => Below.heap_setCell _ ⟨O, 0, none⟩ _ b (fun e => ?_)⟩
  have e' : b = O := e
  rcases hb with hb | ⟨i, hi, hb⟩
  · injection hb with hb; exact HS0.out.2 (hb.trans e')
  · exact HS0.out.1 i b hi hb e')
 clear k0 hO
 go_wp2_with fail
 first | rw [hw3] | skip
 clear hw3 HTO HL2 HTS HRL o0 of0
 clear w3'
 go_loopg [7] N (fun gk iv wr => ∃ (k : Nat) (S : Nat -> Nat -> Prop) (vm vl : Nat -> Value), k <= N /\ N - k <= gk /\ iv = .int .i64 k /\ Ze7 m ts k = true /\ TsR false W.heap.size wr (.slice (some ⟨g, 0, none⟩) ts.length c) (ZfC m ts k) S vm vl /\ (∀ i b, i < ts.length -> S i b -> b ≠ O) /\ Two wr O (.int .i64 (Zbw d)) (.slice (some ⟨g, 0, none⟩) ts.length c) 26 /\ Below W.heap.size W wr)
 case atStart => exact ⟨0, _, _, _, Nat.zero_le _, Nat.sub_le _ _, rfl, rfl, HTS3.out, HS0.out.1, HTO3.out, HL3.out⟩
 case round =>
  obtain ⟨k, S, vm, vl, hk, hgk, rfl, hrb, hp, hsb, hto, L⟩ := hrel
  have hx0 := hto.c0
  have HLE := Za (Znv (Zbw d) wr)
  rw [HLV.out] at HLE
  have HP := Za hp
  have HT := Za hto
  have HL := Za L
  have HSB := Za hsb
  have HRB := Za hrb
  clear hp hto L hsb hrb
  by_cases hlt : k < N
  · have hcond : ((k : Int) <= (N : Int) - 1) := by omega
    go_wp2_with fail
    refine HLE.out.mono ?_
    rintro e wo ⟨rfl, hwo⟩
    subst hwo
    have hVr := HV.out wo HL.out
    have hkt : k < ts.length := by have := H4.out; omega
    obtain ⟨wb, wof, am, cm, al, cl, rfl, hwb, c0, c1, hmv, hcv, hcap⟩ := hVr.web hkt
    have hweb := Zaz HOK.out.1 (n := k) (by omega)
    have BLo := Za ((Below.refl wo.heap.size wo).drew)
    have HCo := Za (fun W' (L' : Below wo.heap.size wo W') => sLnkC am al at' cm cl ct (Ze ts k) m W' (hmv.next L') (hcv.next L') (HM.out W' (Zd HL.out L')) HOK.out.2.2 (hcap rfl).1 (hcap rfl).2 (HOK.out.2.1.2 k).1 (HOK.out.2.1.2 k).2 hweb)
    have hB0l := (HT0.out.below HL.out).lt
    have hB1l := (HT1.out.below HL.out).lt
    have HSo : Hid (∀ W', Below wo.heap.size wo W' -> W'.cell? ⟨w.heap.size, 1, none⟩ = some (.slice (some ⟨wb, wof, none⟩) ts.length cw) /\ W'.cell? ⟨wb, wof + k * 2, none⟩ = some (.slice am (Ze ts k).1.length cm) /\ W'.cell? ⟨wb, wof + k * 2 + 1, none⟩ = some (.slice al (Ze ts k).2.length cl) /\ W'.cell? ⟨w.heap.size + 1, 0, none⟩ = some (.int .i64 m.1) /\ W'.cell? ⟨w.heap.size + 1, 1, none⟩ = some (.slice at' m.2.length ct) /\ (0 : Int) <= (k : Int) /\ (k : Int) < (ts.length : Int)) := fun W' L' => ⟨((HT0.out.below HL.out).below L').c1, (L'.cell (p := ⟨wb, wof + k * 2, none⟩) hwb).trans c0, (L'.cell (p := ⟨wb, wof + k * 2 + 1, none⟩) hwb).trans c1, ((HT1.out.below HL.out).below L').c0, ((HT1.out.below HL.out).below L').c1, Int.natCast_nonneg _, by omega⟩
    obtain ⟨ml, hml⟩ : ∃ ml, (Ze ts k).1.length = ml := ⟨_, rfl⟩
    obtain ⟨ll, hll⟩ : ∃ ll, (Ze ts k).2.length = ll := ⟨_, rfl⟩
    rw [hml, hll] at HCo HSo
    clear hVr hmv hcv c0 c1 hcap hweb hx0 hml hll hwb
    go_wp2_with fail
    go_cut [8, 9] from 16 to 41 (fun v b wx => ∃ X a1 l1 c1 a2 l2 c2 F, v = .pointer (some ⟨X, 0, none⟩) /\ b = .bool (Zm ((Ze ts k).1 ++ [m])) /\ Two wx X (.slice a1 l1 c1) (.slice a2 l2 c2) 47 /\ (Zm ((Ze ts k).1 ++ [m]) = true -> OwW false F wx (.slice a1 l1 c1) (.slice a2 l2 c2) (ZjT m (Ze ts k)).1 (ZjT m (Ze ts k)).2) /\ (∀ b, F b -> wo.heap.size <= b) /\ wo.heap.size <= X /\ Below wo.heap.size wo wx)
    case first =>
     refine Zr (S := fun W' => Below wo.heap.size wo W') (fuel := 7) [0, 1, 2, 3, 4, 5] (by kernel_rfl) (by kernel_rfl) (by kernel_rfl) (by kernel_rfl) BLo.out (fun _ => ?_)
     iterate 6 (refine ⟨_, rfl, ?_⟩; apply Exists.intro; refine ⟨Or.inl ⟨by rfl, fun w' hw' => ?_⟩, ?_⟩; (focus (obtain ⟨e1, e2, e3, e4, e5, e6⟩ := HSo.out w' hw'; first | (go_simp; done) | (go_simp; with_reducible rfl))); simp only [Act.put, List.getElem_toArray, List.getElem_cons_succ, List.getElem_cons_zero, List.setIfInBounds_toArray, List.set_cons_zero, List.set_cons_succ])
     obtain ⟨wv0, hv0⟩ : ∃ w0, wo.drew = w0 := ⟨_, rfl⟩
     have B0 : Below wo.heap.size wo wv0 := by rw [<- hv0]; exact BLo.out
     have s0 : wo.heap.size <= wv0.heap.size := B0.size
     rw [hv0]
     clear hv0
     refine ZaU 6 10 (by kernel_rfl) rfl rfl (fun K hK => ?_) (fun K hK => ?_)
     · go_simp
       refine (HCo.out wv0 B0).mono ?_
       rintro e w2 ⟨a1, l1, c1, a2, l2, c2, F, rfl, how, hF, L2⟩
       have LA := Zd B0 L2
       refine hK.out _ _ LA (fun hS4 => ?_)
       clear hK K
       refine Zv 3 [7, 8, 9] (by kernel_rfl) (by kernel_rfl) (by kernel_rfl) hS4 ?_
       iterate 3 (refine ⟨_, rfl, ?_⟩; apply Exists.intro; refine ⟨Or.inl ⟨by rfl, fun w' hw' => ?_⟩, ?_⟩; (focus (first | (go_simp; done) | (go_simp; with_reducible rfl))); simp only [Act.put, List.getElem_toArray, List.getElem_cons_succ, List.getElem_cons_zero, List.setIfInBounds_toArray, List.set_cons_zero, List.set_cons_succ])
       refine Zg 10 (by kernel_rfl) rfl (fun K hK => ?_)
       go_simp
       refine hK.out _ _ (LA.alloc LA.size _) (fun _ => ?_)
       clear hK K
       refine Zg 11 (by kernel_rfl) rfl (fun K hK => ?_)
       go_simp
       obtain ⟨wz, hwz⟩ : ∃ wz, w2.alloc (.cells #[(.slice a1 l1 c1), (.slice a2 l2 c2)] 47) = wz := ⟨_, rfl⟩
       have LZ : Below w2.heap.size w2 wz := by rw [<- hwz]; exact (Below.refl _ _).alloc (Nat.le_refl _) _
       have HLZ := Za (Zd LA LZ)
       have HTZ : Hid (Two wz w2.heap.size (.slice a1 l1 c1) (.slice a2 l2 c2) 47) := by show Two _ _ _ _ _; rw [<- hwz]; exact Two.new w2 _ _ _
       have HOZ := Za (fun h => (how h).next LZ)
       have HFZ : Hid ((∀ b, F b -> wo.heap.size <= b) /\ wo.heap.size <= w2.heap.size) := ⟨fun b hb => by have := (hF b hb).1; omega, LA.size⟩
       rw [hwz]
       refine hK.out _ _ HLZ.out (fun hS9 => ?_)
       clear hK K hwz how hF LA L2 LZ
       refine ZH [12] rfl (by kernel_rfl) (by kernel_rfl) (by kernel_rfl) hS9 ?_
       iterate 1 (refine ⟨_, rfl, ?_⟩; apply Exists.intro; refine ⟨Or.inl ⟨by rfl, fun w' hw' => ?_⟩, ?_⟩; (focus (first | (go_simp; done) | (go_simp; with_reducible rfl))); simp only [Act.put, List.getElem_toArray, List.getElem_cons_succ, List.getElem_cons_zero, List.setIfInBounds_toArray, List.set_cons_zero, List.set_cons_succ])
       refine NoPanic.normal (NoPanic.normal ?_)
       go_wp2_with fail
       go_meet
       exact ⟨_, a1, l1, c1, a2, l2, c2, F, rfl, rfl, HTZ.out, HOZ.out, HFZ.out.1, HFZ.out.2, HLZ.out⟩
     · go_simp
       obtain ⟨Wx, hWx⟩ : ∃ W', wv0.alloc (.cells #[.slice none 0 0, .slice none 0 0] 47) = W' := ⟨_, rfl⟩
       obtain ⟨Xb, hXb⟩ : ∃ q, wv0.heap.size = q := ⟨_, rfl⟩
       have LX : Below wo.heap.size wo Wx := by rw [<- hWx]; exact B0.alloc s0 _
       have hTX : Two Wx Xb (.slice none 0 0) (.slice none 0 0) 47 := by rw [<- hWx, <- hXb]; exact Two.new wv0 _ _ _
       have hXo : wo.heap.size <= Xb := by omega
       have hXl := hTX.lt
       first | rw [hWx] | skip
       first | rw [hXb] | skip
       refine hK.out _ _ LX (fun _ => ?_)
       clear hK K hWx
       refine Zg 6 (by kernel_rfl) rfl (fun K hK => ?_)
       go_simp
       refine (HCo.out Wx LX).mono ?_
       rintro e w2 ⟨a1, l1, c1, a2, l2, c2, F, rfl, how, hF, L2⟩
       have LA := Zd LX L2
       have hT4 := hTX.below L2
       refine hK.out _ _ LA (fun hS4 => ?_)
       clear hK K
       refine Zv 2 [7, 8, 9] (by kernel_rfl) (by kernel_rfl) (by kernel_rfl) hS4 ?_
       iterate 3 (refine ⟨_, rfl, ?_⟩; apply Exists.intro; refine ⟨Or.inl ⟨by rfl, fun w' hw' => ?_⟩, ?_⟩; (focus (first | (go_simp; done) | (go_simp; with_reducible rfl))); simp only [Act.put, List.getElem_toArray, List.getElem_cons_succ, List.getElem_cons_zero, List.setIfInBounds_toArray, List.set_cons_zero, List.set_cons_succ])
       have x0 := hT4.c0
       have x1 := hT4.c1
       have xf0 := hT4.frozen 0
       have xf1 := hT4.frozen 1
       refine Zg 11 (by kernel_rfl) rfl (fun K hK => ?_)
       go_simp
       have HLZ := Za ((LA.setCell (by show wo.heap.size <= Xb; exact hXo) (.slice a1 l1 c1) : Below wo.heap.size wo (w2.setCell ⟨Xb, 0, none⟩ (.slice a1 l1 c1))).setCell (by show wo.heap.size <= Xb; exact hXo) (.slice a2 l2 c2) : Below wo.heap.size wo ((w2.setCell ⟨Xb, 0, none⟩ (.slice a1 l1 c1)).setCell ⟨Xb, 1, none⟩ (.slice a2 l2 c2)))
       have HTZ := Za ((hT4.set0 (.slice a1 l1 c1)).set1 (.slice a2 l2 c2))
       have HOZ := Za (fun h => (how h).sm (w' := (w2.setCell ⟨Xb, 0, none⟩ (.slice a1 l1 c1)).setCell ⟨Xb, 1, none⟩ (.slice a2 l2 c2)) ⟨by rw [Zc, Zc]; exact Nat.le_refl _, fun b hb => (Below.heap_setCell _ ⟨Xb, 1, none⟩ _ b (fun e => by have e' : b = Xb := e; have := (hF b hb).1; omega)).trans (Below.heap_setCell _ ⟨Xb, 0, none⟩ _ b (fun e => by have e' : b = Xb := e; have := (hF b hb).1; omega))⟩)
       have HFZ : Hid (∀ b, F b -> wo.heap.size <= b) := fun b hb => by have := (hF b hb).1; omega
       clear how hF
       generalize (w2.setCell ⟨Xb, 0, none⟩ (.slice a1 l1 c1)).setCell ⟨Xb, 1, none⟩ (.slice a2 l2 c2) = wz at *
       refine hK.out _ _ HLZ.out (fun hS9 => ?_)
       clear hK K x0 x1 xf0 xf1 LA L2 hT4
       refine ZH [12] rfl (by kernel_rfl) (by kernel_rfl) (by kernel_rfl) hS9 ?_
       iterate 1 (refine ⟨_, rfl, ?_⟩; apply Exists.intro; refine ⟨Or.inl ⟨by rfl, fun w' hw' => ?_⟩, ?_⟩; (focus (first | (go_simp; done) | (go_simp; with_reducible rfl))); simp only [Act.put, List.getElem_toArray, List.getElem_cons_succ, List.getElem_cons_zero, List.setIfInBounds_toArray, List.set_cons_zero, List.set_cons_succ])
       refine NoPanic.normal (NoPanic.normal ?_)
       go_wp2_with fail
       go_meet
       exact ⟨Xb, a1, l1, c1, a2, l2, c2, F, rfl, rfl, HTZ.out, HOZ.out, HFZ.out, hXo, HLZ.out⟩
    case rest =>
     obtain ⟨X, a1, l1, c1, a2, l2, c2, F, rfl, rfl, hTX, hOW, hFX, hXW, LW⟩ := hcut
     generalize hwc : wc = w5 at *
     clear hwc wc HCo HSo BLo HLE
     have HL5 := Za (Zd HL.out LW)
     have HP5 := Za (HP.out.next LW)
     have HT5 := Za (HT.out.below LW)
     rcases hmb : Zm ((Ze ts k).1 ++ [m]) with _ | _
     · have t05 := HT0.out.below HL5.out
       have k0 := t05.c0
       have k1 := t05.c1
       have HCY5 := Za (HCY.out w5 HL5.out)
       have HNO : Hid (ZeN m ts d = false) := Zml hmb (by rw [HN.out]; exact hlt)
       clear hOW hTX t05
       go_wp2_with fail
       refine HCY5.out.mono ?_
       rintro e w6 ⟨vt, rfl, hcp, L6⟩
       obtain ⟨va, vc, rfl⟩ : ∃ va vc, vt = .slice va ts.length vc := by obtain ⟨_, _, _, h⟩ := hcp; obtain ⟨a, c, e, -⟩ := h.form; exact ⟨a, c, e⟩
       have t26 := HT2.out.below (Zd HL5.out L6)
       have r0 := t26.c0
       have r1 := t26.c1
       have rf0 := t26.frozen 0
       have rf1 := t26.frozen 1
       have t27 := (t26.set0 (.int .i64 d)).set1 (.slice va ts.length vc)
       have q0 := t27.c0
       have q1 := t27.c1
       obtain ⟨S1, vm1, vl1, hts1⟩ := hcp
       have hz5 := HL5.out.size
       have hsz := HSZ.out
       have HTF := Za ((hts1.sm (w' := (w6.setCell ⟨w.heap.size + 1 + 1, 0, none⟩ (.int .i64 d)).setCell ⟨w.heap.size + 1 + 1, 1, none⟩ (.slice va ts.length vc)) ⟨by rw [Zc, Zc]; exact Nat.le_refl _, fun b hb => (Below.heap_setCell _ ⟨w.heap.size + 1 + 1, 1, none⟩ _ b (fun e => by have e' : b = w.heap.size + 1 + 1 := e; have := (hts1.bnd b hb).1; omega)).trans (Below.heap_setCell _ ⟨w.heap.size + 1 + 1, 0, none⟩ _ b (fun e => by have e' : b = w.heap.size + 1 + 1 := e; have := (hts1.bnd b hb).1; omega))⟩).lowm (base' := w.heap.size) (by omega))
       have HLF := Za (((Zd HB.out (Zd HL5.out L6)).setCell (by show w.heap.size <= w.heap.size + 1 + 1; omega) (.int .i64 d)).setCell (by show w.heap.size <= w.heap.size + 1 + 1; omega) (.slice va ts.length vc) : Below w.heap.size w ((w6.setCell ⟨w.heap.size + 1 + 1, 0, none⟩ (.int .i64 d)).setCell ⟨w.heap.size + 1 + 1, 1, none⟩ (.slice va ts.length vc)))
       clear hts1 t26 t27 L6 k0 k1
       go_wp2_with fail
       refine bodyPost_ret (v := .tuple #[.agg #[.int .i64 d, (.slice va ts.length vc)], .bool false]) (by simp [results, Tryz.results110, go_sem, q0, q1]) rfl ?_
       refine ⟨(.slice va ts.length vc), ?_, ⟨S1, vm1, vl1, ?_⟩, HLF.out⟩
       · unfold ZeO; rw [HNO.out]; rfl
       · unfold Zdk; rw [HNO.out]; exact HTF.out
     · have HOW := Za (hOW hmb)
       have HMB := Za hmb
       have hRL := ZdU m ts k
       have hPL := HP.out
       rw [<- hRL] at hPL
       have HPU := Za (hPL.put LW (k := k) (by rw [hRL]; exact hkt) HOW.out hFX HL.out.size)
       rw [hRL] at HPU
       have hcl : ∀ i, i < (ZfC m ts k).length -> w5.cell? ⟨g, i * 2, none⟩ = some (vm i) /\ w5.cell? ⟨g, i * 2 + 1, none⟩ = some (vl i) /\ ∀ j, w5.frozen? ⟨g, j, none⟩ = false := by
        obtain ⟨g', c', hge, -, -, -, hcl⟩ := (HP5.out).nonil (by rw [hRL]; omega)
        injection hge with h1 h2 h3
        injection h1 with h1
        injection h1 with h1
        subst h1
        exact hcl
       obtain ⟨e0, e1, ef⟩ := hcl k (by rw [hRL]; exact hkt)
       have f0 := ef (k * 2)
       have f1 := ef (k * 2 + 1)
       have o1 := HT5.out.c1
       have x0 := hTX.c0
       have x1 := hTX.c1
       have hi0 : (0 : Int) <= (k : Int) := Int.natCast_nonneg _
       have hi1 : (k : Int) < (ts.length : Int) := by omega
       have hgo : g ≠ O := HS0.out.2
       have HE : Hid (Two ((w5.setCell ⟨g, k * 2, none⟩ (.slice a1 l1 c1)).setCell ⟨g, k * 2 + 1, none⟩ (.slice a2 l2 c2)) O (.int .i64 (Zbw d)) (.slice (some ⟨g, 0, none⟩) ts.length c) 26 /\ Below W.heap.size W ((w5.setCell ⟨g, k * 2, none⟩ (.slice a1 l1 c1)).setCell ⟨g, k * 2 + 1, none⟩ (.slice a2 l2 c2))) :=
        ⟨(HT5.out.far hgo _).far hgo _, (HL5.out.setCell (by show W.heap.size <= g; exact hg1) _).setCell (by show W.heap.size <= g; exact hg1) _⟩
       have hOl := HT.out.lt
       have HSN : Hid (∀ i b, i < ts.length -> ZcP S k F i b -> b ≠ O) := fun i b hi hb => by
        unfold ZcP at hb
        by_cases e : i = k
        · rw [if_pos e] at hb; have := hFX b hb; omega
        · rw [if_neg e] at hb; exact HSB.out i b hi hb
       have HRN := Za (Zlj HRB.out hmb)
       clear hPL hRL hcl ef hOW hTX HP HT HL HP5 HT5 HL5 LW
       go_wp2_with fail
       go_roundg (N - (k + 1))
       case rel => exact ⟨k + 1, _, _, _, by omega, Nat.le_refl _, by go_num, HRN.out, HPU.out, HSN.out, HE.out.1, HE.out.2⟩
       case measure => omega
  · obtain rfl : k = N := by omega
    have hcond : ¬ ((k : Int) <= (k : Int) - 1) := by omega
    have HYES : Hid (ZeN m ts d = true) := by show Ze7 m ts (Zd9 d) = true; rw [HN.out]; exact HRB.out
    have t2 := HT2.out.below HL.out
    have r0 := t2.c0
    have r1 := t2.c1
    have rf0 := t2.frozen 0
    have rf1 := t2.frozen 1
    have x1 := HT.out.c1
    have t3 := (t2.set0 (.int .i64 (Zbw d))).set1 (.slice (some ⟨g, 0, none⟩) ts.length c)
    have q0 := t3.c0
    have q1 := t3.c1
    have hz := HL.out.size
    have hsz := HSZ.out
    have HTF := Za ((HP.out.sm (w' := (wr.setCell ⟨w.heap.size + 1 + 1, 0, none⟩ (.int .i64 (Zbw d))).setCell ⟨w.heap.size + 1 + 1, 1, none⟩ (.slice (some ⟨g, 0, none⟩) ts.length c)) ⟨by rw [Zc, Zc]; exact Nat.le_refl _, fun b hb => (Below.heap_setCell _ ⟨w.heap.size + 1 + 1, 1, none⟩ _ b (fun e => by have e' : b = w.heap.size + 1 + 1 := e; have := (HP.out.bnd b hb).1; omega)).trans (Below.heap_setCell _ ⟨w.heap.size + 1 + 1, 0, none⟩ _ b (fun e => by have e' : b = w.heap.size + 1 + 1 := e; have := (HP.out.bnd b hb).1; omega))⟩).lowm (base' := w.heap.size) (by omega))
    have HLF := Za (((Zd HB.out HL.out).setCell (by show w.heap.size <= w.heap.size + 1 + 1; omega) (.int .i64 (Zbw d))).setCell (by show w.heap.size <= w.heap.size + 1 + 1; omega) (.slice (some ⟨g, 0, none⟩) ts.length c) : Below w.heap.size w ((wr.setCell ⟨w.heap.size + 1 + 1, 0, none⟩ (.int .i64 (Zbw d))).setCell ⟨w.heap.size + 1 + 1, 1, none⟩ (.slice (some ⟨g, 0, none⟩) ts.length c)))
    clear t2 t3
    go_wp2_with fail
    refine HLE.out.mono ?_
    rintro e wo ⟨rfl, hwo⟩
    subst hwo
    go_wp2_with fail
    refine bodyPost_ret (v := .tuple #[.agg #[.int .i64 (Zbw d), .slice (some ⟨g, 0, none⟩) ts.length c], .bool true]) (by simp [results, Tryz.results110, go_sem, q0, q1]) rfl ?_
    refine ⟨.slice (some ⟨g, 0, none⟩) ts.length c, ?_, ⟨S, vm, vl, ?_⟩, HLF.out⟩
    · unfold ZeO; rw [HYES.out]; rfl
    · unfold Zdk; rw [HYES.out, HN.out]; exact HTF.out
theorem Zl6 {x : Wb} (h : ZR x.1 x.2 = true) : ZP x.1 /\ Za3 x.2 := by
 obtain ⟨h1, h2, h3, h4⟩ := Zbr h
 exact ⟨⟨by omega, fun i => by have := h2 i; omega⟩, ⟨by omega, fun i => by have := h4 i; omega⟩⟩
theorem Zgw {m : Mk} {ts : List Wb} : ∀ {n : Nat}, Ze7 m ts n = true -> ∀ k, k < n -> Zm ((Ze ts k).1 ++ [m]) = true
 | 0, _, k, hk => by omega
 | n + 1, h, k, hk => by
   unfold Ze7 at h
   rw [Bool.and_eq_true] at h
   rcases Nat.lt_or_ge k n with h1 | h1
   · exact Zgw h.1 k h1
   · obtain rfl : k = n := by omega
     exact h.2
theorem Zmo {m : Mk} {ts : List Wb} {d : Int} (hok : ZX d ts = true) (i : Nat) (hi : i < 4) : ZR (Ze (Zdk m ts d) i).1 (Ze (Zdk m ts d) i).2 = true := by
 have hw := Zaz hok (n := i) hi
 unfold Zdk
 by_cases h : ZeN m ts d = true
 · rw [if_pos h]
   obtain ⟨-, -, hn⟩ := Zgt (Zgv hok)
   rw [ZeD m ts _ (by have := (ZaP hok).1; omega)]
   by_cases e : i < Zd9 d
   · rw [if_pos e]
     exact ZeV hw (Zgw h i e) (Zdx (Zz hw))
   · rw [if_neg e]; exact hw
 · rw [if_neg h]; exact hw
def ZaG (base : Nat) (w : World) (a : Option Addr) (ts : List Wb) : Prop := ∀ w' : World, w.heap.size <= w'.heap.size -> (∀ b, base <= b -> b < w.heap.size -> w'.heap[b]? = w.heap[b]?) -> ZC true w' a ts
theorem TsR.kept {o : Bool} {base : Nat} {w : World} {a : Option Addr} {n c : Nat} {ts : List Wb} {S : Nat -> Nat -> Prop} {vm vl : Nat -> Value} (h : TsR o base w (.slice a n c) ts S vm vl) : ZaG base w a ts := fun w' hs e => by
 obtain ⟨a', c', e', -, hv⟩ := (h.sm (w' := w') ⟨hs, fun b hb => e b (h.bnd b hb).1 (h.bnd b hb).2⟩).form
 injection e' with e1 e2 e3
 subst e1
 exact hv
theorem ZfS {lo : List Mk} {x m : Mk} (hm : Zm (lo ++ [m]) = true) (h : ZaI lo x = true) : ZaI (lo ++ [m]) x = true := by
 obtain ⟨h1, h2⟩ := Zbx.1 h
 obtain ⟨k1, -, k3⟩ := Zx h1
 have hi : Zn lo x.1 < (lo ++ [m]).length := by simp; omega
 have e1 : mid (lo ++ [m]) (Zn lo x.1) = mid lo (Zn lo x.1) := by simp [mid, List.getD, List.getElem?_append_left k1]
 have e2 : mat (lo ++ [m]) (Zn lo x.1) = mat lo (Zn lo x.1) := by simp [mat, List.getD, List.getElem?_append_left k1]
 rw [k3] at e1
 rw [h2] at e2
 obtain ⟨z1, z2⟩ := ZaO hm hi
 rw [e1] at z1 z2
 exact Zbx.2 ⟨by omega, by rw [z2]; exact e2⟩
theorem ZjU {lo : List Mk} {m : Mk} (hm : Zm (lo ++ [m]) = true) : ZaI (lo ++ [m]) m = true := by
 have hi : lo.length < (lo ++ [m]).length := by simp
 have e1 : mid (lo ++ [m]) lo.length = m.1 := by simp [mid, List.getD]
 have e2 : mat (lo ++ [m]) lo.length = m.2 := by simp [mat, List.getD]
 obtain ⟨z1, z2⟩ := ZaO hm hi
 rw [e1] at z1 z2
 exact Zbx.2 ⟨by omega, by rw [z2]; exact e2⟩
theorem Zi2 {m : Mk} {ts : List Wb} {d : Int} (hok : ZX d ts = true) : ZX (ZeO m ts d) (Zdk m ts d) = true := by
 rcases hr : ZeN m ts d with _ | _
 · have e1 : ZeO m ts d = d := by unfold ZeO; rw [hr]; rfl
   have e2 : Zdk m ts d = ts := by unfold Zdk; rw [hr]; rfl
   rw [e1, e2]; exact hok
 have e1 : ZeO m ts d = Zbw d := by unfold ZeO; rw [hr]; rfl
 have e2 : Zdk m ts d = ZfC m ts (Zd9 d) := by unfold Zdk; rw [hr]; rfl
 obtain ⟨-, n1, n4⟩ := Zgt (Zgv hok)
 have hl4 : ts.length = 4 := (ZaP hok).1
 have hw := fun i hi => Zmo (m := m) hok i hi
 rw [e2] at hw
 rw [e1, e2]
 have hrng := Zgu (Zgv hok)
 have hin : inR (Zbw d) 0 1000002 = true := by simp [inR]; omega
 unfold ZX
 rw [hin, ZdU, hl4]
 simp only [decide_true, Bool.true_and, List.all_eq_true, List.mem_range]
 intro n hn
 unfold Za7
 rw [hw n hn, Bool.true_and, Bool.or_eq_true]
 by_cases h0 : n = 0
 · exact Or.inl (by simp [h0])
 refine Or.inr ?_
 have hb := Zb5 hok (n := n - 1) (by omega)
 rw [show n - 1 + 1 = n by omega] at hb
 rw [ZeD m ts _ (by omega), ZeD m ts _ (by omega)]
 rw [Zar, List.all_eq_true] at hb ⊢
 by_cases h1 : n < Zd9 d
 · rw [if_pos h1, if_pos (show n - 1 < Zd9 d by omega)]
   have hm : Zm ((Ze ts (n - 1)).1 ++ [m]) = true := Zgw hr (n - 1) (by omega)
   intro x hx
   rcases List.mem_append.1 hx with hx | hx
   · exact ZfS hm (hb x hx)
   · rw [List.mem_singleton.1 hx]; exact ZjU hm
 · rw [if_neg h1]
   by_cases h2 : n - 1 < Zd9 d
   · rw [if_pos h2]
     have hm : Zm ((Ze ts (n - 1)).1 ++ [m]) = true := Zgw hr (n - 1) h2
     exact fun x hx => ZfS hm (hb x hx)
   · rw [if_neg h2]; exact hb
end Go.Proofs.YtaaagmgglolibaaGreat
namespace Go.Proofs.YtaaagmgglolibaaGreat
open Go
theorem Zea {ms : List Mk} {q : List Int} {x : Ht} (h : x ∈ ZM ms q) : ∃ n, n < ms.length /\ mid ms n = x.1 /\ ZN (mat ms n) q = x.2 := by
 obtain ⟨m, hm, rfl⟩ := List.mem_map.1 h
 obtain ⟨n, hn, e⟩ := List.mem_iff_getElem.1 hm
 refine ⟨n, hn, ?_, ?_⟩
 · simp [mid, List.getD, hn, e, ZfD]
 · simp [mat, List.getD, hn, e, ZfD]
theorem Zim (ms : List Mk) (ls : List (List Int)) (fr : Int) (q : List Int) (wide : Int) : Z0 (Zau ms ls fr q wide) := by
 by_cases h : ZaX ms ls fr q = true /\ ZE wide = true
 · obtain ⟨s, ids, hb, e⟩ := Zhe (ls := ls) h.1 h.2
   rw [e]
   exact Z0.take (ZcC (by rw [hb.sn]; exact ZaK _) (Zcf hb)) _
 · have e : Zau ms ls fr q wide = [] := by unfold Zau; rw [if_neg h]
   rw [e]
   exact List.Pairwise.nil
theorem ZfT (a : Ht) : Zu a a = false := by simp [Zu]
theorem ZcX : ∀ (L l : List Ht), Z0 l -> Z0 L -> (∀ x ∈ l, x ∈ L) -> l.length <= L.length /\ ∀ i, i < l.length -> Zu (Zf l i) (Zf L i) = false
 | [], l, _, _, h => by
   cases l with
   | nil => exact ⟨Nat.le_refl _, fun i hi => absurd hi (by simp)⟩
   | cons b l => exact absurd (h b (List.mem_cons_self ..)) (by simp)
 | a :: L, [], _, _, _ => ⟨Nat.zero_le _, fun i hi => absurd hi (by simp)⟩
 | a :: L, b :: l, hl, hL, h => by
   have hl1 : ∀ x ∈ l, Zu b x = true := fun x hx => List.rel_of_pairwise_cons hl hx
   have hl2 : Z0 l := List.Pairwise.of_cons hl
   have hL1 : ∀ x ∈ L, Zu a x = true := fun x hx => List.rel_of_pairwise_cons hL hx
   have hL2 : Z0 L := List.Pairwise.of_cons hL
   by_cases e : b = a
   · subst e
     have hs : ∀ x ∈ l, x ∈ L := fun x hx => by
      rcases List.mem_cons.1 (h x (List.mem_cons_of_mem _ hx)) with e | e
      · have := hl1 x hx
        rw [e, ZfT] at this; cases this
      · exact e
     obtain ⟨h1, h2⟩ := ZcX L l hl2 hL2 hs
     refine ⟨by simp only [List.length_cons]; omega, fun i hi => ?_⟩
     cases i with
     | zero => exact ZfT _
     | succ i => exact h2 i (by simp only [List.length_cons] at hi; omega)
   · have hb : b ∈ L := by
      rcases List.mem_cons.1 (h b (List.mem_cons_self ..)) with e' | e'
      · exact absurd e' e
      · exact e'
     have hab := hL1 b hb
     have hs : ∀ x ∈ b :: l, x ∈ L := fun x hx => by
      rcases List.mem_cons.1 (h x hx) with e' | e'
      · subst e'
        rcases List.mem_cons.1 hx with e2 | e2
        · exact absurd e2.symm e
        · have := hl1 x e2
          rw [Zae] at hab this
          omega
      · exact e'
     obtain ⟨h1, h2⟩ := ZcX L (b :: l) hl hL2 hs
     refine ⟨by simp only [List.length_cons] at h1 ⊢; omega, fun i hi => ?_⟩
     have no : ∀ x y : Ht, (¬ (x.2 < y.2 \/ (x.2 = y.2 /\ x.1 < y.1))) -> Zu x y = false := fun x y hn => by
      rcases hx : Zu x y with _ | _
      · rfl
      · exact absurd ((Zae x y).1 hx) hn
     cases i with
     | zero =>
       refine no _ _ ?_
       rw [Zae] at hab
       show ¬ (b.2 < a.2 \/ (b.2 = a.2 /\ b.1 < a.1))
       omega
     | succ i =>
       have hi' : i < l.length := by simp only [List.length_cons] at hi; omega
       have e1 : Zf (a :: L) (i + 1) = Zf L i := by simp [Zf, List.getD]
       have e2 : Zf (b :: l) (i + 1) = Zf l i := by simp [Zf, List.getD]
       have hp := List.pairwise_iff_getElem.1 hl i (i + 1) (by simp only [List.length_cons]; omega) (by simp only [List.length_cons]; omega) (by omega)
       have g1 : (b :: l)[i]'(by simp only [List.length_cons]; omega) = Zf (b :: l) i := by simp [Zf, List.getD, List.getElem?_eq_getElem (show i < (b :: l).length by simp only [List.length_cons]; omega)]
       have g2 : (b :: l)[i + 1]'(by simp only [List.length_cons]; omega) = Zf l i := by simp [Zf, List.getD, hi']
       rw [g1, g2, Zae] at hp
       have hq := h2 i (by simp only [List.length_cons]; omega)
       rw [ZF] at hq
       unfold leH at hq
       rw [e1, e2]
       exact no _ _ (by omega)
theorem Zes {l : List Ht} {k i : Nat} (h : i < k) : Zf (l.take k) i = Zf l i := by simp [Zf, List.getD, h]
theorem Zlk {lo hi : List Mk} {q : List Int} {x : Ht} (hlo : Zm lo = true) (hb : Zar lo hi = true) (hx : x ∈ ZM lo q) (hf : 0 <= Zk hi x.1) : x ∈ ZM hi q := by
 obtain ⟨i, hi1, e1, e2⟩ := Zea hx
 obtain ⟨j1, -, j3⟩ := Zx hf
 obtain ⟨b1, b2⟩ := Zcp hb j1
 rw [j3] at b1 b2
 have hz := (ZaO hlo hi1).2
 rw [e1] at hz
 rw [hz, ] at b2
 refine List.mem_map.2 ⟨hi[Zn hi x.1], List.getElem_mem j1, ?_⟩
 have g1 : mid hi (Zn hi x.1) = (hi[Zn hi x.1]).1 := by simp [mid, List.getD, j1]
 have g2 : mat hi (Zn hi x.1) = (hi[Zn hi x.1]).2 := by simp [mat, List.getD, j1]
 unfold ZfD
 rw [<- g1, <- g2, j3, <- b2, e2]
theorem Zin (wd : Int) (ms : List Mk) (d : Int) (ts : List Wb) (nx : Int) (q : List Int) (k : Int) :
 Zdo (Zaw wd ms d ts nx q k) = true /\ (∀ x ∈ Zaw wd ms d ts nx q k, x ∈ ZM ms q) /\ (∀ x ∈ exL wd ms d ts nx q k, x ∈ ZM ms q) /\ (Zaw wd ms d ts nx q k).length <= (exL wd ms d ts nx q k).length /\ (∀ i, i < (Zaw wd ms d ts nx q k).length -> Zu (Zf (Zaw wd ms d ts nx q k) i) (Zf (exL wd ms d ts nx q k) i) = false) /\ (Zaw wd ms d ts nx q k).length <= 61 /\ (exL wd ms d ts nx q k).length <= 61 := by
 have l1 := ZjV (wd := wd) (ms := ms) (d := d) (ts := ts) (nx := nx) (q := q) (k := k)
 have l2 := Zmp (wd := wd) (ms := ms) (d := d) (ts := ts) (nx := nx) (q := q) (k := k)
 rcases ht : ZaQ wd ms d ts nx q k with _ | _
 · have e1 : Zaw wd ms d ts nx q k = [] := by unfold Zaw; rw [ht]; rfl
   have e2 : exL wd ms d ts nx q k = [] := by unfold exL; rw [ht]; rfl
   rw [e1, e2]
   exact ⟨rfl, fun x hx => (by cases hx), fun x hx => (by cases hx), Nat.le_refl _, fun i hi => absurd hi (by simp), by simp, by simp⟩
 · have ht' := ht
   simp only [ZaQ, Bool.and_eq_true, decide_eq_true_eq] at ht'
   obtain ⟨hs, hq, hl, hk⟩ := ht'
   obtain ⟨hmb, htw, hgr, hbr⟩ := Zcq hs
   have hg := ZcY hs hq hl
   have htd := ZfU hbr hmb hg
   have e1 : Zaw wd ms d ts nx q k = Zhf ms ts q k := by unfold Zaw; rw [ht]; rfl
   have e2 : exL wd ms d ts nx q k = (ZQ (ZM ms q)).take k.toNat := by unfold exL ZW; rw [ht, if_pos rfl, if_pos ⟨htd, hk⟩]
   have hF : Z0 ((Zcr ts q (min 60 (3 * k))).filter (Za8 ms)) := by
    refine Z0.filter ?_ _
    unfold Zcr
    exact (Zim _ _ _ _ _).take _
   have hsub : ∀ x ∈ (Zcr ts q (min 60 (3 * k))).filter (Za8 ms), x ∈ ZM ms q := fun x hx => by
    obtain ⟨h1, h2⟩ := List.mem_filter.1 hx
    unfold Zcr at h1
    have h3 := (ZeE (Ze ts 0).1 (Ze ts 0).2 (Zah ts q 0) q (Zbn (min 60 (3 * k)))).2.1 x (List.mem_of_mem_take h1)
    exact Zlk (Zz (Zaz htw (n := 0) (by omega))) hbr h3 (by simpa [Za8] using h2)
   have hS : Z0 (ZQ (ZM ms q)) := ZjW htd
   obtain ⟨u1, u2⟩ := ZcX (ZQ (ZM ms q)) _ hF hS (fun x hx => (ZU _).mem_iff.2 (hsub x hx))
   rw [e1] at l1 ⊢
   rw [e2] at l2 ⊢
   unfold Zhf at l1 ⊢
   refine ⟨Zhg (hF.take _) (fun x hx => by have := Zhh htd (hsub x (List.mem_of_mem_take hx)); exact ⟨this.1, this.2.1⟩), fun x hx => hsub x (List.mem_of_mem_take hx), fun x hx => (ZU _).mem_iff.1 (List.mem_of_mem_take hx), by rw [List.length_take, List.length_take]; omega, fun i hi => ?_, l1, l2⟩
   rw [List.length_take] at hi
   rw [Zes (by omega), Zes (by omega)]
   exact u2 i (by omega)
end Go.Proofs.YtaaagmgglolibaaGreat
namespace Go.Proofs.YtaaagmgglolibaaGreat
open Go Go.RowKit
def ZcO : List Wb := [([], []), ([], []), ([], []), ([], [])]
theorem Zll (i : Nat) : Ze ZcO i = ([], []) := by
 rcases i with _ | _ | _ | _ | i <;> first | rfl | simp [madeCells] | kernel_rfl
theorem newT (base : Nat) (w : World) (hb : base <= w.heap.size) : ZhW base (w.alloc (.cells (madeCells #[.slice none 0 0, .slice none 0 0] 8) 47)) (.slice (some ⟨w.heap.size, 0, none⟩) 4 4) ZcO := by
 have e : (madeCells #[.slice none 0 0, .slice none 0 0] 8).toList = ZbJ (fun _ => .slice none 0 0) (fun _ => .slice none 0 0) 4 := by kernel_rfl
 have h := World.ownsRow_lit (base := base) (e := 47) (size := 2) w (madeCells #[.slice none 0 0, .slice none 0 0] 8) 4 hb (by unfold maxLen; omega) (by kernel_rfl)
 rw [e] at h
 refine ⟨fun _ _ => False, fun _ => .slice none 0 0, fun _ => .slice none 0 0, h, fun i _ => ?_, fun _ _ _ _ hf => hf, fun _ _ _ _ _ _ hf _ => hf, by decide, fun _ _ _ hf => hf.elim⟩
 rw [Zll]
 exact OwW.zero false _
theorem Zd4 : ZX 1 ZcO = true := by kernel_rfl
theorem ZeM (w : World) :
 Calls Tryz.prog 24 #[] w fun e w' => ∃ b, e = .returned (.agg #[.int .i64 1, .slice (some ⟨b, 0, none⟩) 4 4]) /\ ZhW w.heap.size w' (.slice (some ⟨b, 0, none⟩) 4 4) ZcO /\ Below w.heap.size w w' := by
 have hmk : ∀ w : World, (Instr.makeSlice 24 (.int .i64 4) (.int .i64 4)).run Tryz.prog w = .ok (.slice (some ⟨w.heap.size, 0, none⟩) 4 4) (w.alloc (.cells (madeCells #[.slice none 0 0, .slice none 0 0] 8) 47)) := fun w => Zdp (P := Tryz.prog) 24 47 (.agg #[.slice none 0 0, .slice none 0 0]) 2 48 Tryz.underlying24 Tryz.info47 .i64 .i64 4 (by omega) (by omega) w
 go_enter Tryz.func24, Tryz.ntmps24
 go_wp2_with fail
 refine bodyPost_ret (v := .agg #[.int .i64 1, .slice (some ⟨w.heap.size + 1, 0, none⟩) 4 4]) (by simp [results, Tryz.results24, go_sem]) rfl ?_
 refine ⟨w.heap.size + 1, rfl, ?_, ((Below.refl w.heap.size w).alloc (Nat.le_refl _) _).alloc (by simp) _⟩
 obtain ⟨W, hW⟩ : ∃ W, w.alloc (.cells #[.int .i64 1, .slice (some ⟨w.heap.size + 1, 0, none⟩) 4 4] 26) = W := ⟨_, rfl⟩
 have hs : W.heap.size = w.heap.size + 1 := by rw [<- hW]; simp
 have h := newT w.heap.size W (by omega)
 rw [hs, <- hW] at h
 exact h
end Go.Proofs.YtaaagmgglolibaaGreat
