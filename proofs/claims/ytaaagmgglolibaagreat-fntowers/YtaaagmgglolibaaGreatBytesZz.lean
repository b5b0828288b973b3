import Derived.Test.YtaaagmgglolibaaGreatArgsZz
import Derived.Test.YtaaagmgglolibaaGreatMovedSZz
import Derived.Test.YtaaagmgglolibaaGreatMathZz
import Derived.Test.YtaaagmgglolibaaGreatMCopyZz
import Derived.Test.YtaaagmgglolibaaGreatGnCpyZz
import Derived.Test.YtaaagmgglolibaaGreatOwTZz
import Derived.Test.YtaaagmgglolibaaGreatFeHelpZz
import Derived.Test.YtaaagmgglolibaaGreatLastZz
import Derived.Test.YtaaagmgglolibaaGreatMDrawZz
set_option maxRecDepth 100000
set_option maxHeartbeats 8000000
namespace Go.Proofs.YtaaagmgglolibaaGreat
open Go Go.RowKit
theorem Zlz.code {w : World} {a : Option Addr} {len cap : Nat} {zs : List Int} (h : Zlz .u8 w a len cap zs) : Zaa w a len /\ len <= maxLen := by
 rcases h with ⟨rfl, rfl, rfl, rfl⟩ | ⟨x, rfl, hl, hm, hz, hcell, hwz⟩
 · exact ⟨Or.inl rfl, Nat.zero_le _⟩
 · refine ⟨?_, by omega⟩
   rcases Nat.eq_zero_or_pos len with h0 | h0
   · exact Or.inl h0
   · obtain ⟨b, off, spot⟩ := x
     have hc := hcell 0 (by omega)
     have hspot : spot = none := by simpa [Addr.add] using World.cell?_spot hc
     subst hspot
     refine Or.inr ⟨b, off, rfl, by simpa [Addr.add] using Zdl hc, fun i hi => ?_⟩
     have hi2 : i < zs.length := by omega
     have h1 := hcell i hi2
     have hb := bounds_u8 (hwz (zs.getD i 0) (by simp [List.getD, hi2]))
     refine ⟨zs.getD i 0, hb.1, hb.2, ?_⟩
     by_cases h0 : i = 0
     · subst h0; simpa [Addr.add] using h1
     · simpa [Addr.add, h0] using h1
theorem bigC (ao : Option Addr) (n cap : Nat) (w : World) :
 Calls Tryz.prog 12 #[.slice ao n cap] w fun e w' => e = .returned (.bool (decide (4096 < (n : Int)))) /\ w = w' := by
 go_enter Tryz.func12, Tryz.ntmps12
 go_wp2
 go_ret
 exact ⟨rfl, rfl⟩
theorem Zkl {H : Type} {enc : TypeId × Value -> H} {W : World} {n : Nat} {a : Option Addr} {len cap : Nat} {x : DataW H × List MemPlace} (h : DataW.trod enc Tryz.prog W 0 (fun _ => true) true n 22 [.slice a len cap] = some x) :
 Zaa W a len /\ len <= maxLen := by
 rcases Go.ChangeShapes.open_ints Tryz.underlying22 Tryz.underlying5 (by kernel_rfl) h with ⟨hcs, _⟩ | ⟨y, l, c, zs, hcs, _, hl, hm, hz, _, hcell, hwz⟩
 · simp at hcs
   obtain ⟨rfl, rfl, rfl⟩ := hcs
   exact ⟨Or.inl rfl, Nat.zero_le _⟩
 · simp at hcs
   obtain ⟨rfl, rfl, rfl⟩ := hcs
   have hr : Zlz .u8 W (some y) len cap zs := .inr ⟨_, rfl, hl, hm, by simpa using hz, hcell, hwz⟩
   exact hr.code
theorem ZjM (q : Nat) (ao : Option Addr) (n cap : Nat) (m : Int) (w : World) (hc : Cur w q ao n cap) (hv : Zaa w ao n) (hn : n <= 4096) (h0 : 1 <= m) :
 Calls Tryz.prog 97 #[.pointer (some ⟨q, 0, none⟩), .int .i64 m] w fun e w' => (∃ x : Int, 0 <= x /\ x < m /\ e = .returned (.int .i64 x)) /\ Cur w' q ao n cap /\ w.grownBy w' (some q) := by
 by_cases hm : m <= 256
 · exact Za0 q ao n cap m w hc hv hn h0 hm
 have h2 : ¬ m <= 0 := by omega
 have h3 : (m == 0) = false := by simp; omega
 go_enter Tryz.func97, Tryz.ntmps97
 go_wp2_with fail
 refine (Zhr q ao n cap _ hc hv hn).mono ?_
 rintro e w1 ⟨⟨x, hx0, hx1, rfl⟩, c1, g1⟩
 have hv1 := hv.grown hc g1
 clear hc hv
 go_wp2_with fail
 refine (Zhr q ao n cap _ c1 hv1 hn).mono ?_
 rintro e w2 ⟨⟨y, hy0, hy1, rfl⟩, c2, g2⟩
 have hv2 := hv1.grown c1 g2
 have G2 := Zh g1 g2
 clear c1 hv1 g1 g2
 go_wp2_with fail
 refine (Zhr q ao n cap _ c2 hv2 hn).mono ?_
 rintro e w3 ⟨⟨z, hz0, hz1, rfl⟩, c3, g3⟩
 have hv3 := hv2.grown c2 g3
 have G3 := Zh G2 g3
 clear c2 hv2 g3 G2
 go_wp2_with fail
 refine (Zhr q ao n cap _ c3 hv3 hn).mono ?_
 rintro e w4 ⟨⟨u, hu0, hu1, rfl⟩, c4, g4⟩
 have G4 := Zh G3 g4
 clear c3 hv3 g4 G3
 go_wp2_with fail
 go_ret
 refine ⟨⟨(x * 16777216 + y * 65536 + z * 256 + u) % m, Int.emod_nonneg _ (by omega), Int.emod_lt_of_pos _ (by omega), ?_⟩, c4, G4⟩
 first | rfl | (rw [Int.emod_eq_tmod_of_nonneg (by omega)])
theorem ZjN {d : Int} {ts : List Wb} (h : ZN d ts = true) : Zaf ts := by
 refine ⟨by have := (Zad h).1; omega, fun i => ?_⟩
 rcases Nat.lt_or_ge i 4 with h1 | h1
 · exact ZjO (Zay h h1)
 · have hl : ts.length <= i := by have := (Zad h).1; omega
   have : Ze ts i = ([], []) := by unfold Ze; rw [List.getD_eq_getElem?_getD, List.getElem?_eq_none hl]; rfl
   rw [this]
   exact ⟨⟨by simp, fun i => by simp [mat]⟩, ⟨by simp, fun i => by simp [cn]⟩⟩
theorem Zhs {d y : Int} {ts : List Wb} (h : ZN d ts = true) (hy : 0 <= y /\ y < 1000003) : ZN y ts = true :=
 Zfa (by simp [inR]; omega) (Zad h).1 (Zad h).2
structure Zci (w wr : World) (q : Nat) (ao : Option Addr) (n cap T B0 g c : Nat) (ds : List Dm) (d : Int) (v : Value) (ts : List Wb) : Prop where
 cur : Cur wr q ao n cap
 gr : w.grownBy wr (some q)
 r0 : Two wr w.heap.size (.int .i64 0) (.slice none 0 0) 26
 t0 : Two wr T (.int .i64 d) v 26
 dr : ZaK B0 wr g c ds
 web : ∃ S vm vl, TsR false (w.heap.size + 1) wr v ts S vm vl /\ ∀ b, FtR v ts.length S b -> b ≠ T
 ok : ZN d ts = true
theorem Zci.go {w wr wy wz : World} {q : Nat} {ao : Option Addr} {n cap T B0 g c : Nat} {ds : List Dm} {d d' : Int} {v v' : Value} {ts ts' : List Wb} (h : Zci w wr q ao n cap T B0 g c ds d v ts) (hq : q < w.heap.size) (hT : w.heap.size < T) (hTB : T < B0) (hg : wr.grownBy wy (some q)) (hc : Cur wy q ao n cap)
 (hm : wz.os = wy.os /\ wz.tape = wy.tape /\ wz.output = wy.output) (hs : wz.heap.size = wy.heap.size) (far : ∀ b, b ≠ T -> wz.heap[b]? = wy.heap[b]?) (ht : Two wz T (.int .i64 d') v' 26) (hw : ∃ S vm vl, TsR false (w.heap.size + 1) wz v' ts' S vm vl /\ ∀ b, FtR v' ts'.length S b -> b ≠ T) (hok : ZN d' ts' = true) :
 Zci w wz q ao n cap T B0 g c ds d' v' ts' := by
 have hws := h.gr.size
 have hys := hg.size
 have hgz := Zh h.gr hg
 have hold : ∀ b, b < wr.heap.size -> b ≠ q -> b ≠ T -> wz.heap[b]? = wr.heap[b]? := fun b h1 h2 h3 => (far b h3).trans (hg.block b h1 (by simp; exact h2))
 refine ⟨hc.kept14 (far q (by omega)), ⟨hm.1.trans hgz.os, hm.2.1.trans hgz.tape, hm.2.2.trans hgz.output, by rw [hs]; exact hgz.size, fun b hb hbq => (far b (by omega)).trans (hgz.block b hb hbq)⟩, (hold _ h.r0.lt (by omega) (by omega)).trans h.r0, ht, ?_, hw, hok⟩
 have h1 := h.dr
 exact ⟨Zaz h1.1 (hold g h1.lt.2 (by have := h1.lt; omega) (by have := h1.lt; omega)), fun x hx => ⟨(h1.2.1 x hx).1.same (hold x.2.1 (h1.2.1 x hx).1.lt2.2 (by have := (h1.2.1 x hx).1.lt2; omega) (by have := (h1.2.1 x hx).1.lt2; omega)), (h1.2.1 x hx).2⟩, h1.2.2⟩
theorem Zci.dice {w wr wy : World} {q : Nat} {ao : Option Addr} {n cap T B0 g c : Nat} {ds : List Dm} {d y : Int} {v : Value} {ts : List Wb} (h : Zci w wr q ao n cap T B0 g c ds d v ts) (hq : q < w.heap.size) (hT : w.heap.size < T) (hTB : T < B0) (hg : wr.grownBy wy (some q)) (hc : Cur wy q ao n cap) (hy : 0 <= y /\ y < 1000003) :
 Zci w (wy.setCell ⟨T, 0, none⟩ (.int .i64 y)) q ao n cap T B0 g c ds y v ts := by
 have hws := h.gr.size
 have far : ∀ b, b ≠ T -> (wy.setCell ⟨T, 0, none⟩ (.int .i64 y)).heap[b]? = wy.heap[b]? := fun b hb => Below.heap_setCell wy ⟨T, 0, none⟩ _ b hb
 have hsz : (wy.setCell ⟨T, 0, none⟩ (.int .i64 y)).heap.size = wy.heap.size := Zc ..
 have t1 : Two wy T (.int .i64 d) v 26 := (hg.block T h.t0.lt (by simp; omega)).trans h.t0
 refine h.go hq hT hTB hg hc ⟨rfl, rfl, rfl⟩ hsz far (t1.set0 _) ?_ (Zhs h.ok hy)
 obtain ⟨S, vm, vl, hr, hn⟩ := h.web
 exact ⟨S, vm, vl, hr.sm ⟨by rw [hsz]; exact hg.size, fun b hb => (far b (hn b hb)).trans (hg.block b (hr.bnd b hb).2 (by have := (hr.bnd b hb).1; simp; omega))⟩, hn⟩
theorem Zci.stay {w wr wy : World} {q : Nat} {ao : Option Addr} {n cap T B0 g c : Nat} {ds : List Dm} {d : Int} {v : Value} {ts : List Wb} (h : Zci w wr q ao n cap T B0 g c ds d v ts) (hq : q < w.heap.size) (hT : w.heap.size < T) (hTB : T < B0) (hg : wr.grownBy wy (some q)) (hc : Cur wy q ao n cap) :
 Zci w wy q ao n cap T B0 g c ds d v ts := by
 have hws := h.gr.size
 refine h.go hq hT hTB hg hc ⟨rfl, rfl, rfl⟩ rfl (fun _ _ => rfl) ((hg.block T h.t0.lt (by simp; omega)).trans h.t0) ?_ h.ok
 obtain ⟨S, vm, vl, hr, hn⟩ := h.web
 exact ⟨S, vm, vl, hr.sm ⟨hg.size, fun b hb => hg.block b (hr.bnd b hb).2 (by have := (hr.bnd b hb).1; simp; omega)⟩, hn⟩
theorem Zci.put {w wr wy : World} {q : Nat} {ao : Option Addr} {n cap T B0 g c : Nat} {ds : List Dm} {d d' : Int} {v v' : Value} {ts ts' : List Wb} (h : Zci w wr q ao n cap T B0 g c ds d v ts) (hq : q < w.heap.size) (hT : w.heap.size < T) (hTB : T < B0) (hg : wr.grownBy wy (some q)) (hc : Cur wy q ao n cap) (ht : ZgV wr.heap.size wy v' ts') (hok : ZN d' ts' = true) :
 Zci w ((wy.setCell ⟨T, 0, none⟩ (.int .i64 d')).setCell ⟨T, 1, none⟩ v') q ao n cap T B0 g c ds d' v' ts' := by
 have hws := h.gr.size
 have far : ∀ b, b ≠ T -> ((wy.setCell ⟨T, 0, none⟩ (.int .i64 d')).setCell ⟨T, 1, none⟩ v').heap[b]? = wy.heap[b]? := fun b hb => (Below.heap_setCell _ ⟨T, 1, none⟩ _ b hb).trans (Below.heap_setCell wy ⟨T, 0, none⟩ _ b hb)
 have hsz : ((wy.setCell ⟨T, 0, none⟩ (.int .i64 d')).setCell ⟨T, 1, none⟩ v').heap.size = wy.heap.size := by rw [Zc, Zc]
 have hTl := h.t0.lt
 have t1 : Two wy T (.int .i64 d) v 26 := (hg.block T hTl (by simp; omega)).trans h.t0
 refine h.go hq hT hTB hg hc ⟨rfl, rfl, rfl⟩ hsz far ((t1.set0 _).set1 _) ?_ hok
 obtain ⟨S, vm, vl, hr⟩ := ht
 have hne : ∀ b, FtR v' ts'.length S b -> b ≠ T := fun b hb => by have := (hr.bnd b hb).1; omega
 exact ⟨S, vm, vl, (hr.sm ⟨by rw [hsz]; exact Nat.le_refl _, fun b hb => far b (hne b hb)⟩).lowm (by omega), hne⟩
theorem Zoj (q : Nat) (ao : Option Addr) (n cap : Nat) (w : World) (hc : Cur w q ao n cap) (hv : Zaa w ao n) (hn : n <= 4096) :
 Calls Tryz.prog 177 #[.pointer (some ⟨q, 0, none⟩)] w fun e w' => (∃ d v ts, e = .returned (.agg #[.int .i64 d, v]) /\ ZgV (w.heap.size + 1) w' v ts /\ ZN d ts = true) /\ Cur w' q ao n cap /\ w.grownBy w' (some q) := by
 have hq := hc.lt
 obtain ⟨W0, hW0⟩ : ∃ W, w.alloc (.cells #[.int .i64 0, .slice none 0 0] 26) = W := ⟨_, rfl⟩
 have s0 : W0.heap.size = w.heap.size + 1 := by rw [<- hW0]; simp
 have b0 : Below w.heap.size w W0 := by rw [<- hW0]; exact (Below.refl _ _).alloc (Nat.le_refl _) _
 have HR0 : Hid (Two W0 w.heap.size (.int .i64 0) (.slice none 0 0) 26) := by show Two _ _ _ _ _; rw [<- hW0]; exact Two.new w _ _ _
 have HB0 := Za b0
 have HNT := Za (Zfb W0)
 have HW0 := Za hW0
 have HS0 := Za s0
 have HCU := Za hc
 have HV0 : Hid (∀ wr, w.grownBy wr (some q) -> Zaa wr ao n) := fun wr hg => hv.grown hc hg
 clear s0 b0 hW0 hc hv
 go_enter Tryz.func177, Tryz.ntmps177
 go_upto_region 1 with fail
 rw [HW0.out]
 clear HW0
 go_wp2_with fail
 refine HNT.out.mono ?_
 rintro e W1 ⟨b, rfl, ⟨S, vm, vl, ht⟩, L1⟩
 have HT1 := Za ht
 have HL1 := Za L1
 obtain ⟨T, hT⟩ : ∃ T, W1.heap.size = T := ⟨_, rfl⟩
 obtain ⟨W2, hW2⟩ : ∃ W, W1.alloc (.cells #[.int .i64 1, .slice (some ⟨b, 0, none⟩) 4 4] 26) = W := ⟨_, rfl⟩
 have HW2 := Za hW2
 have hT2 : Two W2 T (.int .i64 1) (.slice (some ⟨b, 0, none⟩) 4 4) 26 := by rw [<- hW2, <- hT]; exact Two.new W1 _ _ _
 have b2 : Below W1.heap.size W1 W2 := by rw [<- hW2]; exact (Below.refl _ _).alloc (Nat.le_refl _) _
 have hTl : w.heap.size < T := by have := HS0.out; have := L1.size; omega
 have g2 : w.grownBy W2 (some q) := Zh (Zu HB0.out _) (Zh (Zu L1 _) (Zu b2 _))
 have c2 : Cur W2 q ao n cap := HCU.out.kept14 ((b2.block q (by have := HS0.out; have := L1.size; omega)).trans ((L1.block q (by have := HS0.out; omega)).trans (HB0.out.block q hq)))
 have HBB := Za (ZjM q ao n cap 1000003 W2 c2 (HV0.out W2 g2) hn (by omega))
 have HT2 := Za hT2
 have hR2 : Two W2 w.heap.size (.int .i64 0) (.slice none 0 0) 26 := by
  have h1 : Two W1 w.heap.size (.int .i64 0) (.slice none 0 0) 26 := HR0.out.below L1
  exact h1.below b2
 have HR2 := Za hR2
 have HTS2 : Hid (TsR false (w.heap.size + 1) W2 (.slice (some ⟨b, 0, none⟩) 4 4) Zd2 S vm vl /\ ∀ j, FtR (.slice (some ⟨b, 0, none⟩) 4 4) Zd2.length S j -> j ≠ T) := ⟨(ht.lowm (base' := w.heap.size + 1) (by have := HS0.out; omega)).next b2, fun j hj => by have := (ht.bnd j hj).2; omega⟩
 have HG2 := Za g2
 have HWB := Za (And.intro hT (show W2.heap.size = W1.heap.size + 1 by rw [<- hW2]; simp))
 clear ht L1 b2 hW2 hR2 g2 hT2
 try rw [hT]
 go_upto_region 2 with fail
 try rw [hT]
 rw [HW2.out]
 clear HW2 hT
 go_wp2_with fail
 refine HBB.out.mono ?_
 rintro e W3 ⟨⟨y, y0, y1, rfl⟩, c3, g3⟩
 have hT3 : Two W3 T (.int .i64 1) (.slice (some ⟨b, 0, none⟩) 4 4) 26 := (g3.block T HT2.out.lt (by simp; omega)).trans HT2.out
 obtain ⟨W4, hW4⟩ : ∃ W, W3.setCell ⟨T, 0, none⟩ (.int .i64 y) = W := ⟨_, rfl⟩
 have hs3 := g3.size
 have hs4 : W4.heap.size = W3.heap.size := by rw [<- hW4, Zc]
 have hBT : T < W2.heap.size := HT2.out.lt
 have HD4 : Hid (∀ (wz : World) (g c : Nat) (ds : List Dm), W4.grownBy wz (some q) -> Cur wz q ao n cap -> ZaK W4.heap.size wz g c ds -> Zci w wz q ao n cap T W4.heap.size g c ds y (.slice (some ⟨b, 0, none⟩) 4 4) Zd2) := fun wz g c ds hg hcz hdr => by
  have far : ∀ j, j ≠ T -> W4.heap[j]? = W3.heap[j]? := fun j hj => by rw [<- hW4]; exact Below.heap_setCell W3 ⟨T, 0, none⟩ _ j hj
  have hwg : w.grownBy W4 (some q) := by
   have h3 := Zh HG2.out g3
   exact ⟨by rw [<- hW4]; exact h3.os, by rw [<- hW4]; exact h3.tape, by rw [<- hW4]; exact h3.output, by rw [hs4]; exact h3.size, fun j hj hjq => (far j (by omega)).trans (h3.block j hj hjq)⟩
  have ht4 : Two W4 T (.int .i64 y) (.slice (some ⟨b, 0, none⟩) 4 4) 26 := by rw [<- hW4]; exact hT3.set0 _
  refine ⟨hcz, Zh hwg hg, ?_, (hg.block T (by omega) (by simp; omega)).trans ht4, hdr, ⟨S, vm, vl, HTS2.out.1.sm ⟨by have := hg.size; omega, fun j hj => ?_⟩, HTS2.out.2⟩, Zhs Zgi ⟨y0, y1⟩⟩
  · have h2 := HR2.out
    exact (hg.block _ (by have := h2.lt; omega) (by simp; omega)).trans ((far _ (by omega)).trans ((g3.block _ h2.lt (by simp; omega)).trans h2))
  · have hb := HTS2.out.1.bnd j hj
    have hj' := HTS2.out.2 j hj
    exact (hg.block j (by omega) (by simp; omega)).trans ((far j hj').trans (g3.block j hb.2 (by simp; omega)))
 have c4 : Cur W4 q ao n cap := c3.kept14 (by rw [<- hW4]; exact Below.heap_setCell W3 ⟨T, 0, none⟩ _ q (by show q ≠ T; omega))
 have hwg4 : w.grownBy W4 (some q) := by
  have h3 := Zh HG2.out g3
  exact ⟨by rw [<- hW4]; exact h3.os, by rw [<- hW4]; exact h3.tape, by rw [<- hW4]; exact h3.output, by rw [hs4]; exact h3.size, fun j hj hjq => by rw [<- hW4]; exact (Below.heap_setCell W3 ⟨T, 0, none⟩ _ j (by show j ≠ T; omega)).trans (h3.block j hj hjq)⟩
 have HMD := Za (ZlC q ao n cap 12 W4 c4 (HV0.out W4 hwg4) hn (by omega) (by omega))
 have HG4 := Za hwg4
 have HT4 := Za (And.intro hs4 hs3)
 have k0 := hT3.c0
 have kf := hT3.frozen 0
 have HW4 := Za hW4
 clear hW4 hT3 g3 c3 c4 hwg4 hs3 hs4 HBB
 go_wp2_with fail
 try rw [HW4.out]
 go_wp2_with fail
 refine HMD.out.mono ?_
 rintro e w1 ⟨⟨g, c, ds, rfl, hnew⟩, c1, g1⟩
 have HD0 := Za (HD4.out w1 g c ds g1 c1 hnew.2.1)
 have hdl : ds.length <= 12 := by have := hnew.1; omega
 have HGD := Za hnew.2.2
 have hTl0 := hTl
 have hB0 : T < W4.heap.size := by have := HT4.out.1; have := HT4.out.2; omega
 obtain ⟨B0, hB⟩ : ∃ B, W4.heap.size = B := ⟨_, rfl⟩
 rw [hB] at HD0 hB0
 clear hnew c1 g1 HMD HD4 hB k0 kf HW4 HTS2 HR2 HT2
 go_wp2_with fail
 go_loopw [5] (fun i wr => ∃ (k : Nat) (d : Int) (v : Value) (ts : List Wb), k <= ds.length /\ i = .int .i64 k /\ Zci w wr q ao n cap T B0 g c ds d v ts) (fun i _ => ds.length - (intOf i).toNat)
 case atStart => exact ⟨0, _, _, _, Nat.zero_le _, rfl, HD0.out⟩
 case round =>
  obtain ⟨k, d, v, ts, hk, rfl, hdw⟩ := hrel
  have hqr : q < wr.heap.size := by have := hdw.gr.size; omega
  by_cases hlt : k < ds.length
  · obtain ⟨d0, d1⟩ := hdw.dr.cells k hlt
    obtain ⟨hrow, hne⟩ := hdw.dr.2.1 _ (Zbl ds k hlt)
    have hgl := hdw.dr.lt
    have a0 := hdw.t0.c0
    have a1 := hdw.t0.c1
    have hk0 : (0 : Int) <= (k : Int) := Int.natCast_nonneg _
    have hk1 : (k : Int) < (ds.length : Int) := by omega
    have hml : (Zo ds k).2.2.2.length <= 1048576 := by
     obtain ⟨width, id, hw1, hw3, -, hgd⟩ := HGD.out
     have := (hgd.1 _ (Zbl ds k hlt)).2.2.1
     omega
    obtain ⟨va, vc, rfl, hvw⟩ : ∃ a c, v = .slice a ts.length c /\ ZG true wr a ts := by
     obtain ⟨S, vm, vl, hr, -⟩ := hdw.web
     obtain ⟨a, c, e, -, h⟩ := hr.form
     exact ⟨a, c, e, h⟩
    have hcr : Cur wr q ao n cap := hdw.cur
    have hTl := hdw.t0.lt
    have HRG : Hid (Calls Tryz.prog 110 #[.agg #[.int .i64 d, .slice va ts.length vc], .agg #[.int .i64 (Zo ds k).1, .slice (some ⟨(Zo ds k).2.1, 0, none⟩) (Zo ds k).2.2.2.length (Zo ds k).2.2.1]] wr.drew fun e w' => ∃ d2 a2 l2 c2 ts2 b2, e = .returned (.tuple #[.agg #[.int .i64 d2, .slice a2 l2 c2], .bool b2]) /\ w'.cell? ⟨T, 0, none⟩ = some (.int .i64 d) /\ w'.cell? ⟨T, 1, none⟩ = some (.slice va ts.length vc) /\ w'.frozen? ⟨T, 0, none⟩ = false /\ w'.frozen? ⟨T, 1, none⟩ = false /\ Zci w ((w'.setCell ⟨T, 0, none⟩ (.int .i64 d2)).setCell ⟨T, 1, none⟩ (.slice a2 l2 c2)) q ao n cap T B0 g c ds d2 (.slice a2 l2 c2) ts2) := by
     refine (Zht va (some ⟨(Zo ds k).2.1, 0, none⟩) vc (Zo ds k).2.2.1 d ts ((Zo ds k).1, (Zo ds k).2.2.2) wr.drew (hvw.next (Below.refl _ _).drew) (show Row B0 wr.drew (Zo ds k).2.1 (Zo ds k).2.2.1 (Zo ds k).2.2.2 from hrow).view hml hdw.ok (ZjN hdw.ok)).mono ?_
     rintro e w' ⟨vt, rfl, hcp, L⟩
     have L' : Below wr.heap.size wr w' := ⟨L.os, L.tape, L.output, L.size, L.block⟩
     have t1 : Two w' T (.int .i64 d) (.slice va ts.length vc) 26 := hdw.t0.below L'
     obtain ⟨S, vm, vl, hr⟩ := hcp
     obtain ⟨a2, c2, rfl, -, -⟩ := hr.form
     exact ⟨_, a2, _, c2, _, _, rfl, t1.c0, t1.c1, t1.frozen 0, t1.frozen 1, hdw.put hq hTl0 hB0 (Zu L' _) (hcr.kept14 (L'.block q hqr)) ⟨S, vm, vl, hr⟩ (ZjP hdw.ok)⟩
    have HDW := Za hdw
    clear hrow hne hdw hvw hgl hcr
    generalize Zo ds k = dk at *
    go_wp2_with fail
    go_region_with (go_at_call 110; refine HRG.out.mono ?_; rintro e w2 ⟨d2, a2, l2, c2, ts2, b2, rfl, u0, u1, f0, f1, hdz⟩; have HDZ := Za hdz; clear hdz)
    all_goals (
     simp only [Exit.then]
     have HON := Za (Zfc q ao n cap 3 _ HDZ.out.cur (HV0.out _ HDZ.out.gr) hn (by omega) (by omega))
     clear a0 a1 d0 d1
     go_wp2_with fail
     refine HON.out.mono ?_
     rintro e w3 ⟨⟨x, rfl⟩, c3, g3⟩
     have HD3 := Za (HDZ.out.stay hq hTl0 hB0 g3 c3)
     clear c3 g3 u0 u1 f0 f1 HON
     cases x with
     | false =>
       go_wp2_with fail
       go_roundw
       case rel => exact ⟨k + 1, _, _, _, by omega, by go_num, HD3.out⟩
       case measure => simp [intOf]; omega
     | true =>
       have HB4 := Za (ZjM q ao n cap 1000003 w3 HD3.out.cur (HV0.out _ HD3.out.gr) hn (by omega))
       go_wp2_with fail
       refine HB4.out.mono ?_
       rintro e w4 ⟨⟨y, y0, y1, rfl⟩, c4, g4⟩
       have HD4 := Za (HD3.out.dice hq hTl0 hB0 g4 c4 ⟨y0, y1⟩)
       have HD5 := Za (HD3.out.stay hq hTl0 hB0 g4 c4)
       have u0 := HD5.out.t0.c0
       have f0 := HD5.out.t0.frozen 0
       clear c4 g4
       go_wp2_with fail
       go_roundw
       case rel => exact ⟨k + 1, _, _, _, by omega, by go_num, HD4.out⟩
       case measure => simp [intOf]; omega)
  · obtain ⟨va, vc, rfl, -⟩ : ∃ a c, v = .slice a ts.length c /\ ZG true wr a ts := by
     obtain ⟨S, vm, vl, hr, -⟩ := hdw.web
     obtain ⟨a, c, e, -, h⟩ := hr.form
     exact ⟨a, c, e, h⟩
    have a0 := hdw.t0.c0
    have a1 := hdw.t0.c1
    have r0 := hdw.r0.c0
    have r1 := hdw.r0.c1
    have f0 := hdw.r0.frozen 0
    have f1 := hdw.r0.frozen 1
    have HDW := Za hdw
    clear hdw
    go_wp2_with fail
    obtain ⟨wy, hwy⟩ : ∃ wy, wy = (wr.setCell ⟨w.heap.size, 0, none⟩ (.int .i64 d)).setCell ⟨w.heap.size, 1, none⟩ (.slice va ts.length vc) := ⟨_, rfl⟩
    rw [<- hwy]
    have t2 : Two wy w.heap.size (.int .i64 d) (.slice va ts.length vc) 26 := by rw [hwy]; exact (HDW.out.r0.set0 _).set1 _
    have far : ∀ j, j ≠ w.heap.size -> wy.heap[j]? = wr.heap[j]? := fun j hj => by rw [hwy]; exact (Below.heap_setCell _ ⟨w.heap.size, 1, none⟩ _ j hj).trans (Below.heap_setCell wr ⟨w.heap.size, 0, none⟩ _ j hj)
    have hsy : wy.heap.size = wr.heap.size := by rw [hwy, Zc, Zc]
    have hgr := HDW.out.gr
    have hce : Cur wy q ao n cap := HDW.out.cur.kept14 (far q (by omega))
    have hge : w.grownBy wy (some q) := ⟨by rw [hwy]; exact hgr.os, by rw [hwy]; exact hgr.tape, by rw [hwy]; exact hgr.output, by rw [hsy]; exact hgr.size, fun j hj hjq => (far j (by omega)).trans (hgr.block j hj hjq)⟩
    have hcy : ZgV (w.heap.size + 1) wy (.slice va ts.length vc) ts := by
     obtain ⟨S, vm, vl, hr, -⟩ := HDW.out.web
     exact ⟨S, vm, vl, hr.sm ⟨by rw [hsy]; exact Nat.le_refl _, fun b hb => far b (by have := (hr.bnd b hb).1; omega)⟩⟩
    have HFIN := Za (And.intro hcy (And.intro HDW.out.ok (And.intro hce hge)))
    have y0 := t2.c0
    have y1 := t2.c1
    clear hwy t2 far hsy hgr hce hge hcy
    refine bodyPost_ret (v := .agg #[.int .i64 d, .slice va ts.length vc]) (by simp [results, Tryz.results177, go_sem, y0, y1]) rfl ?_
    exact ⟨⟨d, _, ts, rfl, HFIN.out.1, HFIN.out.2.1⟩, HFIN.out.2.2.1, HFIN.out.2.2.2⟩
def ZdL (ts : List Wb) : Prop := ts.length <= 4 /\ ∀ n, (Ze ts n).1.length <= 60 /\ (∀ i, (mat (Ze ts n).1 i).length <= 5) /\ (Ze ts n).2.length <= 60 /\ ∀ i, (cn (Ze ts n).2 i).length <= 61
theorem ZdL.small {ts : List Wb} (h : ZdL ts) : Zaf ts :=
 ⟨by have := h.1; omega, fun n => ⟨⟨by have := (h.2 n).1; omega, fun i => by have := (h.2 n).2.1 i; omega⟩, ⟨by have := (h.2 n).2.2.1; omega, fun i => by have := (h.2 n).2.2.2 i; omega⟩⟩⟩
theorem Zkm {ts : List Wb} {i : Nat} (h : ts.length <= i) : Ze ts i = ([], []) := by unfold Ze; rw [List.getD_eq_getElem?_getD, List.getElem?_eq_none h]; rfl
theorem Zng : (([], []) : Wb).1.length <= 60 /\ (∀ i, (mat (([], []) : Wb).1 i).length <= 5) /\ (([], []) : Wb).2.length <= 60 /\ ∀ i, (cn (([], []) : Wb).2 i).length <= 61 := ⟨by simp, fun i => by simp [mat], by simp, fun i => by simp [cn]⟩
theorem Zok {d : Int} {ts : List Wb} (h : ZN d ts = true) : ZdL ts := by
 refine ⟨by have := (Zad h).1; omega, fun n => ?_⟩
 rcases Nat.lt_or_ge n 4 with h1 | h1
 · obtain ⟨q1, q2, q3, q4⟩ := Za6 (Zay h h1)
   exact ⟨q1, fun i => by have := q2 i; omega, q3, fun i => by have := q4 i; omega⟩
 · rw [Zkm (by have := (Zad h).1; omega)]; exact Zng
theorem ZdL.set {ts : List Wb} (h : ZdL ts) {k : Nat} (hk : k < ts.length) {x : Wb} (hx : x.1.length <= 60 /\ (∀ i, (mat x.1 i).length <= 5) /\ x.2.length <= 60 /\ ∀ i, (cn x.2 i).length <= 61) : ZdL (ts.set k x) := by
 refine ⟨by rw [List.length_set]; exact h.1, fun n => ?_⟩
 rw [Zd3 x hk]
 by_cases e : n = k
 · rw [if_pos e]; exact hx
 · rw [if_neg e]; exact h.2 n
theorem Zgj (ts : List Wb) (k i : Nat) : Ze (ts.drop k) i = Ze ts (k + i) := by simp [Ze, List.getD]
theorem ZdL.drop {ts : List Wb} (h : ZdL ts) (k : Nat) : ZdL (ts.drop k) := ⟨by rw [List.length_drop]; have := h.1; omega, fun n => by rw [Zgj]; exact h.2 _⟩
theorem ZG.drop1 {s : Bool} {w : World} {b off : Nat} {ts : List Wb} (h : ZG s w (some ⟨b, off, none⟩) ts) : ZG s w (some ⟨b, off + 2, none⟩) (ts.drop 1) := by
 rcases Nat.eq_zero_or_pos ts.length with h0 | h0
 · exact Or.inl (by rw [List.length_eq_zero_iff.1 h0]; rfl)
 obtain ⟨b', o', e, hb, hs⟩ := h.seg h0
 injection e with e
 injection e with e1 e2
 subst e1
 subst e2
 refine Or.inr ⟨b, off + 2, rfl, hb, fun i hi => ?_⟩
 rw [List.length_drop] at hi
 rw [Zgj]
 have := hs (1 + i) (by omega)
 rw [show off + (1 + i) * 2 = off + 2 + i * 2 by omega] at this
 exact this
theorem TsR.put2 {o : Bool} {base g c : Nat} {w w' : World} {ts : List Wb} {S : Nat -> Nat -> Prop} {vm vl : Nat -> Value} (h : TsR o base w (.slice (some ⟨g, 0, none⟩) ts.length c) ts S vm vl) (h' : TsR o base w' (.slice (some ⟨g, 0, none⟩) ts.length c) ts S vm vl) {k : Nat} (hk : k < ts.length) {F : Nat -> Prop} {xm xl : Value} {t : Wb} (hw : OwW o F w' xm xl t.1 t.2) (hF : ∀ b, F b -> w.heap.size <= b) (hbs : base <= w.heap.size) :
 TsR o base ((w'.setCell ⟨g, k * 2, none⟩ xm).setCell ⟨g, k * 2 + 1, none⟩ xl) (.slice (some ⟨g, 0, none⟩) ts.length c) (ts.set k t) (Zb2 S k F) (ZaX vm k xm) (ZaX vl k xl) := by
 have hg := (h.bnd g (Or.inl rfl)).2
 have far : ∀ b, b ≠ g -> ((w'.setCell ⟨g, k * 2, none⟩ xm).setCell ⟨g, k * 2 + 1, none⟩ xl).heap[b]? = w'.heap[b]? := fun b hb => (Below.heap_setCell _ ⟨g, k * 2 + 1, none⟩ xl b (fun e => hb e)).trans (Below.heap_setCell _ ⟨g, k * 2, none⟩ xm b (fun e => hb e))
 have sz : w'.heap.size <= ((w'.setCell ⟨g, k * 2, none⟩ xm).setCell ⟨g, k * 2 + 1, none⟩ xl).heap.size := by rw [Zc, Zc]; exact Nat.le_refl _
 have hl : (ts.set k t).length = ts.length := List.length_set ..
 refine ⟨?_, fun i hi => ?_, fun i hi q e => ?_, fun i j hi hj hne b => ?_, by rw [hl]; exact h.four, fun i b hi hs => ?_⟩
 · have r1 := (World.ownsRow.stored h'.row (k * 2) xm).1
   have r2 := (World.ownsRow.stored r1 (k * 2 + 1) xl).1
   rw [Zhu] at r2
   rw [hl]
   exact r2
 · rw [hl] at hi
   rw [Zd3 t hk]
   unfold Zb2 ZaX
   by_cases e : i = k
   · rw [if_pos e, if_pos e, if_pos e, if_pos e]
     exact hw.sm ⟨sz, fun b hb => far b (fun eq => by have := hF b hb; omega)⟩
   · rw [if_neg e, if_neg e, if_neg e, if_neg e]
     exact (h'.webs i hi).sm ⟨sz, fun b hb => far b (fun eq => h.off i hi g rfl (eq ▸ hb))⟩
 · rw [hl] at hi
   injection e with e
   subst e
   unfold Zb2
   by_cases e : i = k
   · rw [if_pos e]
     exact fun hb => by have hx : w.heap.size <= g := hF _ hb; omega
   · rw [if_neg e]
     exact h.off i hi _ rfl
 · rw [hl] at hi hj
   unfold Zb2
   by_cases e : i = k
   · rw [if_pos e, if_neg (by omega)]
     exact fun hb hb' => by have := hF b hb; have := (h.webs j hj).bnd b hb'; omega
   · rw [if_neg e]
     by_cases e' : j = k
     · rw [if_pos e']
       exact fun hb hb' => by have := hF b hb'; have := (h.webs i hi).bnd b hb; omega
     · rw [if_neg e']
       exact h.apart i j hi hj hne b
 · rw [hl] at hi
   unfold Zb2 at hs
   by_cases e : i = k
   · rw [if_pos e] at hs; have := hF b hs; omega
   · rw [if_neg e] at hs; exact h.low i b hi hs
theorem WA.ow {base : Nat} {w : World} {am al : Option Addr} {cm cl : Nat} {ms : List Mk} {ls : List (List Int)} (h : WA base w am cm al cl ms ls) : OwW false (Btw base w.heap.size) w (.slice am ms.length cm) (.slice al ls.length cl) ms ls := by
 have hs := h.small
 refine ⟨fun b hb => hb.2, fun e => (by cases e), ⟨am, cm, al, cl, rfl, rfl, hs.2.2.1, hs.2.2.2.1, fun w' k => ?_⟩⟩
 rcases h with ⟨-, -, -, -, rfl, rfl⟩ | ⟨gm, gl, rfl, rfl, h⟩
 · exact ⟨Or.inl rfl, Or.inl rfl⟩
 · obtain ⟨rs, h1, rfl⟩ := h.lm
   obtain ⟨m1, m2, m3, m4⟩ := h.mh
   have sm : ∀ b, base <= b -> b < w.heap.size -> w'.heap[b]? = w.heap[b]? := fun b h1 h2 => k.2 b ⟨h1, h2⟩
   refine ⟨?_, ((h1.same (w' := w') (fun b hb => sm b (h1.all b hb).1 (h1.all b hb).2)).view).cview⟩
   have hm' : ZbT base w' gm ms ms.length := by
    refine ⟨m1, Nat.lt_of_lt_of_le m2 k.1, fun i hi => ?_, fun i hi hs => ?_⟩
    · obtain ⟨c0, v, c1⟩ := m3 i hi
      exact ⟨(World.cell?_of_block (a := ⟨gm, i * 2, none⟩) (sm gm m1 m2)).trans c0, v, (World.cell?_of_block (a := ⟨gm, i * 2 + 1, none⟩) (sm gm m1 m2)).trans c1⟩
    · obtain ⟨b, cap, c, q1, q2, q3, q4⟩ := m4 i hi hs
      exact ⟨b, cap, (World.cell?_of_block (a := ⟨gm, i * 2 + 1, none⟩) (sm gm m1 m2)).trans c, q1, Nat.lt_of_lt_of_le q2 k.1, q3, fun j hj => (World.cell?_of_block (a := ⟨b, 0 + j, none⟩) (sm b q1 q2)).trans (q4 j hj)⟩
   exact hm'.view (Nat.le_refl _)
structure TwE (w wr : World) (q : Nat) (ao : Option Addr) (n cap T : Nat) (d : Int) (a : Option Addr) (c : Nat) (ts : List Wb) : Prop where
 cur : Cur wr q ao n cap
 gr : w.grownBy wr (some q)
 r0 : Two wr w.heap.size (.int .i64 0) (.slice none 0 0) 26
 t0 : Two wr T (.int .i64 d) (.slice a ts.length c) 26
 k : ZdD (w.heap.size + 1) wr a ts
 cp : ts.length <= c
 bd : ZdL ts
theorem ZgW {w wr wy : World} {q : Nat} {ao : Option Addr} {n cap T : Nat} {d : Int} {a : Option Addr} {c : Nat} {ts : List Wb} (h : TwE w wr q ao n cap T d a c ts) (hq : q < w.heap.size) (hwy : wy = (wr.setCell ⟨w.heap.size, 0, none⟩ (.int .i64 d)).setCell ⟨w.heap.size, 1, none⟩ (.slice a ts.length c)) :
 (ZdD (w.heap.size + 1) wy a ts /\ Cur wy q ao n cap /\ w.grownBy wy (some q)) /\ wy.cell? ⟨w.heap.size, 0, none⟩ = some (.int .i64 d) /\ wy.cell? ⟨w.heap.size, 1, none⟩ = some (.slice a ts.length c) := by
 have t2 : Two wy w.heap.size (.int .i64 d) (.slice a ts.length c) 26 := by rw [hwy]; exact (h.r0.set0 _).set1 _
 have far : ∀ j, j ≠ w.heap.size -> wy.heap[j]? = wr.heap[j]? := fun j hj => by rw [hwy]; exact (Below.heap_setCell _ ⟨w.heap.size, 1, none⟩ _ j hj).trans (Below.heap_setCell wr ⟨w.heap.size, 0, none⟩ _ j hj)
 have hsy : wy.heap.size = wr.heap.size := by rw [hwy, Zc, Zc]
 exact ⟨⟨ZdD.step h.k (by omega) (fun b hb _ => far b (by omega)), h.cur.kept14 (far q (by omega)), ⟨by rw [hwy]; exact h.gr.os, by rw [hwy]; exact h.gr.tape, by rw [hwy]; exact h.gr.output, by rw [hsy]; exact h.gr.size, fun j hj hjq => (far j (by omega)).trans (h.gr.block j hj hjq)⟩⟩, t2.c0, t2.c1⟩
theorem ZiE (y : Nat) (h : y < 3) : ∃ v, (#[.int .i64 (-1), .int .i64 1000002, .int .i64 1000003] : Array Value)[y]? = some (.int .i64 v) := by
 rcases (show y = 0 \/ y = 1 \/ y = 2 by omega) with rfl | rfl | rfl <;> exact ⟨_, rfl⟩
structure TwP (w wr : World) (q : Nat) (ao : Option Addr) (n cap T : Nat) (d : Int) (a : Option Addr) (c : Nat) (ts : List Wb) : Prop where
 cur : Cur wr q ao n cap
 gr : w.grownBy wr (some q)
 r0 : Two wr w.heap.size (.int .i64 0) (.slice none 0 0) 26
 t0 : Two wr T (.int .i64 d) (.slice a ts.length c) 26
 web : ∃ S vm vl, TsR false (w.heap.size + 1) wr (.slice a ts.length c) ts S vm vl /\ ∀ b, FtR (.slice a ts.length c) ts.length S b -> b ≠ T
 cp : ts.length <= c
 bd : ZdL ts
theorem TwP.fin {w wr : World} {q : Nat} {ao : Option Addr} {n cap T : Nat} {d : Int} {a : Option Addr} {c : Nat} {ts : List Wb} (h : TwP w wr q ao n cap T d a c ts) : TwE w wr q ao n cap T d a c ts := by
 obtain ⟨S, vm, vl, hr, -⟩ := h.web
 exact ⟨h.cur, h.gr, h.r0, h.t0, hr.kept, h.cp, h.bd⟩
theorem TwP.go {w wr wy wz : World} {q : Nat} {ao : Option Addr} {n cap T : Nat} {d d' : Int} {a : Option Addr} {c : Nat} {ts : List Wb} (h : TwP w wr q ao n cap T d a c ts) (hq : q < w.heap.size) (hT : w.heap.size < T) (hg : wr.grownBy wy (some q)) (hc : Cur wy q ao n cap)
 (hm : wz.os = wy.os /\ wz.tape = wy.tape /\ wz.output = wy.output) (hs : wz.heap.size = wy.heap.size) (far : ∀ b, b ≠ T -> wz.heap[b]? = wy.heap[b]?) (ht : Two wz T (.int .i64 d') (.slice a ts.length c) 26) : TwP w wz q ao n cap T d' a c ts := by
 have hws := h.gr.size
 have hgz := Zh h.gr hg
 have hold : ∀ b, b < wr.heap.size -> b ≠ q -> b ≠ T -> wz.heap[b]? = wr.heap[b]? := fun b h1 h2 h3 => (far b h3).trans (hg.block b h1 (by simp; exact h2))
 obtain ⟨S, vm, vl, hr, hn⟩ := h.web
 exact ⟨hc.kept14 (far q (by omega)), ⟨hm.1.trans hgz.os, hm.2.1.trans hgz.tape, hm.2.2.trans hgz.output, by rw [hs]; exact hgz.size, fun b hb hbq => (far b (by omega)).trans (hgz.block b hb hbq)⟩, (hold _ h.r0.lt (by omega) (by omega)).trans h.r0, ht, ⟨S, vm, vl, hr.sm ⟨by rw [hs]; exact hg.size, fun b hb => hold b (hr.bnd b hb).2 (by have := (hr.bnd b hb).1; omega) (hn b hb)⟩, hn⟩, h.cp, h.bd⟩
theorem TwP.stay {w wr wy : World} {q : Nat} {ao : Option Addr} {n cap T : Nat} {d : Int} {a : Option Addr} {c : Nat} {ts : List Wb} (h : TwP w wr q ao n cap T d a c ts) (hq : q < w.heap.size) (hT : w.heap.size < T) (hg : wr.grownBy wy (some q)) (hc : Cur wy q ao n cap) : TwP w wy q ao n cap T d a c ts :=
 h.go hq hT hg hc ⟨rfl, rfl, rfl⟩ rfl (fun _ _ => rfl) ((hg.block T h.t0.lt (by simp; omega)).trans h.t0)
theorem TwP.dice {w wr wy : World} {q : Nat} {ao : Option Addr} {n cap T : Nat} {d : Int} {a : Option Addr} {c : Nat} {ts : List Wb} (h : TwP w wr q ao n cap T d a c ts) (hq : q < w.heap.size) (hT : w.heap.size < T) (hg : wr.grownBy wy (some q)) (hc : Cur wy q ao n cap) (y : Int) : TwP w (wy.setCell ⟨T, 0, none⟩ (.int .i64 y)) q ao n cap T y a c ts :=
 h.go hq hT hg hc ⟨rfl, rfl, rfl⟩ (Zc ..) (fun b hb => Below.heap_setCell wy ⟨T, 0, none⟩ _ b hb) ((show Two wy T (.int .i64 d) (.slice a ts.length c) 26 from (hg.block T h.t0.lt (by simp; omega)).trans h.t0).set0 _)
theorem TwP.web1 {w wr wy : World} {q g : Nat} {ao : Option Addr} {n cap T : Nat} {d : Int} {c : Nat} {ts : List Wb} {am al : Option Addr} {cm cl : Nat} {ms : List Mk} {ls : List (List Int)} (h : TwP w wr q ao n cap T d (some ⟨g, 0, none⟩) c ts) (hq : q < w.heap.size) (hT : w.heap.size < T) (hg : wr.grownBy wy (some q)) (hc : Cur wy q ao n cap) (hk : 1 < ts.length) (hwa : WA wr.heap.size wy am cm al cl ms ls) :
 TwE w ((wy.setCell ⟨g, 2, none⟩ (.slice am ms.length cm)).setCell ⟨g, 3, none⟩ (.slice al ls.length cl)) q ao n cap T d (some ⟨g, 0, none⟩) c (ts.set 1 (ms, ls)) := by
 have h2 := h.stay hq hT hg hc
 have hws := h.gr.size
 obtain ⟨S, vm, vl, hr, hn⟩ := h.web
 have hgT := hn g (Or.inl rfl)
 have hgb := hr.bnd g (Or.inl rfl)
 have hr2 : TsR false (w.heap.size + 1) wy (.slice (some ⟨g, 0, none⟩) ts.length c) ts S vm vl := hr.sm ⟨hg.size, fun b hb => hg.block b (hr.bnd b hb).2 (by have := (hr.bnd b hb).1; simp; omega)⟩
 have hp := hr.put2 hr2 hk (t := (ms, ls)) (F := Btw wr.heap.size wy.heap.size) hwa.ow (fun b hb => hb.1) (by omega)
 have hsm := hwa.small
 have far : ∀ b, b ≠ g -> ((wy.setCell ⟨g, 2, none⟩ (.slice am ms.length cm)).setCell ⟨g, 3, none⟩ (.slice al ls.length cl)).heap[b]? = wy.heap[b]? := fun b hb => (Below.heap_setCell _ ⟨g, 3, none⟩ _ b hb).trans (Below.heap_setCell wy ⟨g, 2, none⟩ _ b hb)
 have hsz : ((wy.setCell ⟨g, 2, none⟩ (.slice am ms.length cm)).setCell ⟨g, 3, none⟩ (.slice al ls.length cl)).heap.size = wy.heap.size := by rw [Zc, Zc]
 have hl : (ts.set 1 (ms, ls)).length = ts.length := List.length_set ..
 refine ⟨h2.cur.kept14 (far q (by omega)), ⟨h2.gr.os, h2.gr.tape, h2.gr.output, by rw [hsz]; exact h2.gr.size, fun b hb hbq => (far b (by omega)).trans (h2.gr.block b hb hbq)⟩, (far _ (by omega)).trans h2.r0, ?_, ?_, by rw [hl]; exact h.cp, h.bd.set hk ⟨by have := hsm.2.2.2.2.1; show ms.length <= 60; omega, hsm.2.2.2.2.2.2.1, by have := hsm.2.2.2.2.2.1; show ls.length <= 60; omega, hsm.2.2.2.2.2.2.2⟩⟩
 · rw [hl]; exact (far T (by omega)).trans h2.t0
 · exact hp.kept
theorem TwP.tail {w wr : World} {q g : Nat} {ao : Option Addr} {n cap T : Nat} {d : Int} {c : Nat} {ts : List Wb} (h : TwP w wr q ao n cap T d (some ⟨g, 0, none⟩) c ts) (hq : q < w.heap.size) (hT : w.heap.size < T) (h1 : 1 <= ts.length) :
 TwE w (wr.setCell ⟨T, 1, none⟩ (.slice (some ⟨g, 2, none⟩) (ts.length - 1) (c - 1))) q ao n cap T d (some ⟨g, 2, none⟩) (c - 1) (ts.drop 1) := by
 have hws := h.gr.size
 obtain ⟨S, vm, vl, hr, hn⟩ := h.web
 have far : ∀ b, b ≠ T -> (wr.setCell ⟨T, 1, none⟩ (.slice (some ⟨g, 2, none⟩) (ts.length - 1) (c - 1))).heap[b]? = wr.heap[b]? := fun b hb => Below.heap_setCell wr ⟨T, 1, none⟩ _ b hb
 have hsz : (wr.setCell ⟨T, 1, none⟩ (.slice (some ⟨g, 2, none⟩) (ts.length - 1) (c - 1))).heap.size = wr.heap.size := Zc ..
 have hl : (ts.drop 1).length = ts.length - 1 := List.length_drop
 have hcp := h.cp
 refine ⟨h.cur.kept14 (far q (by omega)), ⟨h.gr.os, h.gr.tape, h.gr.output, by rw [hsz]; exact h.gr.size, fun b hb hbq => (far b (by omega)).trans (h.gr.block b hb hbq)⟩, (far _ (by omega)).trans h.r0, ?_, fun w' hs hb => ?_, by rw [hl]; omega, h.bd.drop 1⟩
 · rw [hl]; exact h.t0.set1 _
 · have hv := hr.sm (w' := w') ⟨by omega, fun b hbf => (hb b (hr.bnd b hbf).1 (by have := (hr.bnd b hbf).2; omega)).trans (far b (hn b hbf))⟩
   obtain ⟨a', c', e, -, hv⟩ := hv.form
   injection e with e1 e2 e3
   subst e1
   have := hv.drop1
   rw [Nat.zero_add] at this
   exact this
theorem Zgk (q : Nat) (ao : Option Addr) (n cap : Nat) (w : World) (hc : Cur w q ao n cap) (hv : Zaa w ao n) (hn : n <= 4096) :
 Calls Tryz.prog 96 #[.pointer (some ⟨q, 0, none⟩)] w fun e w' => (∃ d a c ts, e = .returned (.agg #[.int .i64 d, .slice a ts.length c]) /\ ZdD (w.heap.size + 1) w' a ts /\ ts.length <= c /\ ZdL ts) /\ Cur w' q ao n cap /\ w.grownBy w' (some q) := by
 have hq := hc.lt
 obtain ⟨W0, hW0⟩ : ∃ W, w.alloc (.cells #[.int .i64 0, .slice none 0 0] 26) = W := ⟨_, rfl⟩
 have s0 : W0.heap.size = w.heap.size + 1 := by rw [<- hW0]; simp
 have b0 : Below w.heap.size w W0 := by rw [<- hW0]; exact (Below.refl _ _).alloc (Nat.le_refl _) _
 have HR0 : Hid (Two W0 w.heap.size (.int .i64 0) (.slice none 0 0) 26) := by show Two _ _ _ _ _; rw [<- hW0]; exact Two.new w _ _ _
 have g0 : w.grownBy W0 (some q) := Zu b0 _
 have c0 : Cur W0 q ao n cap := hc.kept14 (b0.block q hq)
 have HV0 : Hid (∀ wr, w.grownBy wr (some q) -> Zaa wr ao n) := fun wr hg => hv.grown hc hg
 have HCT := Za (Zoj q ao n cap W0 c0 (HV0.out W0 g0) hn)
 have HW0 := Za hW0
 have HS0 := Za s0
 have HG0 := Za g0
 clear s0 b0 hW0 hc hv g0 c0
 go_enter Tryz.func96, Tryz.ntmps96
 go_upto_region 1 with fail
 rw [HW0.out]
 clear HW0
 go_wp2_with fail
 refine HCT.out.mono ?_
 rintro e W1 ⟨⟨d, v, ts, rfl, ⟨S, vm, vl, ht⟩, hok⟩, c1, g1⟩
 obtain ⟨g, c, rfl, hg1, hg2, hcc, hce⟩ := ht.nonil (by have := (Zad hok).1; omega)
 obtain ⟨T, hT⟩ : ∃ T, W1.heap.size = T := ⟨_, rfl⟩
 obtain ⟨W2, hW2⟩ : ∃ W, W1.alloc (.cells #[.int .i64 d, .slice (some ⟨g, 0, none⟩) ts.length c] 26) = W := ⟨_, rfl⟩
 have b2 : Below W1.heap.size W1 W2 := by rw [<- hW2]; exact (Below.refl _ _).alloc (Nat.le_refl _) _
 have hT2 : Two W2 T (.int .i64 d) (.slice (some ⟨g, 0, none⟩) ts.length c) 26 := by rw [<- hW2, <- hT]; exact Two.new W1 _ _ _
 have hTl : w.heap.size < T := by have := HS0.out; have := g1.size; omega
 have hs0 := HS0.out
 have HP2 : Hid (TwP w W2 q ao n cap T d (some ⟨g, 0, none⟩) c ts) := by
  refine ⟨c1.kept14 (b2.block q (by have := g1.size; omega)), Zh HG0.out (Zh g1 (Zu b2 _)), ?_, hT2, ⟨S, vm, vl, (ht.lowm (by omega)).next b2, fun b hb => by have := (ht.bnd b hb).2; omega⟩, hcc, Zok hok⟩
  have h1 : Two W1 w.heap.size (.int .i64 0) (.slice none 0 0) 26 := (g1.block _ HR0.out.lt (by simp; omega)).trans HR0.out
  exact h1.below b2
 have H4 := Za (Zad hok).1
 have HW2 := Za hW2
 have HON := Za (Zfc q ao n cap 12 W2 HP2.out.cur (HV0.out W2 HP2.out.gr) hn (by omega) (by omega))
 clear ht c1 g1 b2 hT2 hW2 hok hg1 hg2 hce HCT HG0 HR0 HS0 hs0 S vm vl
 try rw [hT]
 go_upto_region 2 with fail
 try rw [hT]
 rw [HW2.out]
 clear HW2 hT
 go_wp2_with fail
 refine HON.out.mono ?_
 rintro e w3 ⟨⟨x, rfl⟩, c3, g3⟩
 have HP3 := Za (HP2.out.stay hq hTl g3 c3)
 clear HON HP2 c3 g3
 cases x with
 | false =>
   have a0 := HP3.out.t0.c0
   have a1 := HP3.out.t0.c1
   have r0 := HP3.out.r0.c0
   have r1 := HP3.out.r0.c1
   have f0 := HP3.out.r0.frozen 0
   have f1 := HP3.out.r0.frozen 1
   go_wp2_with fail
   obtain ⟨wy, hwy⟩ : ∃ wy, wy = (w3.setCell ⟨w.heap.size, 0, none⟩ (.int .i64 d)).setCell ⟨w.heap.size, 1, none⟩ (.slice (some ⟨g, 0, none⟩) ts.length c) := ⟨_, rfl⟩
   rw [<- hwy]
   obtain ⟨hf, y0, y1⟩ := ZgW HP3.out.fin hq hwy
   have HFIN := Za hf
   have HBD := Za (And.intro HP3.out.cp HP3.out.bd)
   clear hwy hf
   refine bodyPost_ret (v := .agg #[.int .i64 d, .slice (some ⟨g, 0, none⟩) ts.length c]) (by simp [results, Tryz.results96, go_sem, y0, y1]) rfl ?_
   exact ⟨⟨d, _, c, ts, rfl, HFIN.out.1, HBD.out⟩, HFIN.out.2⟩
 | true =>
   have HBE := Za (Za0 q ao n cap 3 w3 HP3.out.cur (HV0.out _ HP3.out.gr) hn (by omega) (by omega))
   go_wp2_with fail
   refine HBE.out.mono ?_
   rintro e w4 ⟨⟨y, y0, y1, rfl⟩, c4, g4⟩
   have HP4 := Za (HP3.out.stay hq hTl g4 c4)
   clear HBE HP3 c4 g4
   rcases (show y = 0 \/ y = 1 \/ y = 2 by omega) with rfl | rfl | rfl
   · have ga := World.grownBy_alloc w4 (.cells #[.int .i64 (-1), .int .i64 1000002, .int .i64 1000003] 2) (some q)
     have HP5 := Za (HP4.out.stay hq hTl ga (HP4.out.cur.alloc _))
     have HB5 := Za (Za0 q ao n cap 3 _ HP5.out.cur (HV0.out _ HP5.out.gr) hn (by omega) (by omega))
     have hs5 : w.heap.size < w4.heap.size := HP4.out.r0.lt
     clear ga
     go_wp2_with fail
     refine HB5.out.mono ?_
     rintro e w6 ⟨⟨z, z0, z1, rfl⟩, c6, g6⟩
     obtain ⟨yn, rfl⟩ := Int.eq_ofNat_of_zero_le z0
     obtain ⟨v, hv3⟩ := ZiE yn (by omega)
     have ht : w6.cell? ⟨w4.heap.size, yn, none⟩ = some (.int .i64 v) := g6.cell (by rw [World.cell?_alloc_at _ _ _ _ rfl]; exact hv3) (by simp; omega)
     have hy2 : (yn : Int) < 3 := by omega
     have HP6 := Za (HP5.out.stay hq hTl g6 c6)
     have HP7 := Za (HP5.out.dice hq hTl g6 c6 v)
     have u0 := HP6.out.t0.c0
     have uf := HP6.out.t0.frozen 0
     have a0 := HP7.out.t0.c0
     have a1 := HP7.out.t0.c1
     have r0 := HP7.out.r0.c0
     have r1 := HP7.out.r0.c1
     have f0 := HP7.out.r0.frozen 0
     have f1 := HP7.out.r0.frozen 1
     clear g6 c6 HB5 HP5 HP6 HP4
     go_wp2_with fail
     obtain ⟨wy, hwy⟩ : ∃ wy, wy = ((w6.setCell ⟨T, 0, none⟩ (.int .i64 v)).setCell ⟨w.heap.size, 0, none⟩ (.int .i64 v)).setCell ⟨w.heap.size, 1, none⟩ (.slice (some ⟨g, 0, none⟩) ts.length c) := ⟨_, rfl⟩
     rw [<- hwy]
     obtain ⟨hf, y0, y1⟩ := ZgW HP7.out.fin hq hwy
     have HFIN := Za hf
     have HBD := Za (And.intro HP7.out.cp HP7.out.bd)
     clear hwy hf u0 uf a0 a1 r0 r1 f0 f1 ht
     refine bodyPost_ret (v := .agg #[.int .i64 v, .slice (some ⟨g, 0, none⟩) ts.length c]) (by simp [results, Tryz.results96, go_sem, y0, y1]) rfl ?_
     exact ⟨⟨v, _, c, ts, rfl, HFIN.out.1, HBD.out⟩, HFIN.out.2⟩
   · have h4 := H4.out
     have hk : (1 : Int) < (ts.length : Int) := by omega
     have a0 := HP4.out.t0.c0
     have a1 := HP4.out.t0.c1
     have HWA : Hid (Calls Tryz.prog 178 #[.pointer (some ⟨q, 0, none⟩)] w4.drew fun e w' => ∃ am cm al cl ms ls, e = .returned (.agg #[.slice am ms.length cm, .slice al ls.length cl]) /\ w'.cell? ⟨T, 1, none⟩ = some (.slice (some ⟨g, 0, none⟩) ts.length c) /\ (∃ u v, w'.cell? ⟨g, 2, none⟩ = some u /\ w'.cell? ⟨g, 3, none⟩ = some v /\ u.oneCell' = true /\ v.oneCell' = true) /\ (∀ j, w'.frozen? ⟨g, j, none⟩ = false) /\ TwE w ((w'.setCell ⟨g, 2, none⟩ (.slice am ms.length cm)).setCell ⟨g, 3, none⟩ (.slice al ls.length cl)) q ao n cap T d (some ⟨g, 0, none⟩) c (ts.set 1 (ms, ls))) := by
      have gd : w4.grownBy w4.drew (some q) := ⟨rfl, rfl, rfl, Nat.le_refl _, fun _ _ _ => rfl⟩
      have hp4 := HP4.out
      refine (Znh q ao n cap w4.drew hp4.cur.drew (HV0.out _ (Zh hp4.gr gd)) hn).mono ?_
      rintro e w' ⟨⟨am, cm, al, cl, ms, ls, rfl, hwa⟩, c5, g5⟩
      have g45 := Zh gd g5
      have hp5 := hp4.stay hq hTl g45 c5
      refine ⟨am, cm, al, cl, ms, ls, rfl, hp5.t0.c1, ?_, ?_, hp4.web1 hq hTl g45 c5 (by omega) hwa⟩
      · obtain ⟨S, vm, vl, hr, -⟩ := hp5.web
        obtain ⟨g', c', e', -, -, -, hcl⟩ := hr.nonil (by omega)
        injection e' with e1 e2 e3
        injection e1 with e1
        injection e1 with e1
        subst e1
        obtain ⟨x0, x1, -⟩ := hcl 1 (by omega)
        obtain ⟨am', cm', al', cl', e1, e2, -⟩ := (hr.webs 1 (by omega)).view
        rw [e1] at x0
        rw [e2] at x1
        exact ⟨_, _, x0, x1, rfl, rfl⟩
      · obtain ⟨S, vm, vl, hr, -⟩ := hp5.web
        obtain ⟨g', c', e', -, -, -, hcl⟩ := hr.nonil (by omega)
        injection e' with e1 e2 e3
        injection e1 with e1
        injection e1 with e1
        subst e1
        exact (hcl 1 (by omega)).2.2
     clear h4
     go_wp2_with fail
     go_region_with (go_at_call 178; refine HWA.out.mono ?_; rintro e w5 ⟨am, cm, al, cl, ms, ls, rfl, u1, ⟨uu, vv, x0, x1, x2, x3⟩, uf, hte⟩; have xf2 := uf 2; have xf3 := uf 3; have HTE := Za hte; clear hte uf)
     all_goals (
      try simp only [Exit.then]
      have b0 := HTE.out.t0.c0
      have b1 := HTE.out.t0.c1
      have r0 := HTE.out.r0.c0
      have r1 := HTE.out.r0.c1
      have f0 := HTE.out.r0.frozen 0
      have f1 := HTE.out.r0.frozen 1
      rw [List.length_set] at b1
      clear a0 a1 u1
      go_wp2_with fail
      obtain ⟨wy, hwy⟩ : ∃ wy, wy = (((w5.setCell ⟨g, 2, none⟩ (.slice am ms.length cm)).setCell ⟨g, 3, none⟩ (.slice al ls.length cl)).setCell ⟨w.heap.size, 0, none⟩ (.int .i64 d)).setCell ⟨w.heap.size, 1, none⟩ (.slice (some ⟨g, 0, none⟩) ts.length c) := ⟨_, rfl⟩
      rw [<- hwy]
      have hl : ts.length = (ts.set 1 (ms, ls)).length := by rw [List.length_set]
      rw [hl] at hwy
      obtain ⟨hf, y0, y1⟩ := ZgW HTE.out hq hwy
      have HFIN := Za hf
      have HBD := Za (And.intro HTE.out.cp HTE.out.bd)
      rw [<- hl] at y1
      clear hwy hf b0 b1 r0 r1 f0 f1
      refine bodyPost_ret (v := .agg #[.int .i64 d, .slice (some ⟨g, 0, none⟩) ts.length c]) (by simp [results, Tryz.results96, go_sem, y0, y1]) rfl ?_
      exact ⟨⟨d, _, c, ts.set 1 (ms, ls), by rw [hl], HFIN.out.1, HBD.out⟩, HFIN.out.2⟩)
   · have h4 := H4.out
     have a0 := HP4.out.t0.c0
     have a1 := HP4.out.t0.c1
     have af := HP4.out.t0.frozen 1
     have hcp := HP4.out.cp
     have HTE := Za (HP4.out.tail hq hTl (by omega))
     have h41 : 1 <= ts.length := by omega
     have h42 : 1 < c := by omega
     have h43 : 1 <= c := by omega
     have h44 : c ≠ 1 := by omega
     have hl : ts.length - 1 = (ts.drop 1).length := by rw [List.length_drop]
     have r0 := HTE.out.r0.c0
     have r1 := HTE.out.r0.c1
     have f0 := HTE.out.r0.frozen 0
     have f1 := HTE.out.r0.frozen 1
     have b0 := HTE.out.t0.c0
     have b1 := HTE.out.t0.c1
     rw [<- hl] at b1
     have HL := Za hl
     clear h4 hcp hl
     go_wp2_with fail
     obtain ⟨wy, hwy⟩ : ∃ wy, wy = ((w4.setCell ⟨T, 1, none⟩ (.slice (some ⟨g, 2, none⟩) (ts.length - 1) (c - 1))).setCell ⟨w.heap.size, 0, none⟩ (.int .i64 d)).setCell ⟨w.heap.size, 1, none⟩ (.slice (some ⟨g, 2, none⟩) (ts.length - 1) (c - 1)) := ⟨_, rfl⟩
     rw [<- hwy]
     have hwy2 := hwy
     rw [show Value.slice (some ⟨g, 2, none⟩) (ts.length - 1) (c - 1) = .slice (some ⟨g, 2, none⟩) (ts.drop 1).length (c - 1) by rw [HL.out]] at hwy2
     have hte := HTE.out
     rw [show Value.slice (some ⟨g, 2, none⟩) (ts.length - 1) (c - 1) = .slice (some ⟨g, 2, none⟩) (ts.drop 1).length (c - 1) by rw [HL.out]] at hte
     obtain ⟨hf, y0, y1⟩ := ZgW hte hq hwy2
     have HFIN := Za hf
     have HBD := Za (And.intro hte.cp hte.bd)
     rw [<- HL.out] at y1
     clear hwy hwy2 hf hte b0 b1 r0 r1 f0 f1 a0 a1 af
     refine bodyPost_ret (v := .agg #[.int .i64 d, .slice (some ⟨g, 2, none⟩) (ts.length - 1) (c - 1)]) (by simp [results, Tryz.results96, go_sem, y0, y1]) rfl ?_
     exact ⟨⟨d, _, c - 1, ts.drop 1, by rw [HL.out], HFIN.out.1, HBD.out⟩, HFIN.out.2⟩
theorem Zfd {base base' : Nat} {w : World} {g c : Nat} {xs : List Int} (h : Row base w g c xs) (hb : base' <= base) : Row base' w g c xs :=
 ⟨h.1, h.2.imp id fun ⟨g, cap, cur, h1, h2, h3⟩ => ⟨g, cap, cur, h1, Nat.le_trans hb h2, h3⟩⟩
def TGot (w : World) (a : Option Addr) (c : Nat) (ts : List Wb) (aq : Option Addr) (cq : Nat) (q : List Int) : Prop := ZG true w a ts /\ ts.length <= c /\ ZdL ts /\ Zq w aq q /\ q.length <= cq /\ q.length <= 6
structure DrR (w wr : World) (Q : Nat) (ao : Option Addr) (n cap T M : Nat) (d : Int) (a : Option Addr) (c : Nat) (ts : List Wb) (id : Int) (g cq : Nat) (xs : List Int) : Prop where
 cur : Cur wr Q ao n cap
 L : Below w.heap.size w wr
 r0 : Two wr w.heap.size (.int .i64 0) (.slice none 0 0) 26
 r1 : Two wr (w.heap.size + 1) (.int .i64 0) (.slice none 0 0) 29
 t0 : Two wr T (.int .i64 d) (.slice a ts.length c) 26
 m0 : Two wr M (.int .i64 id) (.slice (some ⟨g, 0, none⟩) xs.length cq) 29
 tw : ∀ w' : World, T <= w'.heap.size -> (∀ b, Q < b -> b < T -> w'.heap[b]? = wr.heap[b]?) -> ZG true w' a ts
 row : ZL (T + 1) wr g cq xs
 off : g ≠ M
 ord : w.heap.size + 2 <= Q /\ Q < T /\ T < M
 x6 : xs.length <= 6
theorem DrR.go {w wr wy wz : World} {Q : Nat} {ao : Option Addr} {n cap T M : Nat} {d : Int} {a : Option Addr} {c : Nat} {ts : List Wb} {id id' : Int} {g g' cq cq' : Nat} {xs xs' : List Int} (h : DrR w wr Q ao n cap T M d a c ts id g cq xs) (hg : wr.grownBy wy (some Q)) (hc : Cur wy Q ao n cap)
 (hm : wz.os = wy.os /\ wz.tape = wy.tape /\ wz.output = wy.output) (hs : wz.heap.size = wy.heap.size) (far : ∀ b, b ≠ M -> wz.heap[b]? = wy.heap[b]?) (ht : Two wz M (.int .i64 id') (.slice (some ⟨g', 0, none⟩) xs'.length cq') 29) (hr : ZL (T + 1) wz g' cq' xs') (ho : g' ≠ M) (h6 : xs'.length <= 6) : DrR w wz Q ao n cap T M d a c ts id' g' cq' xs' := by
 obtain ⟨o1, o2, o3⟩ := h.ord
 have hsz := hg.size
 have hw := h.L.size
 have hMl := h.m0.lt
 have hold : ∀ b, b < wr.heap.size -> b ≠ Q -> b ≠ M -> wz.heap[b]? = wr.heap[b]? := fun b h1 h2 h3 => (far b h3).trans (hg.block b h1 (by simp; exact h2))
 refine ⟨hc.kept14 (far Q (by omega)), ⟨hm.1.trans (hg.os.trans h.L.os), hm.2.1.trans (hg.tape.trans h.L.tape), hm.2.2.trans (hg.output.trans h.L.output), by omega, fun b hb => (hold b (by omega) (by omega) (by omega)).trans (h.L.block b hb)⟩, (hold _ h.r0.lt (by omega) (by omega)).trans h.r0, (hold _ h.r1.lt (by omega) (by omega)).trans h.r1, (hold _ h.t0.lt (by omega) (by omega)).trans h.t0, ht, fun w' h1 h2 => h.tw w' h1 (fun b hb1 hb2 => (h2 b hb1 hb2).trans (hold b (by omega) (by omega) (by omega))), hr, ho, h.ord, h6⟩
theorem DrR.stay {w wr wy : World} {Q : Nat} {ao : Option Addr} {n cap T M : Nat} {d : Int} {a : Option Addr} {c : Nat} {ts : List Wb} {id : Int} {g cq : Nat} {xs : List Int} (h : DrR w wr Q ao n cap T M d a c ts id g cq xs) (hg : wr.grownBy wy (some Q)) (hc : Cur wy Q ao n cap) : DrR w wy Q ao n cap T M d a c ts id g cq xs := by
 obtain ⟨o1, o2, o3⟩ := h.ord
 have hgl := h.row.lt
 exact h.go hg hc ⟨rfl, rfl, rfl⟩ rfl (fun _ _ => rfl) ((hg.block M h.m0.lt (by simp; omega)).trans h.m0) (Zbm h.row (hg.block g hgl.2 (by simp; omega))) h.off h.x6
theorem DrR.id {w wr wy : World} {Q : Nat} {ao : Option Addr} {n cap T M : Nat} {d : Int} {a : Option Addr} {c : Nat} {ts : List Wb} {id : Int} {g cq : Nat} {xs : List Int} (h : DrR w wr Q ao n cap T M d a c ts id g cq xs) (hg : wr.grownBy wy (some Q)) (hc : Cur wy Q ao n cap) (y : Int) : DrR w (wy.setCell ⟨M, 0, none⟩ (.int .i64 y)) Q ao n cap T M d a c ts y g cq xs := by
 have h2 := h.stay hg hc
 have far : ∀ b, b ≠ M -> (wy.setCell ⟨M, 0, none⟩ (.int .i64 y)).heap[b]? = wy.heap[b]? := fun b hb => Below.heap_setCell wy ⟨M, 0, none⟩ _ b hb
 exact h2.go (Z5 _ _) hc ⟨rfl, rfl, rfl⟩ (Zc ..) far (h2.m0.set0 _) (Zbm h2.row (far g h.off)) h.off h.x6
theorem DrR.at {w wr wy : World} {Q : Nat} {ao : Option Addr} {n cap T M : Nat} {d : Int} {a : Option Addr} {c : Nat} {ts : List Wb} {id : Int} {g g' cq cq' : Nat} {xs xs' : List Int} (h : DrR w wr Q ao n cap T M d a c ts id g cq xs) (hg : wr.grownBy wy (some Q)) (hc : Cur wy Q ao n cap) (hr : Row wr.heap.size wy g' cq' xs') (h6 : xs'.length <= 6) : DrR w (wy.setCell ⟨M, 1, none⟩ (.slice (some ⟨g', 0, none⟩) xs'.length cq')) Q ao n cap T M d a c ts id g' cq' xs' := by
 have h2 := h.stay hg hc
 have hMl := h.m0.lt
 have hgl := World.ownsRow.lt hr g' rfl
 obtain ⟨o1, o2, o3⟩ := h.ord
 have far : ∀ b, b ≠ M -> (wy.setCell ⟨M, 1, none⟩ (.slice (some ⟨g', 0, none⟩) xs'.length cq')).heap[b]? = wy.heap[b]? := fun b hb => Below.heap_setCell wy ⟨M, 1, none⟩ _ b hb
 exact h2.go (Z5 _ _) hc ⟨rfl, rfl, rfl⟩ (Zc ..) far (h2.m0.set1 _) (Zbm (Zfd hr (by omega)) (far g' (by omega))) (by omega) h6
theorem Zgl {base : Nat} {w : World} {g c : Nat} {xs : List Int} (h : ZL base w g c xs) : xs.length <= c := by
 obtain ⟨-, ⟨e, -⟩ | ⟨g', cap, cur, e, -, -, hc, -⟩⟩ := h
 · cases e
 · injection e with e1 e2 e3; omega
theorem Zfe {ms : List Mk} (h : ∀ i, (mat ms i).length <= 5) : ZbI ms <= 5 := by have := h 0; unfold ZbI; split <;> omega
def DrS (W' : World) (T M : Nat) (d : Int) (a : Option Addr) (c : Nat) (ts : List Wb) (id : Int) (g cq : Nat) (xs : List Int) : Prop := W'.cell? ⟨T, 0, none⟩ = some (.int .i64 d) /\ W'.cell? ⟨T, 1, none⟩ = some (.slice a ts.length c) /\ W'.cell? ⟨M, 0, none⟩ = some (.int .i64 id) /\ W'.cell? ⟨M, 1, none⟩ = some (.slice (some ⟨g, 0, none⟩) xs.length cq)
theorem DrR.s {w wr : World} {Q : Nat} {ao : Option Addr} {n cap T M : Nat} {d : Int} {a : Option Addr} {c : Nat} {ts : List Wb} {id : Int} {g cq : Nat} {xs : List Int} (h : DrR w wr Q ao n cap T M d a c ts id g cq xs) : DrS wr T M d a c ts id g cq xs := ⟨h.t0.c0, h.t0.c1, h.m0.c0, h.m0.c1⟩
theorem DrR.fin1 {w wr wy : World} {Q : Nat} {ao : Option Addr} {n cap T M : Nat} {d : Int} {a : Option Addr} {c : Nat} {ts : List Wb} {id : Int} {g cq : Nat} {xs : List Int} (h : DrR w wr Q ao n cap T M d a c ts id g cq xs) (hwy : (wr.setCell ⟨w.heap.size, 0, none⟩ (.int .i64 d)).setCell ⟨w.heap.size, 1, none⟩ (.slice a ts.length c) = wy) :
 DrS wy T M d a c ts id g cq xs /\ Two wy w.heap.size (.int .i64 d) (.slice a ts.length c) 26 /\ Two wy (w.heap.size + 1) (.int .i64 0) (.slice none 0 0) 29 /\ (∀ b, b ≠ w.heap.size -> wy.heap[b]? = wr.heap[b]?) /\ Below w.heap.size w wy /\ wy.heap.size = wr.heap.size := by
 obtain ⟨o1, o2, o3⟩ := h.ord
 have far : ∀ b, b ≠ w.heap.size -> wy.heap[b]? = wr.heap[b]? := fun b hb => by rw [<- hwy]; exact (Below.heap_setCell _ ⟨w.heap.size, 1, none⟩ _ b hb).trans (Below.heap_setCell wr ⟨w.heap.size, 0, none⟩ _ b hb)
 have tt : Two wy T (.int .i64 d) (.slice a ts.length c) 26 := (far T (by omega)).trans h.t0
 have mm : Two wy M (.int .i64 id) (.slice (some ⟨g, 0, none⟩) xs.length cq) 29 := (far M (by omega)).trans h.m0
 refine ⟨⟨tt.c0, tt.c1, mm.c0, mm.c1⟩, by rw [<- hwy]; exact (h.r0.set0 _).set1 _, (far _ (by omega)).trans h.r1, far, ?_, by rw [<- hwy, Zc, Zc]⟩
 rw [<- hwy]
 exact (h.L.setCell (Nat.le_refl _) _).setCell (Nat.le_refl _) _
theorem DrR.fin2 {w wr wy wv : World} {Q : Nat} {ao : Option Addr} {n cap T M : Nat} {d : Int} {a : Option Addr} {c : Nat} {ts : List Wb} {id : Int} {g cq : Nat} {xs : List Int} (h : DrR w wr Q ao n cap T M d a c ts id g cq xs) (hwy : (wr.setCell ⟨w.heap.size, 0, none⟩ (.int .i64 d)).setCell ⟨w.heap.size, 1, none⟩ (.slice a ts.length c) = wy) (hwv : (wy.setCell ⟨w.heap.size + 1, 0, none⟩ (.int .i64 id)).setCell ⟨w.heap.size + 1, 1, none⟩ (.slice (some ⟨g, 0, none⟩) xs.length cq) = wv) (hc : ts.length <= c) (hb : ZdL ts) :
 DrS wv T M d a c ts id g cq xs /\ Two wv w.heap.size (.int .i64 d) (.slice a ts.length c) 26 /\ Two wv (w.heap.size + 1) (.int .i64 id) (.slice (some ⟨g, 0, none⟩) xs.length cq) 29 /\ TGot wv a c ts (some ⟨g, 0, none⟩) cq xs /\ Below w.heap.size w wv := by
 obtain ⟨h1, h2, h3, h4, h5, h6⟩ := h.fin1 hwy
 obtain ⟨o1, o2, o3⟩ := h.ord
 have hgl := h.row.lt
 have far : ∀ b, b ≠ w.heap.size + 1 -> wv.heap[b]? = wy.heap[b]? := fun b hb => by rw [<- hwv]; exact (Below.heap_setCell _ ⟨w.heap.size + 1, 1, none⟩ _ b hb).trans (Below.heap_setCell wy ⟨w.heap.size + 1, 0, none⟩ _ b hb)
 have hsv : wv.heap.size = wy.heap.size := by rw [<- hwv, Zc, Zc]
 have all : ∀ b, Q < b -> wv.heap[b]? = wr.heap[b]? := fun b hb => (far b (by omega)).trans (h4 b (by omega))
 have tt : Two wv T (.int .i64 d) (.slice a ts.length c) 26 := (all T (by omega)).trans h.t0
 have mm : Two wv M (.int .i64 id) (.slice (some ⟨g, 0, none⟩) xs.length cq) 29 := (all M (by omega)).trans h.m0
 have hTl := h.t0.lt
 refine ⟨⟨tt.c0, tt.c1, mm.c0, mm.c1⟩, (far _ (by omega)).trans h2, by rw [<- hwv]; exact (h3.set0 _).set1 _, ⟨h.tw wv (by omega) (fun b hb _ => all b hb), hc, hb, ZL.view (Zbm h.row (all g (by omega))), Zgl h.row, h.x6⟩, ?_⟩
 rw [<- hwv]
 exact (h5.setCell (by show w.heap.size <= w.heap.size + 1; omega) _).setCell (by show w.heap.size <= w.heap.size + 1; omega) _
theorem Zhv (ao : Option Addr) (n cap : Nat) (w : World) (hv : Zaa w ao n) (hn : n <= 4096) :
 Calls Tryz.prog 13 #[.slice ao n cap] w fun e w' => ∃ d a c ts id aq cq q, e = .returned (.tuple #[.agg #[.int .i64 d, .slice a ts.length c], .agg #[.int .i64 id, .slice aq q.length cq]]) /\ TGot w' a c ts aq cq q /\ Below w.heap.size w w' := by
 obtain ⟨Wa, hWa⟩ : ∃ W, w.alloc (.cells #[.int .i64 0, .slice none 0 0] 26) = W := ⟨_, rfl⟩
 obtain ⟨W, hW⟩ : ∃ W, Wa.alloc (.cells #[.int .i64 0, .slice none 0 0] 29) = W := ⟨_, rfl⟩
 have sa : Wa.heap.size = w.heap.size + 1 := by rw [<- hWa]; simp
 have sW : W.heap.size = w.heap.size + 2 := by rw [<- hW]; simp [sa]
 have ba : Below w.heap.size w Wa := by rw [<- hWa]; exact (Below.refl _ _).alloc (Nat.le_refl _) _
 have bW : Below Wa.heap.size Wa W := by rw [<- hW]; exact (Below.refl _ _).alloc (Nat.le_refl _) _
 have tA : Two W w.heap.size (.int .i64 0) (.slice none 0 0) 26 := by
  have : Two Wa w.heap.size (.int .i64 0) (.slice none 0 0) 26 := by rw [<- hWa]; exact Two.new w _ _ _
  exact this.below bW
 have tB : Two W (w.heap.size + 1) (.int .i64 0) (.slice none 0 0) 29 := by rw [<- hW, <- sa]; exact Two.new Wa _ _ _
 have LW := Zb ba bW
 have vW := hv.below (Nat.le_refl _) LW
 have HN := Za (cNew ao n cap W vW hn)
 have HCV : Hid (∀ wr, Below w.heap.size w wr -> Zaa wr ao n) := fun wr L => hv.below (Nat.le_refl _) L
 have HWW : Hid ((w.alloc (.cells #[.int .i64 0, .slice none 0 0] 26)).alloc (.cells #[.int .i64 0, .slice none 0 0] 29) = W) := by show _ = _; rw [hWa, hW]
 have HST := Za (And.intro LW (And.intro tA (And.intro tB sW)))
 clear sW hWa hW ba bW LW tA tB vW sa hv
 go_enter Tryz.func13, Tryz.ntmps13
 go_upto_region 1 with fail
 rw [HWW.out]
 clear HWW
 go_wp2_with fail
 refine HN.out.mono ?_
 rintro e w1 ⟨rfl, c1, L1⟩
 have hq1 := c1.lt
 have HL1 := Za (Zb HST.out.1 L1)
 have tA1 := HST.out.2.1.below L1
 have tB1 := HST.out.2.2.1.below L1
 have HCA := Za (Zgk W.heap.size ao n cap w1 c1 (HCV.out w1 HL1.out) hn)
 have HT1 := Za (And.intro tA1 tB1)
 have hQw : w.heap.size + 2 <= W.heap.size := by have := HST.out.2.2.2; omega
 clear HN HST L1 tA1 tB1 c1
 generalize hQ : W.heap.size = Q at *
 clear hQ
 go_wp2_with fail
 refine HCA.out.mono ?_
 rintro e w2 ⟨⟨d, a, c, ts, rfl, hk, hcp, hbd⟩, c2, g2⟩
 have hs2 := g2.size
 obtain ⟨T, hT⟩ : ∃ T, w2.heap.size = T := ⟨_, rfl⟩
 obtain ⟨W3, hW3⟩ : ∃ W, w2.alloc (.cells #[.int .i64 d, .slice a ts.length c] 26) = W := ⟨_, rfl⟩
 have b3 : Below w2.heap.size w2 W3 := by rw [<- hW3]; exact (Below.refl _ _).alloc (Nat.le_refl _) _
 have tT : Two W3 T (.int .i64 d) (.slice a ts.length c) 26 := by rw [<- hW3, <- hT]; exact Two.new w2 _ _ _
 have hs1w := HL1.out.size
 have L2 : Below w.heap.size w w2 := ⟨g2.os.trans HL1.out.os, g2.tape.trans HL1.out.tape, g2.output.trans HL1.out.output, by omega, fun b hb => (g2.block b (by omega) (by simp; omega)).trans (HL1.out.block b hb)⟩
 have HP3 : Hid (∀ (wz : World) (M g cq : Nat) (id : Int) (xs : List Int), W3.grownBy wz (some Q) -> Cur wz Q ao n cap -> Two wz M (.int .i64 id) (.slice (some ⟨g, 0, none⟩) xs.length cq) 29 -> ZL (T + 1) wz g cq xs -> g ≠ M -> T < M -> xs.length <= 6 -> DrR w wz Q ao n cap T M d a c ts id g cq xs) := fun wz M g cq id xs hg hcz hm hr ho hTM h6 => by
  have hs3 : W3.heap.size = T + 1 := by rw [<- hW3]; simp [hT]
  have hgs := hg.size
  have g13 : w1.grownBy wz (some Q) := Zh g2 (Zh (Zu b3 _) hg)
  refine ⟨hcz, ⟨g13.os.trans HL1.out.os, g13.tape.trans HL1.out.tape, g13.output.trans HL1.out.output, by have := g13.size; omega, fun b hb => (g13.block b (by omega) (by simp; omega)).trans (HL1.out.block b hb)⟩, (g13.block _ HT1.out.1.lt (by simp; omega)).trans HT1.out.1, (g13.block _ HT1.out.2.lt (by simp; omega)).trans HT1.out.2, (hg.block T tT.lt (by simp; omega)).trans tT, hm, fun w' h1 h2 => hk w' (by omega) (fun b hb1 hb2 => (h2 b (by omega) (by omega)).trans ((hg.block b (by omega) (by simp; omega)).trans (b3.block b hb2))), hr, ho, ⟨by omega, by omega, hTM⟩, h6⟩
 have c3 : Cur W3 Q ao n cap := c2.kept14 (b3.block Q (by omega))
 have L3 := L2.trans (Below.mono b3 L2.size)
 have HB3 := Za (Za0 Q ao n cap 3 W3 c3 (HCV.out W3 L3) hn (by omega) (by omega))
 have HW3 := Za hW3
 have HBD := Za (And.intro hcp hbd)
 have hs3 : W3.heap.size = T + 1 := by rw [<- hW3]; simp [hT]
 clear hk hcp hbd c2 g2 hs2 b3 tT hs1w L2 c3 L3 hW3 HCA HL1 HT1 hq1
 try rw [hT]
 go_upto_region 3 with fail
 try rw [hT]
 rw [HW3.out]
 clear HW3 hT
 go_wp2_with fail
 refine HB3.out.mono ?_
 rintro e w4 ⟨⟨y, y0, y1, rfl⟩, c4, g4⟩
 have hadd : IntKind.i64.wrap (30 + y) = 30 + y := by rw [IntWalk.i64_in _ ⟨by omega, by omega⟩]
 obtain ⟨w5, hw5⟩ : ∃ W, w4.alloc (.cells #[.int .i64 1] 2) = W := ⟨_, rfl⟩
 obtain ⟨w6, hw6⟩ : ∃ W, w5.alloc (.cells #[.int .i64 (30 + y), .slice (some ⟨w4.heap.size, 0, none⟩) 1 1] 29) = W := ⟨_, rfl⟩
 have b5 : Below w4.heap.size w4 w5 := by rw [<- hw5]; exact (Below.refl _ _).alloc (Nat.le_refl _) _
 have b6 : Below w5.heap.size w5 w6 := by rw [<- hw6]; exact (Below.refl _ _).alloc (Nat.le_refl _) _
 have s5 : w5.heap.size = w4.heap.size + 1 := by rw [<- hw5]; simp
 have tM : Two w6 w5.heap.size (.int .i64 (30 + y)) (.slice (some ⟨w4.heap.size, 0, none⟩) ([1] : List Int).length 1) 29 := by rw [<- hw6]; exact Two.new w5 _ _ _
 have rM : ZL (T + 1) w6 w4.heap.size 1 [1] := by
  have h5 : ZL (T + 1) w5 w4.heap.size 1 [1] := by rw [<- hw5]; exact World.ownsRow_lit w4 #[.int .i64 1] 1 (by have := g4.size; omega) (by unfold maxLen; omega) rfl
  exact h5.below b6
 have g46 := Zh g4 (Zh (Zu b5 _) (Zu b6 (some Q)))
 have HP6 := Za (HP3.out w6 w5.heap.size w4.heap.size 1 (30 + y) [1] g46 (c4.kept14 ((b6.block Q (by have := c4.lt; omega)).trans (b5.block Q c4.lt))) tM rM (by omega) (by have := g4.size; omega) (by simp))
 obtain ⟨M, hM⟩ : ∃ M, w4.heap.size + 1 = M := ⟨_, rfl⟩
 rw [s5, hM] at HP6
 obtain ⟨g0, hg0⟩ : ∃ g, w4.heap.size = g := ⟨_, rfl⟩
 rw [hg0] at HP6
 have HW6 : Hid ((w4.alloc (.cells #[.int .i64 1] 2)).alloc (.cells #[.int .i64 (30 + y), .slice (some ⟨w4.heap.size, 0, none⟩) 1 1] 29) = w6) := by show _ = _; rw [hw5, hw6]
 have HMM := Za hM
 clear hM hg0 hw5 hw6 b5 b6 s5 tM rM g46 c4 g4 HB3 HP3
 go_upto_region 4 with fail
 rw [HW6.out]
 try rw [HMM.out]
 clear HW6 HMM
 have t0 := HP6.out.t0.c0
 have t1 := HP6.out.t0.c1
 have HCV2 : Hid (∀ wr, Below w.heap.size w wr -> Zaa wr ao n) := HCV
 clear HCV
 have hTL : Hid (∀ (w7 : World) (id7 : Int) (g7 cq7 : Nat) (xs7 : List Int), DrR w w7 Q ao n cap T M d a c ts id7 g7 cq7 xs7 -> Calls Tryz.prog 100 #[.pointer (some ⟨Q, 0, none⟩), .int .i64 10] w7 fun e w' => (∃ x : Bool, e = .returned (.bool x)) /\ DrR w w' Q ao n cap T M d a c ts id7 g7 cq7 xs7) := fun w7 id7 g7 cq7 xs7 h =>
  (Zfc Q ao n cap 10 w7 h.cur (HCV2.out w7 h.L) hn (by omega) (by omega)).mono (by rintro e w' ⟨hx, c', g'⟩; exact ⟨hx, h.stay g' c'⟩)
 have hTB : Hid (∀ (w7 : World) (id7 : Int) (g7 cq7 : Nat) (xs7 : List Int), DrR w w7 Q ao n cap T M d a c ts id7 g7 cq7 xs7 -> Calls Tryz.prog 97 #[.pointer (some ⟨Q, 0, none⟩), .int .i64 9] w7 fun e w' => ∃ x : Int, e = .returned (.int .i64 x) /\ w'.cell? ⟨M, 0, none⟩ = some (.int .i64 id7) /\ w'.frozen? ⟨M, 0, none⟩ = false /\ DrR w (w'.setCell ⟨M, 0, none⟩ (.int .i64 x)) Q ao n cap T M d a c ts x g7 cq7 xs7) := fun w7 id7 g7 cq7 xs7 h =>
  (Za0 Q ao n cap 9 w7 h.cur (HCV2.out w7 h.L) hn (by omega) (by omega)).mono (by rintro e w' ⟨⟨x, -, -, rfl⟩, c', g'⟩; exact ⟨x, rfl, (h.stay g' c').m0.c0, (h.stay g' c').m0.frozen 0, h.id g' c' x⟩)
 go_upto_if 19 with fail
 go_cut [19] from 20 to 28 (fun _ wx => ∃ g cq xs, DrR w wx Q ao n cap T M d a c ts (30 + y) g cq xs)
 case first =>
  rcases Nat.eq_zero_or_pos ts.length with h0 | h0
  · have hgt : ¬ ((ts.length : Int) > 0) := by omega
    clear h0
    go_wp2_with fail
    go_meet
    exact ⟨g0, 1, [1], HP6.out⟩
  · have hgt : ((ts.length : Int) > 0) := by omega
    obtain ⟨wb, wof, am, cm, al, cl, rfl, hwb, x0, x1, hmv, hcv, -⟩ := (HP6.out.tw w6 (by have := HP6.out.t0.lt; omega) (fun _ _ _ => rfl)).web h0
    have x0' : w6.cell? ⟨wb, wof, none⟩ = some (.slice am (Ze ts 0).1.length cm) := by simpa using x0
    have hbd0 := (HBD.out.2.2 0).2.1
    have HWI := Za (ZlD am cm (Ze ts 0).1 w6 hmv (fun i => by have := hbd0 i; omega))
    have hw5 := Zfe hbd0
    have hn0 : (0 : Int) < (ts.length : Int) := by omega
    have HAN : Hid (Calls Tryz.prog 98 #[.pointer (some ⟨Q, 0, none⟩), .int .i64 (ZbI (Ze ts 0).1)] w6 fun e w' => ∃ g7 cq7 xs7, e = .returned (.slice (some ⟨g7, 0, none⟩) xs7.length cq7) /\ w'.cell? ⟨M, 1, none⟩ = some (.slice (some ⟨g0, 0, none⟩) 1 1) /\ w'.frozen? ⟨M, 1, none⟩ = false /\ DrR w (w'.setCell ⟨M, 1, none⟩ (.slice (some ⟨g7, 0, none⟩) xs7.length cq7)) Q ao n cap T M d (some ⟨wb, wof, none⟩) c ts (30 + y) g7 cq7 xs7) :=
     (cAny Q ao n cap (ZbI (Ze ts 0).1) w6 HP6.out.cur (HCV2.out w6 HP6.out.L) hn (by omega)).mono (by rintro e w' ⟨⟨g7, cq7, xs7, rfl, hxl, hrow⟩, c', g'⟩; exact ⟨g7, cq7, xs7, rfl, (HP6.out.stay g' c').m0.c1, (HP6.out.stay g' c').m0.frozen 1, HP6.out.at g' c' hrow (by omega)⟩)
    clear h0 x0 x1 hmv hcv hbd0 hw5
    go_wp2_with fail
    refine HWI.out.mono ?_
    rintro e w7 ⟨rfl, hw7⟩
    have hw7' := hw7.symm
    subst hw7'
    go_wp2_with fail
    refine HAN.out.mono ?_
    rintro e w8 ⟨g7, cq7, xs7, rfl, u1, uf, hp7⟩
    have HP7 := Za hp7
    clear hp7 x0' t0 t1 HAN HWI
    go_wp2_with fail
    go_meet
    exact ⟨g7, cq7, xs7, HP7.out⟩
 case rest =>
  obtain ⟨g7, cq7, xs7, hp7⟩ := hcut
  have HP7 := Za hp7
  have HON := Za (hTL.out _ _ _ _ _ HP7.out)
  clear hp7 t0 t1
  go_wp2_with fail
  refine HON.out.mono ?_
  rintro e w9 ⟨⟨x, rfl⟩, hp9⟩
  have HP8 := Za hp9
  clear hp9 HON HP7
  go_upto_if 30 with fail
  go_cut [30] from 31 to 33 (fun _ wx => ∃ id, DrR w wx Q ao n cap T M d a c ts id g7 cq7 xs7)
  case first =>
   cases x with
   | false =>
     go_wp2_with fail
     go_meet
     exact ⟨_, HP8.out⟩
   | true =>
     have HBE := Za (hTB.out _ _ _ _ _ HP8.out)
     go_wp2_with fail
     refine HBE.out.mono ?_
     rintro e w10 ⟨x, rfl, v0, vf, hp10⟩
     have HP10 := Za hp10
     clear hp10 HBE HP8
     go_wp2_with fail
     go_meet
     exact ⟨x, HP10.out⟩
  case rest =>
   obtain ⟨id9, hp9⟩ := hcut
   have HP9 := Za hp9
   clear hp9 HP8
   go_upto_region 8 with fail
   have k0 := HP9.out.t0.c0
   have k1 := HP9.out.t0.c1
   have m0 := HP9.out.m0.c0
   have m1 := HP9.out.m0.c1
   refine Zm (S := fun W' => DrS W' T M d _ c ts _ _ _ _) (fuel := 2) [0, 1] (by kernel_rfl) (by kernel_rfl) (by kernel_rfl) (by kernel_rfl) HP9.out.s (fun _ => ?_)
   iterate 2 (refine ⟨_, rfl, ?_⟩; apply Exists.intro; refine ⟨Or.inl ⟨by rfl, fun w' hw' => ?_⟩, ?_⟩; (focus (obtain ⟨s1, s2, s3, s4⟩ := hw'; first | (go_simp; done) | (go_simp; with_reducible rfl))); simp only [Act.put, List.getElem_toArray, List.getElem_cons_succ, List.getElem_cons_zero, List.setIfInBounds_toArray, List.set_cons_zero, List.set_cons_succ])
   have r0 := HP9.out.r0.c0
   have r1 := HP9.out.r0.c1
   have rf0 := HP9.out.r0.frozen 0
   have rf1 := HP9.out.r0.frozen 1
   refine Zd 2 (by kernel_rfl) rfl (fun K hK => ?_)
   go_simp
   obtain ⟨wy, hwy⟩ : ∃ wy, (wc.setCell ⟨w.heap.size, 0, none⟩ (.int .i64 d)).setCell ⟨w.heap.size, 1, none⟩ (.slice a ts.length c) = wy := ⟨_, rfl⟩
   obtain ⟨sy, t1y, t2y, -, -, -⟩ := HP9.out.fin1 hwy
   have y0 := t2y.c0
   have y1 := t2y.c1
   have yf0 := t2y.frozen 0
   have yf1 := t2y.frozen 1
   have HWY := Za hwy
   rw [hwy]
   clear hwy r0 r1 rf0 rf1 k0 k1 m0 m1
   refine hK.out _ _ sy (fun _ => ?_)
   clear hK K
   refine Zd 3 (by kernel_rfl) rfl (fun K hK => ?_)
   go_simp
   obtain ⟨wv, hwv⟩ : ∃ wv, (wy.setCell ⟨w.heap.size + 1, 0, none⟩ (.int .i64 id9)).setCell ⟨w.heap.size + 1, 1, none⟩ (.slice (some ⟨g7, 0, none⟩) xs7.length cq7) = wv := ⟨_, rfl⟩
   obtain ⟨sv, t1v, t2v, hgot, LV⟩ := HP9.out.fin2 HWY.out hwv HBD.out.1 HBD.out.2
   have v0 := t1v.c0
   have v1 := t1v.c1
   have v2 := t2v.c0
   have v3 := t2v.c1
   have HFIN := Za (And.intro hgot LV)
   rw [hwv]
   clear hwv hgot LV y0 y1 yf0 yf1 t1v t2v t1y t2y sy
   refine hK.out _ _ sv (fun _ => ?_)
   clear hK K
   refine wpAnyH_done (by kernel_rfl) ?_ _
   refine NoPanic.normal ?_
   try simp only [Exit.then]
   go_wp2_with fail
   refine bodyPost_ret (v := .tuple #[.agg #[.int .i64 d, .slice a ts.length c], .agg #[.int .i64 id9, .slice (some ⟨g7, 0, none⟩) xs7.length cq7]]) (by simp [results, Tryz.results13, go_sem, v0, v1, v2, v3]) rfl ?_
   exact ⟨d, _, c, ts, _, _, cq7, xs7, rfl, HFIN.out.1, HFIN.out.2.drew⟩
structure DrA (w wr : World) (Q : Nat) (ao : Option Addr) (n cap T : Nat) (d : Int) (a : Option Addr) (c : Nat) (ts : List Wb) (g cq : Nat) (xs : List Int) : Prop where
 cur : Cur wr Q ao n cap
 L : Below w.heap.size w wr
 r0 : Two wr w.heap.size (.int .i64 0) (.slice none 0 0) 26
 t0 : Two wr T (.int .i64 d) (.slice a ts.length c) 26
 tw : ∀ w' : World, T <= w'.heap.size -> (∀ b, Q < b -> b < T -> w'.heap[b]? = wr.heap[b]?) -> ZG true w' a ts
 row : ZL (T + 1) wr g cq xs
 ord : w.heap.size + 1 <= Q /\ Q < T
 x6 : xs.length <= 6
theorem DrA.row2 {w wr wy : World} {Q : Nat} {ao : Option Addr} {n cap T : Nat} {d : Int} {a : Option Addr} {c : Nat} {ts : List Wb} {g g' cq cq' : Nat} {xs xs' : List Int} (h : DrA w wr Q ao n cap T d a c ts g cq xs) (hg : wr.grownBy wy (some Q)) (hc : Cur wy Q ao n cap) (hr : ZL (T + 1) wy g' cq' xs') (h6 : xs'.length <= 6) : DrA w wy Q ao n cap T d a c ts g' cq' xs' := by
 obtain ⟨o1, o2⟩ := h.ord
 have hsz := hg.size
 have hTl := h.t0.lt
 have hw := h.L.size
 have hold : ∀ b, b < wr.heap.size -> b ≠ Q -> wy.heap[b]? = wr.heap[b]? := fun b h1 h2 => hg.block b h1 (by simp; exact h2)
 exact ⟨hc, ⟨hg.os.trans h.L.os, hg.tape.trans h.L.tape, hg.output.trans h.L.output, by omega, fun b hb => (hold b (by omega) (by omega)).trans (h.L.block b hb)⟩, (hold _ h.r0.lt (by omega)).trans h.r0, (hold _ h.t0.lt (by omega)).trans h.t0, fun w' h1 h2 => h.tw w' h1 (fun b hb1 hb2 => (h2 b hb1 hb2).trans (hold b (by omega) (by omega))), hr, h.ord, h6⟩
theorem DrA.fin {w wr wy : World} {Q : Nat} {ao : Option Addr} {n cap T : Nat} {d : Int} {a : Option Addr} {c : Nat} {ts : List Wb} {g cq : Nat} {xs : List Int} (h : DrA w wr Q ao n cap T d a c ts g cq xs) (hwy : (wr.setCell ⟨w.heap.size, 0, none⟩ (.int .i64 d)).setCell ⟨w.heap.size, 1, none⟩ (.slice a ts.length c) = wy) (hc : ts.length <= c) (hb : ZdL ts) :
 Two wy T (.int .i64 d) (.slice a ts.length c) 26 /\ Two wy w.heap.size (.int .i64 d) (.slice a ts.length c) 26 /\ TGot wy a c ts (some ⟨g, 0, none⟩) cq xs /\ Below w.heap.size w wy := by
 obtain ⟨o1, o2⟩ := h.ord
 have hgl := h.row.lt
 have hTl := h.t0.lt
 have far : ∀ b, b ≠ w.heap.size -> wy.heap[b]? = wr.heap[b]? := fun b hb => by rw [<- hwy]; exact (Below.heap_setCell _ ⟨w.heap.size, 1, none⟩ _ b hb).trans (Below.heap_setCell wr ⟨w.heap.size, 0, none⟩ _ b hb)
 have hsy : wy.heap.size = wr.heap.size := by rw [<- hwy, Zc, Zc]
 refine ⟨(far T (by omega)).trans h.t0, by rw [<- hwy]; exact (h.r0.set0 _).set1 _, ⟨h.tw wy (by omega) (fun b hb _ => far b (by omega)), hc, hb, ZL.view (Zbm h.row (far g (by omega))), Zgl h.row, h.x6⟩, ?_⟩
 rw [<- hwy]
 exact (h.L.setCell (Nat.le_refl _) _).setCell (Nat.le_refl _) _
theorem ZiF (ao : Option Addr) (n cap : Nat) (w : World) (hv : Zaa w ao n) (hn : n <= 4096) :
 Calls Tryz.prog 15 #[.slice ao n cap] w fun e w' => ∃ d a c ts aq cq q k, e = .returned (.tuple #[.agg #[.int .i64 d, .slice a ts.length c], .slice aq q.length cq, .int .i64 k]) /\ TGot w' a c ts aq cq q /\ Below w.heap.size w w' := by
 obtain ⟨W, hW⟩ : ∃ W, w.alloc (.cells #[.int .i64 0, .slice none 0 0] 26) = W := ⟨_, rfl⟩
 have sW : W.heap.size = w.heap.size + 1 := by rw [<- hW]; simp
 have LW : Below w.heap.size w W := by rw [<- hW]; exact (Below.refl _ _).alloc (Nat.le_refl _) _
 have tA : Two W w.heap.size (.int .i64 0) (.slice none 0 0) 26 := by rw [<- hW]; exact Two.new w _ _ _
 have vW := hv.below (Nat.le_refl _) LW
 have HN := Za (cNew ao n cap W vW hn)
 have HCV : Hid (∀ wr, Below w.heap.size w wr -> Zaa wr ao n) := fun wr L => hv.below (Nat.le_refl _) L
 have HWW := Za hW
 have HST := Za (And.intro LW (And.intro tA sW))
 clear sW hW LW tA vW hv
 go_enter Tryz.func15, Tryz.ntmps15
 go_upto_region 1 with fail
 rw [HWW.out]
 clear HWW
 go_wp2_with fail
 refine HN.out.mono ?_
 rintro e w1 ⟨rfl, c1, L1⟩
 have hq1 := c1.lt
 have HL1 := Za (Zb HST.out.1 L1)
 have tA1 := HST.out.2.1.below L1
 have HCA := Za (Zgk W.heap.size ao n cap w1 c1 (HCV.out w1 HL1.out) hn)
 have HT1 := Za tA1
 have hQw : w.heap.size + 1 <= W.heap.size := by have := HST.out.2.2; omega
 clear HN HST L1 tA1 c1
 generalize hQ : W.heap.size = Q at *
 clear hQ
 go_wp2_with fail
 refine HCA.out.mono ?_
 rintro e w2 ⟨⟨d, a, c, ts, rfl, hk, hcp, hbd⟩, c2, g2⟩
 have hs2 := g2.size
 obtain ⟨T, hT⟩ : ∃ T, w2.heap.size = T := ⟨_, rfl⟩
 obtain ⟨W3, hW3⟩ : ∃ W, w2.alloc (.cells #[.int .i64 d, .slice a ts.length c] 26) = W := ⟨_, rfl⟩
 obtain ⟨w6, hw6⟩ : ∃ W, W3.alloc (.cells #[.int .i64 1, .int .i64 2] 2) = W := ⟨_, rfl⟩
 have b3 : Below w2.heap.size w2 W3 := by rw [<- hW3]; exact (Below.refl _ _).alloc (Nat.le_refl _) _
 have b6 : Below W3.heap.size W3 w6 := by rw [<- hw6]; exact (Below.refl _ _).alloc (Nat.le_refl _) _
 have tT : Two W3 T (.int .i64 d) (.slice a ts.length c) 26 := by rw [<- hW3, <- hT]; exact Two.new w2 _ _ _
 have hs3 : W3.heap.size = T + 1 := by rw [<- hW3]; simp [hT]
 have hs1w := HL1.out.size
 have HP6 : Hid (DrA w w6 Q ao n cap T d a c ts (T + 1) 2 [1, 2]) := by
  have g13 : w1.grownBy w6 (some Q) := Zh g2 (Zh (Zu b3 _) (Zu b6 _))
  refine ⟨c2.kept14 ((b6.block Q (by omega)).trans (b3.block Q (by omega))), ⟨g13.os.trans HL1.out.os, g13.tape.trans HL1.out.tape, g13.output.trans HL1.out.output, by have := g13.size; omega, fun b hb => (g13.block b (by omega) (by simp; omega)).trans (HL1.out.block b hb)⟩, (g13.block _ HT1.out.lt (by simp; omega)).trans HT1.out, tT.below b6, fun w' h1 h2 => hk w' (by omega) (fun b hb1 hb2 => (h2 b (by omega) (by omega)).trans ((b6.block b (by omega)).trans (b3.block b hb2))), ?_, ⟨by omega, by omega⟩, by simp⟩
  rw [<- hw6, <- hs3]
  exact World.ownsRow_lit W3 #[.int .i64 1, .int .i64 2] 2 (Nat.le_refl _) (by unfold maxLen; omega) rfl
 have HW6 : Hid ((w2.alloc (.cells #[.int .i64 d, .slice a ts.length c] 26)).alloc (.cells #[.int .i64 1, .int .i64 2] 2) = w6) := by show _ = _; rw [hW3, hw6]
 have HBD := Za (And.intro hcp hbd)
 have HTT := Za hT
 clear hk hcp hbd c2 g2 hs2 b3 b6 tT hs1w hW3 hw6 HCA HL1 HT1 hq1 hs3 hT
 go_upto_region 4 with fail
 rw [HW6.out]
 try rw [HTT.out]
 clear HW6
 have t0 := HP6.out.t0.c0
 have t1 := HP6.out.t0.c1
 have HCT : Hid (∀ (w7 : World) (g7 cq7 : Nat) (xs7 : List Int), DrA w w7 Q ao n cap T d a c ts g7 cq7 xs7 -> Calls Tryz.prog 105 #[.pointer (some ⟨Q, 0, none⟩)] w7.drew fun e w' => (∃ x : Int, e = .returned (.int .i64 x)) /\ DrA w w' Q ao n cap T d a c ts g7 cq7 xs7) := fun w7 g7 cq7 xs7 h =>
  (Zol Q ao n cap w7.drew h.cur (HCV.out w7.drew h.L.drew) hn).mono (by
    rintro e w' ⟨hx, c', g'⟩
    have gd : w7.grownBy w7.drew (some Q) := ⟨rfl, rfl, rfl, Nat.le_refl _, fun _ _ _ => rfl⟩
    have g2 := Zh gd g'
    have hgl := h.row.lt
    exact ⟨hx, h.row2 g2 c' (Zbm h.row (g2.block _ hgl.2 (by have := h.ord; simp; omega))) h.x6⟩)
 go_upto_if 16 with fail
 go_cut [7, 16] from 17 to 24 (fun v _ wx => ∃ g cq xs, v = .slice (some ⟨g, 0, none⟩) xs.length cq /\ DrA w wx Q ao n cap T d a c ts g cq xs)
 case first =>
  rcases Nat.eq_zero_or_pos ts.length with h0 | h0
  · have hgt : ¬ ((ts.length : Int) > 0) := by omega
    clear h0 HTT
    go_wp2_with fail
    go_meet
    exact ⟨T + 1, 2, [1, 2], rfl, HP6.out⟩
  · have hgt : ((ts.length : Int) > 0) := by omega
    obtain ⟨wb, wof, am, cm, al, cl, rfl, hwb, x0, x1, hmv, hcv, -⟩ := (HP6.out.tw w6 (by have := HP6.out.t0.lt; omega) (fun _ _ _ => rfl)).web h0
    have x0' : w6.cell? ⟨wb, wof, none⟩ = some (.slice am (Ze ts 0).1.length cm) := by simpa using x0
    have hbd0 := (HBD.out.2.2 0).2.1
    have HWI := Za (ZlD am cm (Ze ts 0).1 w6 hmv (fun i => by have := hbd0 i; omega))
    have hw5 := Zfe hbd0
    have hn0 : (0 : Int) < (ts.length : Int) := by omega
    have HAN : Hid (Calls Tryz.prog 98 #[.pointer (some ⟨Q, 0, none⟩), .int .i64 (ZbI (Ze ts 0).1)] w6 fun e w' => ∃ g7 cq7 xs7, e = .returned (.slice (some ⟨g7, 0, none⟩) xs7.length cq7) /\ DrA w w' Q ao n cap T d (some ⟨wb, wof, none⟩) c ts g7 cq7 xs7) :=
     (cAny Q ao n cap (ZbI (Ze ts 0).1) w6 HP6.out.cur (HCV.out w6 HP6.out.L) hn (by omega)).mono (by rintro e w' ⟨⟨g7, cq7, xs7, rfl, hxl, hrow⟩, c', g'⟩; exact ⟨g7, cq7, xs7, rfl, HP6.out.row2 g' c' (Zfd hrow (by have := HP6.out.t0.lt; omega)) (by omega)⟩)
    clear h0 x0 x1 hmv hcv hbd0 hw5 HTT
    go_wp2_with fail
    refine HWI.out.mono ?_
    rintro e w7 ⟨rfl, hw7⟩
    have hw7' := hw7.symm
    subst hw7'
    go_wp2_with fail
    refine HAN.out.mono ?_
    rintro e w7 ⟨g7, cq7, xs7, rfl, hp7⟩
    have HP7 := Za hp7
    clear hp7 x0' t0 t1 HAN HWI
    go_wp2_with fail
    go_meet
    exact ⟨g7, cq7, xs7, rfl, HP7.out⟩
 case rest =>
  obtain ⟨g7, cq7, xs7, rfl, hp7⟩ := hcut
  have HP7 := Za hp7
  have HC7 := Za (HCT.out _ _ _ _ HP7.out)
  clear hp7 t0 t1
  go_upto_region 6 with fail
  have k0 := HP7.out.t0.c0
  have k1 := HP7.out.t0.c1
  refine Zm (S := fun W' => W'.cell? ⟨T, 0, none⟩ = some (.int .i64 d) /\ W'.cell? ⟨T, 1, none⟩ = some (.slice a ts.length c)) (fuel := 4) [0, 1, 2] (by kernel_rfl) (by kernel_rfl) (by kernel_rfl) (by kernel_rfl) ⟨k0, k1⟩ (fun _ => ?_)
  iterate 3 (refine ⟨_, rfl, ?_⟩; apply Exists.intro; refine ⟨Or.inl ⟨by rfl, fun w' hw' => ?_⟩, ?_⟩; (focus (obtain ⟨s1, s2⟩ := hw'; first | (go_simp; done) | (go_simp; with_reducible rfl))); simp only [Act.put, List.getElem_toArray, List.getElem_cons_succ, List.getElem_cons_zero, List.setIfInBounds_toArray, List.set_cons_zero, List.set_cons_succ])
  refine Zd 3 (by kernel_rfl) rfl (fun K hK => ?_)
  go_simp
  refine HC7.out.mono ?_
  rintro e wx ⟨⟨kk, rfl⟩, hp9⟩
  have HP9 := Za hp9
  refine hK.out _ _ ⟨hp9.t0.c0, hp9.t0.c1⟩ (fun _ => ?_)
  clear hK K hp9
  have r0 := HP9.out.r0.c0
  have r1 := HP9.out.r0.c1
  have rf0 := HP9.out.r0.frozen 0
  have rf1 := HP9.out.r0.frozen 1
  refine Zd 4 (by kernel_rfl) rfl (fun K hK => ?_)
  go_simp
  obtain ⟨wy, hwy⟩ : ∃ wy, (wx.setCell ⟨w.heap.size, 0, none⟩ (.int .i64 d)).setCell ⟨w.heap.size, 1, none⟩ (.slice a ts.length c) = wy := ⟨_, rfl⟩
  obtain ⟨tt, tr, hgot, LV⟩ := HP9.out.fin hwy HBD.out.1 HBD.out.2
  have y0 := tr.c0
  have y1 := tr.c1
  have HFIN := Za (And.intro hgot LV)
  rw [hwy]
  clear hwy hgot LV r0 r1 rf0 rf1 k0 k1
  refine hK.out _ _ ⟨tt.c0, tt.c1⟩ (fun hS4 => ?_)
  clear hK K
  refine Zv [5, 6] rfl (by kernel_rfl) (by kernel_rfl) (by kernel_rfl) hS4 ?_
  iterate 2 (refine ⟨_, rfl, ?_⟩; apply Exists.intro; refine ⟨Or.inl ⟨by rfl, fun w' hw' => ?_⟩, ?_⟩; (focus (first | (go_simp; done) | (go_simp; with_reducible rfl))); simp only [Act.put, List.getElem_toArray, List.getElem_cons_succ, List.getElem_cons_zero, List.setIfInBounds_toArray, List.set_cons_zero, List.set_cons_succ])
  refine NoPanic.normal (NoPanic.normal ?_)
  go_wp2_with fail
  refine bodyPost_ret (v := .tuple #[.agg #[.int .i64 d, .slice a ts.length c], .slice (some ⟨g7, 0, none⟩) xs7.length cq7, .int .i64 kk]) (by simp [results, Tryz.results15, go_sem, y0, y1]) rfl ?_
  exact ⟨d, _, c, ts, _, _, xs7, kk, rfl, HFIN.out.1, HFIN.out.2⟩
end Go.Proofs.YtaaagmgglolibaaGreat
