import Derived.Test.YtaaagmgglolibaaGreatTwAskZz
import Derived.Test.YtaaagmgglolibaaGreatFeLikeZz
import Derived.Test.YtaaagmgglolibaaGreatBytesZz
import Derived.Test.YtaaagmgglolibaaGreatWithZz
import Derived.Test.YtaaagmgglolibaaGreatHSpecZz
import Derived.Test.YtaaagmgglolibaaGreatMCopyZz
import Derived.Deep.CutBlock
import Derived.Deep.DeepCutAuto
set_option maxRecDepth 100000
set_option maxHeartbeats 8000000
namespace Go.Proofs.YtaaagmgglolibaaGreat
open Go Go.RowKit
theorem ZjG (w : World) :
 Calls Tryz.prog 23 #[] w fun e w' => ∃ b, e = .returned (.agg #[.int .i64 1, .slice (some ⟨b, 0, none⟩) 4 4]) /\ ZgV w.heap.size w' (.slice (some ⟨b, 0, none⟩) 4 4) Zd2 /\ Below w.heap.size w w' := by
 have hmk : ∀ w : World, (Instr.makeSlice 24 (.int .i64 4) (.int .i64 4)).run Tryz.prog w = .ok (.slice (some ⟨w.heap.size, 0, none⟩) 4 4) (w.alloc (.cells (madeCells #[.slice none 0 0, .slice none 0 0] 8) 47)) := fun w => ZaV (P := Tryz.prog) 24 47 (.agg #[.slice none 0 0, .slice none 0 0]) 2 48 Tryz.underlying24 Tryz.info47 .i64 .i64 4 (by omega) (by omega) w
 go_enter Tryz.func23, Tryz.ntmps23
 go_wp2_with fail
 refine bodyPost_ret (v := .agg #[.int .i64 1, .slice (some ⟨w.heap.size + 1, 0, none⟩) 4 4]) (by simp [results, Tryz.results23, go_sem]) rfl ?_
 refine ⟨w.heap.size + 1, rfl, ?_, ((Below.refl w.heap.size w).alloc (Nat.le_refl _) _).alloc (by simp) _⟩
 obtain ⟨W, hW⟩ : ∃ W, w.alloc (.cells #[.int .i64 1, .slice (some ⟨w.heap.size + 1, 0, none⟩) 4 4] 26) = W := ⟨_, rfl⟩
 have hs : W.heap.size = w.heap.size + 1 := by rw [<- hW]; simp
 have h := newT w.heap.size W (by omega)
 rw [hs, <- hW] at h
 exact h
theorem ZgP {base : Nat} {w : World} {b : Nat} {ts : List Wb} (h : ZgV base w (.slice (some ⟨b, 0, none⟩) 4 4) ts) : ZG true w (some ⟨b, 0, none⟩) ts := by
 obtain ⟨S, vm, vl, h⟩ := h
 obtain ⟨a, c, e, -, hv⟩ := h.form
 injection e with e1 e2 e3
 subst e1
 exact hv
structure TwS (w0 : World) (BT BM BX BA BY : Nat) (aT aq aX aA ap ah aY : Option Addr) (cT cq cX cA cp ch cY : Nat) (d id xd d2 : Int) (ts xt ts2 : List Wb) (q p : List Int) (hs : List Ht) (w : World) : Prop where
 low : Below w0.heap.size w0 w
 t : Two w BT (.int .i64 d) (.slice aT ts.length cT) 26
 tv : ZG true w aT ts
 m : Two w BM (.int .i64 id) (.slice aq q.length cq) 29
 qv : Zq w aq q
 x : Two w BX (.int .i64 xd) (.slice aX xt.length cX) 26
 xv : ZG true w aX xt
 a : Two w BA (.int .i64 d2) (.slice aA ts2.length cA) 26
 av : ZG true w aA ts2
 pv : Zq w ap p
 hv : Zaq w ah hs
 y : Two w BY (.int .i64 xd) (.slice aY xt.length cY) 26
 yv : ZG true w aY xt
theorem TwS.next {w0 w w' : World} {BT BM BX BA BY : Nat} {aT aq aX aA ap ah aY : Option Addr} {cT cq cX cA cp ch cY : Nat} {d id xd d2 : Int} {ts xt ts2 : List Wb} {q p : List Int} {hs : List Ht} (h : TwS w0 BT BM BX BA BY aT aq aX aA ap ah aY cT cq cX cA cp ch cY d id xd d2 ts xt ts2 q p hs w) (L : Below w.heap.size w w') : TwS w0 BT BM BX BA BY aT aq aX aA ap ah aY cT cq cX cA cp ch cY d id xd d2 ts xt ts2 q p hs w' :=
 ⟨Zb h.low L, h.t.below L, h.tv.next L, h.m.below L, Zq.next h.qv L, h.x.below L, h.xv.next L, h.a.below L, h.av.next L, Zq.next h.pv L, h.hv.next L, h.y.below L, h.yv.next L⟩
theorem ZjE (ao0 : Option Addr) (len0 cap0 : Nat) (w : World) (hv0 : Zaa w ao0 len0) :
 Calls Tryz.prog 3 #[.slice ao0 len0 cap0] w fun e w' => e = .returned (.bool true) /\ Below w.heap.size w w' := by
 by_cases hbig : 4096 < len0
 · have hbb : decide (4096 < (len0 : Int)) = true := by simp; omega
   go_enter Tryz.func3, Tryz.ntmps3
   go_wp2_with fail
   refine (bigC ao0 len0 cap0 _).mono ?_
   rintro e w1 ⟨rfl, hw1⟩
   subst hw1
   go_wp2_with fail
   go_ret
   exact ⟨rfl, Below.refl _ _⟩
 have hbb : decide (4096 < (len0 : Int)) = false := by simp; omega
 have hn : len0 <= 4096 := by omega
 have HV0 := Za hv0
 clear hbig hv0
 go_enter Tryz.func3, Tryz.ntmps3
 go_wp2_with fail
 refine (bigC ao0 len0 cap0 _).mono ?_
 rintro e w0 ⟨rfl, hw0⟩
 subst hw0
 rw [hbb]
 clear hbb
 go_wp2_with fail
 refine (Zhv ao0 len0 cap0 _ HV0.out hn).mono ?_
 rintro e w1 ⟨d, aT, cT, ts, id, aq, cq, q, rfl, ⟨htv, htc, htb, hqv, hqc, hq6⟩, L1⟩
 obtain ⟨BT, hBT⟩ : ∃ B, w1.heap.size = B := ⟨_, rfl⟩
 obtain ⟨W2, hW2⟩ : ∃ W, w1.alloc (.cells #[.int .i64 d, .slice aT ts.length cT] 26) = W := ⟨_, rfl⟩
 obtain ⟨W3, hW3⟩ : ∃ W, W2.alloc (.cells #[.int .i64 id, .slice aq q.length cq] 29) = W := ⟨_, rfl⟩
 have hs2 : W2.heap.size = BT + 1 := by rw [<- hW2, <- hBT]; simp
 have hs3 : W3.heap.size = BT + 1 + 1 := by rw [<- hW3]; simp [hs2]
 have L2 : Below w1.heap.size w1 W2 := by rw [<- hW2]; exact (Below.refl _ _).alloc (Nat.le_refl _) _
 have L3 : Below W2.heap.size W2 W3 := by rw [<- hW3]; exact (Below.refl _ _).alloc (Nat.le_refl _) _
 have tT : Two W3 BT (.int .i64 d) (.slice aT ts.length cT) 26 := by
  have : Two W2 BT (.int .i64 d) (.slice aT ts.length cT) 26 := by rw [<- hW2, <- hBT]; exact Two.new w1 _ _ _
  exact this.below L3
 have tM : Two W3 (BT + 1) (.int .i64 id) (.slice aq q.length cq) 29 := by rw [<- hW3, <- hs2]; exact Two.new W2 _ _ _
 have k0 := tT.c0
 have k1 := tT.c1
 have m0 := tM.c0
 have m1 := tM.c1
 have L13 := Zb L2 L3
 have HTV := Za (htv.next L13)
 have HQV : Hid (Zq W3 aq q) := Zq.next hqv L13
 have HTM := Za (And.intro tT tM)
 have HBD := Za (And.intro htb (And.intro htc (And.intro hqc hq6)))
 have HB3 := Za (Zb L1 L13)
 have HRA := Za (gotIR aT aq cT cq d ts (id, q) W3 HTV.out HQV.out htb.small (by show q.length <= _; omega))
 have HWW : Hid ((w1.alloc (.cells #[.int .i64 d, .slice aT ts.length cT] 26)).alloc (.cells #[.int .i64 id, .slice aq q.length cq] 29) = W3) := by show _ = _; rw [hW2, hW3]
 have HRS := Za (fun (W' : World) (L : Below W3.heap.size W3 W') => gotSR aT aq cT cq d ts (id, q) W' (HTV.out.next L) (Zq.next HQV.out L) HBD.out.1.small (by have := HBD.out.2.2.2; show q.length <= _; omega))
 have HPL := Za (Zlu (id, q) ts d)
 have HXW := Za (Zo0 (id, q) ts d)
 obtain ⟨xd, hxd⟩ : ∃ x, rD (id, q) ts d = x := ⟨_, rfl⟩
 obtain ⟨xt, hxt⟩ : ∃ x, rT (id, q) ts d = x := ⟨_, rfl⟩
 obtain ⟨xb, hxb⟩ : ∃ x, rB (id, q) ts d = x := ⟨_, rfl⟩
 rw [hxd, hxt, hxb] at HRA HPL
 rw [hxt] at HXW
 have HRS2 : Hid (∀ W', Below W3.heap.size W3 W' -> Calls Tryz.prog 17 #[.agg #[.int .i64 d, .slice aT ts.length cT], .agg #[.int .i64 id, .slice aq q.length cq]] W' fun e w' => ∃ a1 c1, e = .returned (.tuple #[.agg #[.int .i64 xd, .slice a1 xt.length c1], .bool xb]) /\ ZG true w' a1 xt /\ Below W'.heap.size W' w') := fun W' L => by
  refine (HRS.out W' L).mono ?_
  rintro e w' ⟨a1, c1, rfl, hk, L'⟩
  rw [hxd, hxt, hxb]
  rw [hxt] at hk
  exact ⟨a1, c1, rfl, hk w' (Nat.le_refl _) (fun _ _ _ => rfl), L'⟩
 clear htv htc htb hqv hqc hq6 L1 L2 L3 L13 hW2 hW3 hs2 hs3 tT tM HRS hxd hxt hxb
 go_upto_region 4 with fail
 simp only [HWW.out]
 try rw [hBT]
 clear HWW hBT
 go_wp2_with fail
 refine HRA.out.mono ?_
 rintro e w4 ⟨aX, cX, rfl, hkx, L4⟩
 have hxv := hkx w4 (Nat.le_refl _) (fun _ _ _ => rfl)
 obtain ⟨BX, hBX⟩ : ∃ B, w4.heap.size = B := ⟨_, rfl⟩
 obtain ⟨W5, hW5⟩ : ∃ W, w4.alloc (.cells #[.int .i64 xd, .slice aX xt.length cX] 26) = W := ⟨_, rfl⟩
 have L5 : Below w4.heap.size w4 W5 := by rw [<- hW5]; exact (Below.refl _ _).alloc (Nat.le_refl _) _
 have tX : Two W5 BX (.int .i64 xd) (.slice aX xt.length cX) 26 := by rw [<- hW5, <- hBX]; exact Two.new w4 _ _ _
 have HX5 := Za (And.intro tX (hxv.next L5))
 have HL5 := Za (Zb L4 L5)
 have HDA := Za (ZiF ao0 len0 cap0 W5 (HV0.out.below (Nat.le_refl _) (Zb HB3.out HL5.out)) hn)
 have HW5 := Za hW5
 have HBX := Za hBX
 clear hkx hxv L4 L5 tX hW5 HRA k0 k1 m0 m1 hBX
 go_upto_region 5 with fail
 simp only [HW5.out]
 try rw [HBX.out]
 clear HW5 HBX
 go_wp2_with fail
 refine HDA.out.mono ?_
 rintro e w6 ⟨d2, aA, cA, ts2, ap, cp, p, k, rfl, ⟨hav, hac, hab, hpv, hpc, hp6⟩, L6⟩
 obtain ⟨BA, hBA⟩ : ∃ B, w6.heap.size = B := ⟨_, rfl⟩
 obtain ⟨W7, hW7⟩ : ∃ W, w6.alloc (.cells #[.int .i64 d2, .slice aA ts2.length cA] 26) = W := ⟨_, rfl⟩
 have L7 : Below w6.heap.size w6 W7 := by rw [<- hW7]; exact (Below.refl _ _).alloc (Nat.le_refl _) _
 have tA : Two W7 BA (.int .i64 d2) (.slice aA ts2.length cA) 26 := by rw [<- hW7, <- hBA]; exact Two.new w6 _ _ _
 have a0 := tA.c0
 have a1 := tA.c1
 have HA7 := Za (And.intro tA (And.intro (hav.next L7) (Zq.next hpv L7)))
 have HL7 := Za (Zb HL5.out (Zb L6 L7))
 have HX7 := Za (And.intro (HX5.out.1.below (Zb L6 L7)) (HX5.out.2.next (Zb L6 L7)))
 have HBA := Za (And.intro hab (And.intro hac (And.intro hpc hp6)))
 have HAS := Za (Zo4 aA ap cA cp d2 ts2 p k W7 HA7.out.2.1 HA7.out.2.2 hab.small (by omega) hpc)
 have HSA := Za (fun (W' : World) (L : Below W7.heap.size W7 W') => Zo5 true aA ap cA cp d2 ts2 p k W' (HA7.out.2.1.next L) (Zq.next HA7.out.2.2 L) HBA.out.1.small (by have := HBA.out.2.2.2; omega))
 have HAH := Za (Zna d2 ts2 p k)
 have HAT := Za (fun h => ZnZ (d := d2) (ts := ts2) (q := p) (k := k) h)
 have HAM := Za (fun h1 h2 h3 h4 h5 h6 => Znc (d := d2) (ts := ts2) (q := p) (k := k) h1 h2 h3 h4 h5 h6)
 obtain ⟨hs, hhs⟩ : ∃ h, ZcX d2 ts2 p k = h := ⟨_, rfl⟩
 rw [hhs] at HAS HAH HAM HAT
 have HSA2 : Hid (∀ W', Below W7.heap.size W7 W' -> Calls Tryz.prog 22 #[.agg #[.int .i64 d2, .slice aA ts2.length cA], .slice ap p.length cp, .int .i64 k] W' fun e w' => ∃ g c, e = .returned (.slice (some ⟨g, 0, none⟩) hs.length c) /\ ZD W'.heap.size w' g c hs /\ Below W'.heap.size W' w') := fun W' L => by
  have h := HSA.out W' L
  rw [hhs] at h
  exact h
 have HW7 := Za hW7
 have HBAA := Za hBA
 clear hav hac hab hpv hpc hp6 L6 L7 tA hW7 HDA HSA hhs HX5 HL5 hBA
 go_upto_region 6 with fail
 simp only [HW7.out]
 try rw [HBAA.out]
 clear HW7 HBAA
 go_wp2_with fail
 refine HAS.out.mono ?_
 rintro e w8 ⟨ah, ch, rfl, hho, L8⟩
 have hhv : Zaq w8 ah hs := by
  obtain ⟨ao, c, e, hv⟩ := Zd5.view hho
  injection e with e1 e2 e3
  subst e1
  exact hv
 have HH8 := Za (And.intro hhv L8)
 have HL8 := Za (Zb HL7.out L8)
 have k0 := (HTM.out.1.below HL8.out).c0
 have k1 := (HTM.out.1.below HL8.out).c1
 have m0 := (HTM.out.2.below HL8.out).c0
 have m1 := (HTM.out.2.below HL8.out).c1
 have HRC := Za (HRS2.out w8 HL8.out)
 clear hho hhv L8 HAS a0 a1
 go_wp2_with fail
 refine HRC.out.mono ?_
 rintro e w9 ⟨aY, cY, rfl, hyv, L9⟩
 obtain ⟨BY, hBY⟩ : ∃ B, w9.heap.size = B := ⟨_, rfl⟩
 obtain ⟨wo, hwo⟩ : ∃ W, w9.alloc (.cells #[.int .i64 xd, .slice aY xt.length cY] 26) = W := ⟨_, rfl⟩
 have L10 : Below w9.heap.size w9 wo := by rw [<- hwo]; exact (Below.refl _ _).alloc (Nat.le_refl _) _
 have tY : Two wo BY (.int .i64 xd) (.slice aY xt.length cY) 26 := by rw [<- hwo, <- hBY]; exact Two.new w9 _ _ _
 have L810 := Zb L9 L10
 have L710 := Zb HH8.out.2 L810
 have L310 := Zb HL8.out L810
 have HS : Hid (TwS W3 BT (BT + 1) BX BA BY aT aq aX aA ap ah aY cT cq cX cA cp ch cY d id xd d2 ts xt ts2 q p hs wo) := ⟨L310, HTM.out.1.below L310, HTV.out.next L310, HTM.out.2.below L310, Zq.next HQV.out L310, HX7.out.1.below L710, HX7.out.2.next L710, HA7.out.1.below L710, HA7.out.2.1.next L710, Zq.next HA7.out.2.2 L710, HH8.out.1.next L810, tY, hyv.next L10⟩
 have HWO := Za hwo
 have HBY := Za hBY
 have HL7O := Za L710
 clear hyv L9 L10 L810 L710 L310 tY hwo HRC HH8 HL8 HX7 HRS2 HTM HTV HQV hBY k0 k1 m0 m1
 have HKW : Hid (∀ W', Below wo.heap.size wo W' -> TwS W3 BT (BT + 1) BX BA BY aT aq aX aA ap ah aY cT cq cX cA cp ch cY d id xd d2 ts xt ts2 q p hs W') := fun W' L => HS.out.next L
 have CLK := Za (fun (W' : World) (L : Below wo.heap.size wo W') => Zg0 aX aY cX cY xd xt W' (HKW.out W' L).xv (HKW.out W' L).yv HXW.out)
 have CIT := Za (fun (W' : World) (L : Below wo.heap.size wo W') => Zdj aT cT d ts W' (HKW.out W' L).tv HBD.out.1.small)
 have CST := Za (fun (W' : World) (L : Below wo.heap.size wo W') => Zen true aT cT d ts W' (HKW.out W' L).tv HBD.out.1.small)
 have CSA := Za (fun (W' : World) (L : Below wo.heap.size wo W') => HSA2.out W' (Zb HL7O.out L))
 obtain ⟨tb, htb⟩ : ∃ b, ZN d ts = b := ⟨_, rfl⟩
 rw [htb] at CIT CST HPL
 have htbT : Hid (tb = true -> ZN d ts = true) := fun h => by rw [htb]; exact h
 have hb1 : (xb != xb) = false := by simp
 have hb2 : (tb != tb) = false := by simp
 have HCL : Hid (∀ W', Below wo.heap.size wo W' -> W'.cell? ⟨BT, 0, none⟩ = some (.int .i64 d) /\ W'.cell? ⟨BT, 1, none⟩ = some (.slice aT ts.length cT) /\ W'.cell? ⟨BX, 0, none⟩ = some (.int .i64 xd) /\ W'.cell? ⟨BX, 1, none⟩ = some (.slice aX xt.length cX) /\ W'.cell? ⟨BA, 0, none⟩ = some (.int .i64 d2) /\ W'.cell? ⟨BA, 1, none⟩ = some (.slice aA ts2.length cA) /\ W'.cell? ⟨BY, 0, none⟩ = some (.int .i64 xd) /\ W'.cell? ⟨BY, 1, none⟩ = some (.slice aY xt.length cY)) := fun W' L => by
  have h := HKW.out W' L
  exact ⟨h.t.c0, h.t.c1, h.x.c0, h.x.c1, h.a.c0, h.a.c1, h.y.c0, h.y.c1⟩
 have BLo := Za ((Below.refl wo.heap.size wo).drew)
 have HB9 := Za (Zb HB3.out HS.out.low)
 clear htb HS HV0 HB3 HSA2 HL7 HL7O HA7
 go_upto_region 8 with fail
 simp only [HWO.out]
 try rw [HBY.out]
 clear HWO HBY
 go_cut [74] from 44 to 73 (fun v wx => v = .bool false /\ Below wo.heap.size wo wx)
 case first =>
  refine Zm (S := fun W' => Below wo.heap.size wo W') (fuel := 25) [0, 1, 2, 3, 4, 5] (by kernel_rfl) (by kernel_rfl) (by kernel_rfl) (by kernel_rfl) BLo.out (fun _ => ?_)
  iterate 6 (refine ⟨_, rfl, ?_⟩; (first | refine ⟨undef, Or.inr ⟨by rfl, rfl⟩, ?_⟩ | (apply Exists.intro; refine ⟨Or.inl ⟨by rfl, fun w' hw' => ?_⟩, ?_⟩; (focus (obtain ⟨e0, e1, e2, e3, e4, e5, e6, e7⟩ := HCL.out w' hw'; first | (go_simp; done) | (go_simp; with_reducible rfl))))); simp only [Act.put, List.getElem_toArray, List.getElem_cons_succ, List.getElem_cons_zero, List.setIfInBounds_toArray, List.set_cons_zero, List.set_cons_succ])
  refine Zd 6 (by kernel_rfl) rfl (fun K hK => ?_)
  go_simp
  refine (CLK.out _ BLo.out).mono ?_
  rintro e v6 ⟨rfl, Xv6⟩
  have Lv6 := Zb BLo.out Xv6
  refine hK.out _ _ Lv6 (fun _ => ?_)
  clear hK K Xv6
  refine Zn 19 [7, 8, 9, 10, 12] (by kernel_rfl) (by kernel_rfl) (by kernel_rfl) Lv6 ?_
  iterate 5 (refine ⟨_, rfl, ?_⟩; (first | refine ⟨undef, Or.inr ⟨by rfl, rfl⟩, ?_⟩ | (apply Exists.intro; refine ⟨Or.inl ⟨by rfl, fun w' hw' => ?_⟩, ?_⟩; (focus (obtain ⟨e0, e1, e2, e3, e4, e5, e6, e7⟩ := HCL.out w' hw'; first | (go_simp; done) | (go_simp; with_reducible rfl))))); simp only [Act.put, List.getElem_toArray, List.getElem_cons_succ, List.getElem_cons_zero, List.setIfInBounds_toArray, List.set_cons_zero, List.set_cons_succ])
  refine Zd 11 (by kernel_rfl) rfl (fun K hK => ?_)
  go_simp
  refine (CIT.out _ Lv6).mono ?_
  rintro e v11 ⟨rfl, Xv11⟩
  have Lv11 := Zb Lv6 Xv11
  refine hK.out _ _ Lv11 (fun _ => ?_)
  clear hK K Xv11
  refine Zd 13 (by kernel_rfl) rfl (fun K hK => ?_)
  go_simp
  refine (CST.out _ Lv11).mono ?_
  rintro e v13 ⟨rfl, Xv13⟩
  have Lv13 := Zb Lv11 Xv13
  refine hK.out _ _ Lv13 (fun _ => ?_)
  clear hK K Xv13
  refine Zn 10 [14, 15, 16, 17, 18, 19, 20] (by kernel_rfl) (by kernel_rfl) (by kernel_rfl) Lv13 ?_
  iterate 7 (refine ⟨_, rfl, ?_⟩; (first | refine ⟨undef, Or.inr ⟨by rfl, rfl⟩, ?_⟩ | (apply Exists.intro; refine ⟨Or.inl ⟨by rfl, fun w' hw' => ?_⟩, ?_⟩; (focus (obtain ⟨e0, e1, e2, e3, e4, e5, e6, e7⟩ := HCL.out w' hw'; first | (go_simp; done) | (go_simp; with_reducible rfl))))); simp only [Act.put, List.getElem_toArray, List.getElem_cons_succ, List.getElem_cons_zero, List.setIfInBounds_toArray, List.set_cons_zero, List.set_cons_succ])
  refine Zd 21 (by kernel_rfl) rfl (fun K hK => ?_)
  go_simp
  refine (CSA.out _ Lv13).mono ?_
  rintro e v21 ⟨gh, cgh, rfl, hrw, Xv21⟩
  have HRW := Za hrw.view
  clear hrw
  have Lv21 := Zb Lv13 Xv21
  refine hK.out _ _ Lv21 (fun _ => ?_)
  clear hK K Xv21
  refine Zd 22 (by kernel_rfl) rfl (fun K hK => ?_)
  go_simp
  refine (Zo6 ah (some ⟨gh, 0, none⟩) ch cgh hs hs _ ((HKW.out _ Lv21).hv) HRW.out (by have := HAH.out.2.2.1; omega)).mono ?_
  rintro e v22 ⟨rfl, n22, hv22⟩
  have Xv22 : Below v21.heap.size v21 v22 := by rw [hv22]; exact below_drewN (Below.refl _ _) _
  rw [decide_eq_true rfl]
  clear hv22
  have Lv22 := Zb Lv21 Xv22
  refine hK.out _ _ Lv22 (fun _ => ?_)
  clear hK K Xv22
  refine Zn 5 [23, 24, 25] (by kernel_rfl) (by kernel_rfl) (by kernel_rfl) Lv22 ?_
  iterate 3 (refine ⟨_, rfl, ?_⟩; (first | refine ⟨undef, Or.inr ⟨by rfl, rfl⟩, ?_⟩ | (apply Exists.intro; refine ⟨Or.inl ⟨by rfl, fun w' hw' => ?_⟩, ?_⟩; (focus (obtain ⟨e0, e1, e2, e3, e4, e5, e6, e7⟩ := HCL.out w' hw'; first | (go_simp; done) | (go_simp; with_reducible rfl))))); simp only [Act.put, List.getElem_toArray, List.getElem_cons_succ, List.getElem_cons_zero, List.setIfInBounds_toArray, List.set_cons_zero, List.set_cons_succ])
  refine Zd 26 (by kernel_rfl) rfl (fun K hK => ?_)
  go_simp
  refine (ZjG _).mono ?_
  rintro e v26 ⟨b26, rfl, hc26, Xv26⟩
  have HC26 := Za (ZgP hc26)
  clear hc26
  have Lv26 := Zb Lv22 Xv26
  refine hK.out _ _ Lv26 (fun _ => ?_)
  clear hK K Xv26
  refine Zd 27 (by kernel_rfl) rfl (fun K hK => ?_)
  go_simp
  refine (Zfb _).mono ?_
  rintro e v27 ⟨b27, rfl, hc27, Xv27⟩
  have HC27 := Za (ZgP hc27)
  have HC26b := Za (HC26.out.next Xv27)
  clear hc27
  have Lv27 := Zb Lv26 Xv27
  refine hK.out _ _ Lv27 (fun _ => ?_)
  clear hK K Xv27
  refine Zd 28 (by kernel_rfl) rfl (fun K hK => ?_)
  go_simp
  refine (Zg0 (some ⟨b26, 0, none⟩) (some ⟨b27, 0, none⟩) 4 4 1 Zd2 _ HC26b.out HC27.out (ZjN Zgi)).mono ?_
  rintro e v28 ⟨rfl, Xv28⟩
  have Lv28 := Zb Lv27 Xv28
  refine hK.out _ _ Lv28 (fun _ => ?_)
  clear hK K Xv28
  refine Zv [29, 30] (by kernel_rfl) (by kernel_rfl) (by kernel_rfl) (by kernel_rfl) Lv28 ?_
  iterate 2 (refine ⟨_, rfl, ?_⟩; (first | refine ⟨undef, Or.inr ⟨by rfl, rfl⟩, ?_⟩ | (apply Exists.intro; refine ⟨Or.inl ⟨by rfl, fun w' hw' => ?_⟩, ?_⟩; (focus (obtain ⟨e0, e1, e2, e3, e4, e5, e6, e7⟩ := HCL.out w' hw'; first | (go_simp; done) | (go_simp; with_reducible rfl))))); simp only [Act.put, List.getElem_toArray, List.getElem_cons_succ, List.getElem_cons_zero, List.setIfInBounds_toArray, List.set_cons_zero, List.set_cons_succ])
  refine NoPanic.normal (NoPanic.normal ?_)
  try go_wp2_with fail
  go_meet
  exact ⟨rfl, Lv28⟩
 case rest =>
  obtain ⟨rfl, LR⟩ := hcut
  have HLR := Za LR
  clear LR
  go_upto_region 10 with fail
  go_cut [99] from 75 to 98 (fun v wx => v = .bool false /\ Below wo.heap.size wo wx)
  case first =>
   rcases Nat.eq_zero_or_pos hs.length with h0 | h0
   · have hgt : ¬ ((hs.length : Int) > 0) := by omega
     clear h0
     go_wp2_with fail
     go_meet
     exact ⟨rfl, HLR.out⟩
   · have hgt : ((hs.length : Int) > 0) := by omega
     have hle := HAH.out.2.2.2 h0
     have hgk : decide (k < (hs.length : Int)) = false := by simp; omega
     have h4 := (Zad (HAT.out h0)).1
     have h40 : (0 : Int) < (ts2.length : Int) := by omega
     obtain ⟨wb, wof, am, cm, al, cl, rfl, hwb, x0, x1, hmv, hcv, -⟩ := (HKW.out _ HLR.out).av.web (n := 0) (by omega)
     have HX0 := Za x0
     have HWB := Za hwb
     have HMV := Za hmv
     have HOKC := Za (ZkR ah ch hs _ ((HKW.out _ HLR.out).hv) (by have := HAH.out.2.2.1; omega))
     rw [HAH.out.1] at HOKC
     clear h0 hle h4 x0 x1 hmv hcv hwb
     go_wp2_with fail
     refine HOKC.out.mono ?_
     rintro e w11 ⟨rfl, L11⟩
     have HL11 := Za (Zb HLR.out L11)
     have hs11 := HKW.out _ HL11.out
     have a0 := hs11.a.c0
     have a1 := hs11.a.c1
     have x0 : w11.cell? ⟨wb, wof, none⟩ = some (.slice am (Ze ts2 0).1.length cm) := by
      have := (L11.cell (p := ⟨wb, wof + 0 * 2, none⟩) HWB.out).trans HX0.out
      simpa using this
     have HTR := Za (Zo7 ah am ap ch cm cp hs (Ze ts2 0).1 p w11 hs11.hv (HMV.out.next L11) hs11.pv (by have := HAH.out.2.2.1; omega) (HBA.out.1.small.2 0).1 (by have := HBA.out.2.2.2; omega) (fun i hi => Zlt (HAH.out.2.1 _ (by simp [Zg, List.getD, hi]))))
     clear L11 hs11 HOKC HX0 HWB HMV
     go_wp2_with fail
     refine HTR.out.mono ?_
     rintro e w12 ⟨rfl, n12, hw12⟩
     have HL12 : Hid (Below wo.heap.size wo w12) := by show Below _ _ _; rw [hw12]; exact below_drewN HL11.out _
     clear hw12 HTR a0 a1 x0
     go_wp2_with fail
     go_meet
     exact ⟨by first | rfl | rw [hgk], HL12.out⟩
  case rest =>
   obtain ⟨rfl, LR⟩ := hcut
   have HLS := Za LR
   clear LR HLR
   have CTA := Za (fun (W' : World) (L : Below wo.heap.size wo W') => Zen true aA cA d2 ts2 W' (HKW.out W' L).av HBA.out.1.small)
   go_upto_region 12 with fail
   go_cut [141] from 100 to 140 (fun v wx => v = .bool false /\ Below wo.heap.size wo wx)
   case first =>
    have hs1 := HKW.out _ HLS.out
    have a0 := hs1.a.c0
    have a1 := hs1.a.c1
    have HCT := Za (CTA.out _ HLS.out)
    clear hs1
    rcases htw2 : ZN d2 ts2 with _ | _
    · rw [htw2] at HCT
      go_wp2_with fail
      refine HCT.out.mono ?_
      rintro e w11 ⟨rfl, L11⟩
      have HL11 := Za (Zb HLS.out L11)
      clear L11
      go_wp2_with fail
      go_meet
      exact ⟨rfl, HL11.out⟩
    · rw [htw2] at HCT
      have h4 := (Zad htw2).1
      have h40 : (0 : Int) < (ts2.length : Int) := by omega
      have HTW2 := Za htw2
      have HA4 := Za h4
      clear htw2 h4
      go_wp2_with fail
      refine HCT.out.mono ?_
      rintro e w11 ⟨rfl, L11⟩
      have HL11 := Za (Zb HLS.out L11)
      clear L11 a0 a1 HCT
      have hs11 := HKW.out _ HL11.out
      obtain ⟨wb, wof, am, cm, al, cl, rfl, hwb, x0, x1, hmv, hcv, -⟩ := hs11.av.web (n := 0) (by have := HA4.out; omega)
      have a0 := hs11.a.c0
      have a1 := hs11.a.c1
      have x0 : w11.cell? ⟨wb, wof, none⟩ = some (.slice am (Ze ts2 0).1.length cm) := by simpa using x0
      rcases Nat.eq_zero_or_pos (Ze ts2 0).1.length with h0 | h0
      · have hgt : ¬ (((Ze ts2 0).1.length : Int) > 0) := by omega
        clear h0 hmv hcv x1 hs11
        go_wp2_with fail
        go_meet
        exact ⟨rfl, HL11.out⟩
      · have hgt : (((Ze ts2 0).1.length : Int) > 0) := by omega
        have hm0 : (0 : Int) < ((Ze ts2 0).1.length : Int) := by omega
        obtain ⟨mb, mof, rfl, hmb, hmseg⟩ := Zbn hmv h0
        obtain ⟨y0, ma, mc, y1, hmat⟩ := hmseg 0 h0
        have y1' : w11.cell? ⟨mb, mof + 1, none⟩ = some (.slice ma (mat (Ze ts2 0).1 0).length mc) := by
         have e := y1
         rw [show mof + 0 * 2 + 1 = mof + 1 by omega] at e
         exact e
        have H0 := Za h0
        have HPV := Za hs11.pv
        clear h0 hmv hcv x1 hs11 y0 y1 hmseg hmat
        by_cases hq : p.length = (mat (Ze ts2 0).1 0).length
        · have hqe : ((p.length : Int) == ((mat (Ze ts2 0).1 0).length : Int)) = true := by simp; omega
          have HQ := Za hq
          have HPO := Za (sOk ap cp p w11 HPV.out (by have := HBA.out.2.2.2; omega))
          clear hq
          rcases hok : okB p with _ | _
          · rw [hok] at HPO
            clear hok
            go_wp2_with fail
            refine HPO.out.mono ?_
            rintro e w12 ⟨rfl, hw12⟩
            subst hw12
            go_wp2_with fail
            go_meet
            exact ⟨rfl, HL11.out⟩
          · rw [hok] at HPO
            have HOKP := Za hok
            clear hok
            go_wp2_with fail
            refine HPO.out.mono ?_
            rintro e w12 ⟨rfl, hw12⟩
            subst hw12
            by_cases hk1 : k ≥ 1
            · by_cases hk2 : k <= 60
              · have hne : ((hs.length : Int) == 0) = false := by
                 have := HAM.out HTW2.out H0.out HQ.out HOKP.out hk1 hk2
                 simp only [beq_eq_false_iff_ne, ne_eq]
                 omega
                go_wp2_with fail
                go_meet
                exact ⟨rfl, HL11.out⟩
              · go_wp2_with fail
                go_meet
                exact ⟨rfl, HL11.out⟩
            · go_wp2_with fail
              go_meet
              exact ⟨rfl, HL11.out⟩
        · have hqe : ((p.length : Int) == ((mat (Ze ts2 0).1 0).length : Int)) = false := by simp; omega
          clear hq
          go_wp2_with fail
          go_meet
          exact ⟨rfl, HL11.out⟩
   case rest =>
    obtain ⟨rfl, LR⟩ := hcut
    have HLT := Za LR
    clear LR HLS CTA HAM HAH HAT CSA
    have hs1 := HKW.out _ HLT.out
    have k0 := hs1.t.c0
    have k1 := hs1.t.c1
    have HCT := Za (CST.out _ HLT.out)
    clear hs1
    rcases tb with _ | _
    · obtain ⟨rfl, rfl, rfl⟩ := HPL.out.1 rfl
      go_wp2_with fail
      refine HCT.out.mono ?_
      rintro e w11 ⟨rfl, L11⟩
      have HL11 := Za (Zb HLT.out L11)
      clear L11 k0 k1 HCT
      have hs11 := HKW.out _ HL11.out
      have x0 := hs11.x.c0
      have x1 := hs11.x.c1
      have HZ : Hid (Calls Tryz.prog 18 #[.agg #[.int .i64 0, .slice aX 0 cX], .agg #[.int .i64 0, .slice none 0 0]] w11 fun e w' => e = .returned (.bool true) /\ Below w11.heap.size w11 w') := Zg0 aX none cX 0 0 [] w11 (Or.inl rfl) (Or.inl rfl) HXW.out
      clear hs11
      go_wp2_with fail
      refine HZ.out.mono ?_
      rintro e w12 ⟨rfl, L12⟩
      have HL12 := Za (Zb HB9.out (Zb HL11.out L12))
      clear L12
      go_wp2_with fail
      go_ret
      exact ⟨rfl, HL12.out⟩
    · go_wp2_with fail
      refine HCT.out.mono ?_
      rintro e w11 ⟨rfl, L11⟩
      have HL11 := Za (Zb HLT.out L11)
      clear L11 k0 k1 HCT
      have hs11 := HKW.out _ HL11.out
      have x0 := hs11.x.c0
      have x1 := hs11.x.c1
      have k0 := hs11.t.c0
      have k1 := hs11.t.c1
      rcases xb with _ | _
      · obtain ⟨rfl, rfl⟩ := HPL.out.2.1 (by trivial) (by trivial)
        have HZ := Za (Zg0 aX aT cX cT xd xt w11 hs11.xv hs11.tv HXW.out)
        clear hs11
        go_wp2_with fail
        refine HZ.out.mono ?_
        rintro e w12 ⟨rfl, L12⟩
        have HL12 := Za (Zb HB9.out (Zb HL11.out L12))
        clear L12
        go_wp2_with fail
        go_ret
        exact ⟨rfl, HL12.out⟩
      · have HTB := Za (htbT.out (by trivial))
        have HFA := Za (HPL.out.2.2 (by trivial) (by trivial))
        clear hs11 x0 x1 k0 k1 HPL
        go_wp2_with fail
        go_loopw [13] (fun i wr => ∃ n : Nat, n <= 4 /\ i = .int .i64 n /\ Below wo.heap.size wo wr) (fun i _ => 4 - (intOf i).toNat)
        case atStart => exact ⟨0, Nat.zero_le _, rfl, HL11.out⟩
        case round =>
         obtain ⟨n, hn4, rfl, LR⟩ := hrel
         have HLW := Za LR
         clear LR
         by_cases hlt : n < 4
         · obtain ⟨hfy, hfn⟩ := HFA.out.2.2.2 n hlt
           have hx4 := HFA.out.2.2.1
           have ht4 := (Zad (show ZN d ts = true from HTB.out)).1
           have hsr := HKW.out wo (Below.refl _ _)
           obtain ⟨xb, xof, am, cm, al, cl, rfl, hxb, x0, x1, hmv, hcv, -⟩ := hsr.xv.web (n := n) (by omega)
           obtain ⟨tbk, tof, am', cm', al', cl', rfl, htbk, t0, t1, hmv', hcv', -⟩ := hsr.tv.web (n := n) (by omega)
           have hn0 : (0 : Int) <= (n : Int) := Int.natCast_nonneg _
           have hnx : (n : Int) < (xt.length : Int) := by omega
           have hnt : (n : Int) < (ts.length : Int) := by omega
           have hlt4 : (n : Int) < 4 := by omega
           have htl := (HBD.out.1.2 n).1
           have HSC : Hid (∀ W', Below wo.heap.size wo W' -> W'.cell? ⟨BT, 1, none⟩ = some (.slice (some ⟨tbk, tof, none⟩) ts.length cT) /\ W'.cell? ⟨BX, 0, none⟩ = some (.int .i64 xd) /\ W'.cell? ⟨BX, 1, none⟩ = some (.slice (some ⟨xb, xof, none⟩) xt.length cX) /\ W'.cell? ⟨xb, xof + n * 2, none⟩ = some (.slice am (Ze xt n).1.length cm) /\ W'.cell? ⟨xb, xof + n * 2 + 1, none⟩ = some (.slice al (Ze xt n).2.length cl) /\ W'.cell? ⟨tbk, tof + n * 2, none⟩ = some (.slice am' (Ze ts n).1.length cm') /\ W'.cell? ⟨tbk, tof + n * 2 + 1, none⟩ = some (.slice al' (Ze ts n).2.length cl')) := fun W' L => by
            have h := HKW.out W' L
            exact ⟨h.t.c1, h.x.c0, h.x.c1, (L.cell (p := ⟨xb, xof + n * 2, none⟩) hxb).trans x0, (L.cell (p := ⟨xb, xof + n * 2 + 1, none⟩) hxb).trans x1, (L.cell (p := ⟨tbk, tof + n * 2, none⟩) htbk).trans t0, (L.cell (p := ⟨tbk, tof + n * 2 + 1, none⟩) htbk).trans t1⟩
           have CLW : Hid (∀ W', Below wo.heap.size wo W' -> Ze xt n = Ze ts n -> Calls Tryz.prog 29 #[.agg #[.slice am (Ze xt n).1.length cm, .slice al (Ze xt n).2.length cl], .agg #[.slice am' (Ze ts n).1.length cm', .slice al' (Ze ts n).2.length cl']] W' fun e w' => e = .returned (.bool true) /\ Below W'.heap.size W' w') := fun W' L e => by
            rw [e] at hmv hcv ⊢
            have hsm := HBD.out.1.small.2 n
            exact ZjU am am' al al' cm cm' cl cl' (Ze ts n).2.length (Ze ts n).1 W' (hmv.next L) (hmv'.next L) hsm.1 (fun W'' L'' => (ZlQ al al' cl cl' (Ze ts n).2 W'' ((hcv.next L).next L'') ((hcv'.next L).next L'') hsm.2).mono (fun e w' hh => ⟨hh.1, by obtain ⟨n', hn'⟩ := hh.2; rw [hn']; exact below_drewN (Below.refl _ _) n'⟩))
           obtain ⟨xl, hxl⟩ : ∃ l, (Ze xt n).1.length = l := ⟨_, rfl⟩
           obtain ⟨tl, htl2⟩ : ∃ l, (Ze ts n).1.length = l := ⟨_, rfl⟩
           obtain ⟨xl2, hxl2⟩ : ∃ l, (Ze xt n).2.length = l := ⟨_, rfl⟩
           obtain ⟨tl2, htl3⟩ : ∃ l, (Ze ts n).2.length = l := ⟨_, rfl⟩
           have hwr : IntKind.i64.wrap ((tl : Int) + 1) = (tl : Int) + 1 := IntWalk.i64_in _ ⟨by omega, by omega⟩
           obtain ⟨lv, hlv⟩ : ∃ l, ZfO xd = l := ⟨_, rfl⟩
           have HLV : Hid (∀ W' : World, Calls Tryz.prog 28 #[.int .i64 xd] W' fun e w' => e = .returned (.int .i64 lv) /\ w' = W') := fun W' => by rw [<- hlv]; exact ZmD xd W'
           have HID := Za (And.intro hxl htl2)
           rw [hxl] at HSC CLW hfy
           rw [htl2] at HSC CLW hfy
           rw [hxl2, htl3] at HSC CLW
           rw [hlv] at hfy hfn
           have BLr : Below wo.heap.size wo wr.drew.drew := HLW.out.drew.drew
           have HBLr := Za BLr
           have HBL0 := Za HLW.out.drew
           obtain ⟨k1, l0, l1, x0, x1, t0, t1⟩ := HSC.out _ HLW.out
           clear hmv hcv hmv' hcv' hsr hx4 ht4 htl hxl htl2 hlv hxl2 htl3 hxb htbk BLr
           by_cases hle : (n : Int) <= lv
           · have hin : ((xl : Int) == (tl : Int) + 1) = true := by have := hfy hle; simp; omega
             have hdl : decide ((n : Int) <= lv) = true := decide_eq_true hle
             clear hfy hfn hle
             go_upto_region 21 with fail
             refine Zm (S := fun W' => Below wo.heap.size wo W') (fuel := 0) [0, 1, 2, 3, 4, 5, 6, 7, 8, 9, 10, 11, 12, 13, 14, 15, 16] (by kernel_rfl) (by kernel_rfl) (by kernel_rfl) (by kernel_rfl) HBL0.out (fun _ => ?_)
             iterate 17 (refine ⟨_, rfl, ?_⟩; (first | refine ⟨undef, Or.inr ⟨by rfl, rfl⟩, ?_⟩ | (apply Exists.intro; refine ⟨Or.inl ⟨by rfl, fun w' hw' => ?_⟩, ?_⟩; (focus (obtain ⟨g0, g1, g2, g3, g4, g5, g6⟩ := HSC.out w' hw'; first | (go_simp; done) | (go_simp; with_reducible rfl))))); simp only [Act.put, List.getElem_toArray, List.getElem_cons_succ, List.getElem_cons_zero, List.setIfInBounds_toArray, List.set_cons_zero, List.set_cons_succ])
             refine wpAnyH_done (by kernel_rfl) ?_ _
             refine NoPanic.normal ?_
             try simp only [Exit.then]
             go_upto_region 22 with fail
             clear k1 l0 l1 x0 x1 t0 t1
             refine Zm (S := fun W' => Below wo.heap.size wo W') (fuel := 21) [0, 1, 2, 3] (by kernel_rfl) (by kernel_rfl) (by kernel_rfl) (by kernel_rfl) HBLr.out (fun _ => ?_)
             iterate 4 (refine ⟨_, rfl, ?_⟩; (first | refine ⟨undef, Or.inr ⟨by rfl, rfl⟩, ?_⟩ | (apply Exists.intro; refine ⟨Or.inl ⟨by rfl, fun w' hw' => ?_⟩, ?_⟩; (focus (obtain ⟨g0, g1, g2, g3, g4, g5, g6⟩ := HSC.out w' hw'; first | (go_simp; done) | (go_simp; with_reducible rfl))))); simp only [Act.put, List.getElem_toArray, List.getElem_cons_succ, List.getElem_cons_zero, List.setIfInBounds_toArray, List.set_cons_zero, List.set_cons_succ])
             refine Zd 4 (by kernel_rfl) rfl (fun K hK => ?_)
             go_simp
             refine (HLV.out _).mono ?_
             rintro e v4 ⟨rfl, hv4⟩
             have Xv4 : Below wr.drew.drew.heap.size wr.drew.drew v4 := by rw [hv4]; exact Below.refl _ _
             clear hv4
             have Lv4 := Zb HBLr.out Xv4
             refine hK.out _ _ Lv4 (fun _ => ?_)
             clear hK K Xv4
             refine Zv [5, 6, 7, 8, 9, 10, 11, 12, 13, 14, 15, 16, 17, 18, 19, 20, 21, 22, 23, 24] (by kernel_rfl) (by kernel_rfl) (by kernel_rfl) (by kernel_rfl) Lv4 ?_
             iterate 20 (refine ⟨_, rfl, ?_⟩; (first | refine ⟨undef, Or.inr ⟨by rfl, rfl⟩, ?_⟩ | (apply Exists.intro; refine ⟨Or.inl ⟨by rfl, fun w' hw' => ?_⟩, ?_⟩; (focus (obtain ⟨g0, g1, g2, g3, g4, g5, g6⟩ := HSC.out w' hw'; first | (go_simp; done) | (go_simp; with_reducible rfl))))); simp only [Act.put, List.getElem_toArray, List.getElem_cons_succ, List.getElem_cons_zero, List.setIfInBounds_toArray, List.set_cons_zero, List.set_cons_succ])
             refine NoPanic.normal (NoPanic.normal ?_)
             go_wp2_with fail
             go_roundw
             case rel => exact ⟨n + 1, by omega, by go_num, Lv4⟩
             case measure => simp [intOf]; omega
           · have hin : ((xl : Int) == (tl : Int) + 1) = false := by
              have e := hfn (by omega)
              have : xl = tl := by rw [<- HID.out.1, <- HID.out.2, e]
              simp; omega
             have HEQ := Za (hfn (by omega))
             have hdl : decide ((n : Int) <= lv) = false := decide_eq_false hle
             clear hfy hfn hle
             go_upto_region 21 with fail
             refine Zm (S := fun W' => Below wo.heap.size wo W') (fuel := 0) [0, 1, 2, 3, 4, 5, 6, 7, 8, 9, 10, 11, 12, 13, 14, 15, 16] (by kernel_rfl) (by kernel_rfl) (by kernel_rfl) (by kernel_rfl) HBL0.out (fun _ => ?_)
             iterate 17 (refine ⟨_, rfl, ?_⟩; (first | refine ⟨undef, Or.inr ⟨by rfl, rfl⟩, ?_⟩ | (apply Exists.intro; refine ⟨Or.inl ⟨by rfl, fun w' hw' => ?_⟩, ?_⟩; (focus (obtain ⟨g0, g1, g2, g3, g4, g5, g6⟩ := HSC.out w' hw'; first | (go_simp; done) | (go_simp; with_reducible rfl))))); simp only [Act.put, List.getElem_toArray, List.getElem_cons_succ, List.getElem_cons_zero, List.setIfInBounds_toArray, List.set_cons_zero, List.set_cons_succ])
             refine wpAnyH_done (by kernel_rfl) ?_ _
             refine NoPanic.normal ?_
             try simp only [Exit.then]
             go_upto_region 22 with fail
             clear k1 l0 l1 x0 x1 t0 t1
             refine Zm (S := fun W' => Below wo.heap.size wo W') (fuel := 21) [0, 1, 2, 3] (by kernel_rfl) (by kernel_rfl) (by kernel_rfl) (by kernel_rfl) HBLr.out (fun _ => ?_)
             iterate 4 (refine ⟨_, rfl, ?_⟩; (first | refine ⟨undef, Or.inr ⟨by rfl, rfl⟩, ?_⟩ | (apply Exists.intro; refine ⟨Or.inl ⟨by rfl, fun w' hw' => ?_⟩, ?_⟩; (focus (obtain ⟨g0, g1, g2, g3, g4, g5, g6⟩ := HSC.out w' hw'; first | (go_simp; done) | (go_simp; with_reducible rfl))))); simp only [Act.put, List.getElem_toArray, List.getElem_cons_succ, List.getElem_cons_zero, List.setIfInBounds_toArray, List.set_cons_zero, List.set_cons_succ])
             refine Zd 4 (by kernel_rfl) rfl (fun K hK => ?_)
             go_simp
             refine (HLV.out _).mono ?_
             rintro e v4 ⟨rfl, hv4⟩
             have Xv4 : Below wr.drew.drew.heap.size wr.drew.drew v4 := by rw [hv4]; exact Below.refl _ _
             clear hv4
             have Lv4 := Zb HBLr.out Xv4
             refine hK.out _ _ Lv4 (fun _ => ?_)
             clear hK K Xv4
             refine Zn 4 [5, 6, 7, 8, 9, 10, 11, 12, 13, 14, 15, 16, 17, 18, 19, 20] (by kernel_rfl) (by kernel_rfl) (by kernel_rfl) Lv4 ?_
             iterate 16 (refine ⟨_, rfl, ?_⟩; (first | refine ⟨undef, Or.inr ⟨by rfl, rfl⟩, ?_⟩ | (apply Exists.intro; refine ⟨Or.inl ⟨by rfl, fun w' hw' => ?_⟩, ?_⟩; (focus (obtain ⟨g0, g1, g2, g3, g4, g5, g6⟩ := HSC.out w' hw'; first | (go_simp; done) | (go_simp; with_reducible rfl))))); simp only [Act.put, List.getElem_toArray, List.getElem_cons_succ, List.getElem_cons_zero, List.setIfInBounds_toArray, List.set_cons_zero, List.set_cons_succ])
             refine Zd 21 (by kernel_rfl) rfl (fun K hK => ?_)
             go_simp
             refine (CLW.out _ Lv4 HEQ.out).mono ?_
             rintro e v21 ⟨rfl, Xv21⟩
             have Lv21 := Zb Lv4 Xv21
             refine hK.out _ _ Lv21 (fun _ => ?_)
             clear hK K Xv21
             refine Zv [22, 23, 24] (by kernel_rfl) (by kernel_rfl) (by kernel_rfl) (by kernel_rfl) Lv21 ?_
             iterate 3 (refine ⟨_, rfl, ?_⟩; (first | refine ⟨undef, Or.inr ⟨by rfl, rfl⟩, ?_⟩ | (apply Exists.intro; refine ⟨Or.inl ⟨by rfl, fun w' hw' => ?_⟩, ?_⟩; (focus (obtain ⟨g0, g1, g2, g3, g4, g5, g6⟩ := HSC.out w' hw'; first | (go_simp; done) | (go_simp; with_reducible rfl))))); simp only [Act.put, List.getElem_toArray, List.getElem_cons_succ, List.getElem_cons_zero, List.setIfInBounds_toArray, List.set_cons_zero, List.set_cons_succ])
             refine NoPanic.normal (NoPanic.normal ?_)
             go_wp2_with fail
             go_roundw
             case rel => exact ⟨n + 1, by omega, by go_num, Lv21⟩
             case measure => simp [intOf]; omega
         · obtain rfl : n = 4 := by omega
           have hxe : (xd == Zae d) = true := by have := HFA.out.1; simp [this]
           have CIX := Za (fun (W' : World) (L : Below wo.heap.size wo W') => Zdj aX cX xd xt W' (HKW.out W' L).xv HXW.out)
           rw [HFA.out.2.1] at CIX
           have HBLr := Za HLW.out.drew
           have HSC : Hid (∀ W', Below wo.heap.size wo W' -> W'.cell? ⟨BT, 0, none⟩ = some (.int .i64 d) /\ W'.cell? ⟨BX, 0, none⟩ = some (.int .i64 xd) /\ W'.cell? ⟨BX, 1, none⟩ = some (.slice aX xt.length cX)) := fun W' L => by
            have h := HKW.out W' L
            exact ⟨h.t.c0, h.x.c0, h.x.c1⟩
           go_upto_region 24 with fail
           refine Zm (S := fun W' => Below wo.heap.size wo W') (fuel := 10) [0] (by kernel_rfl) (by kernel_rfl) (by kernel_rfl) (by kernel_rfl) HBLr.out (fun _ => ?_)
           iterate 1 (refine ⟨_, rfl, ?_⟩; (first | refine ⟨undef, Or.inr ⟨by rfl, rfl⟩, ?_⟩ | (apply Exists.intro; refine ⟨Or.inl ⟨by rfl, fun w' hw' => ?_⟩, ?_⟩; (focus (obtain ⟨g0, g1, g2⟩ := HSC.out w' hw'; first | (go_simp; done) | (go_simp; with_reducible rfl))))); simp only [Act.put, List.getElem_toArray, List.getElem_cons_zero, List.setIfInBounds_toArray, List.set_cons_zero, List.set_cons_succ])
           refine Zd 1 (by kernel_rfl) rfl (fun K hK => ?_)
           go_simp
           refine (CIX.out _ HBLr.out).mono ?_
           rintro e v1 ⟨rfl, Xv1⟩
           have Lv1 := Zb HBLr.out Xv1
           refine hK.out _ _ Lv1 (fun _ => ?_)
           clear hK K Xv1
           refine Zn 4 [2, 3, 4, 5, 6] (by kernel_rfl) (by kernel_rfl) (by kernel_rfl) Lv1 ?_
           iterate 5 (refine ⟨_, rfl, ?_⟩; (first | refine ⟨undef, Or.inr ⟨by rfl, rfl⟩, ?_⟩ | (apply Exists.intro; refine ⟨Or.inl ⟨by rfl, fun w' hw' => ?_⟩, ?_⟩; (focus (obtain ⟨g0, g1, g2⟩ := HSC.out w' hw'; first | (go_simp; done) | (go_simp; with_reducible rfl))))); simp only [Act.put, List.getElem_toArray, List.getElem_cons_succ, List.getElem_cons_zero, List.setIfInBounds_toArray, List.set_cons_zero, List.set_cons_succ])
           refine Zd 7 (by kernel_rfl) rfl (fun K hK => ?_)
           go_simp
           refine (Zkc d _).mono ?_
           rintro e v7 ⟨rfl, hv7⟩
           have Xv7 : Below v1.heap.size v1 v7 := by rw [hv7]; exact Below.refl _ _
           clear hv7
           have Lv7 := Zb Lv1 Xv7
           refine hK.out _ _ Lv7 (fun _ => ?_)
           clear hK K Xv7
           refine Zv [8, 9, 10] (by kernel_rfl) (by kernel_rfl) (by kernel_rfl) (by kernel_rfl) Lv7 ?_
           iterate 3 (refine ⟨_, rfl, ?_⟩; (first | refine ⟨undef, Or.inr ⟨by rfl, rfl⟩, ?_⟩ | (apply Exists.intro; refine ⟨Or.inl ⟨by rfl, fun w' hw' => ?_⟩, ?_⟩; (focus (obtain ⟨g0, g1, g2⟩ := HSC.out w' hw'; first | (go_simp; done) | (go_simp; with_reducible rfl))))); simp only [Act.put, List.getElem_toArray, List.getElem_cons_succ, List.getElem_cons_zero, List.setIfInBounds_toArray, List.set_cons_zero, List.set_cons_succ])
           refine NoPanic.normal (NoPanic.normal ?_)
           have HFE := Za (Zb HB9.out Lv7)
           go_wp2_with fail
           go_ret
           exact ⟨rfl, HFE.out⟩
end Go.Proofs.YtaaagmgglolibaaGreat
