import Derived.Test.YtaaagmgglolibaaGreatGnCpyZz
import Derived.Test.YtaaagmgglolibaaGreatStHasZz
import Derived.Test.YtaaagmgglolibaaGreatBytesZz
import Derived.Test.YtaaagmgglolibaaGreatWithZz
import Derived.Test.YtaaagmgglolibaaGreatHSpecZz
import Derived.Deep.CutBlock
import Derived.Deep.DeepCutAuto
set_option maxRecDepth 100000
set_option maxHeartbeats 8000000
namespace Go.Proofs.YtaaagmgglolibaaGreat
open Go Go.RowKit
structure FeS (w0 : World) (X : Nat) (am aw aq af ae : Option Addr) (cm cw cq cf ce : Nat) (wd d nx : Int) (ms : List Mk) (ts : List Wb) (q : List Int) (f e : List Ht) (w : World) : Prop where
 low : Below w0.heap.size w0 w
 st : ZbT true w X am aw cm cw wd ms d ts nx
 qv : Zp w aq q
 fv : Z6 w af f
 ev : Z6 w ae e
theorem FeS.next {w0 w w' : World} {X : Nat} {am aw aq af ae : Option Addr} {cm cw cq cf ce : Nat} {wd d nx : Int} {ms : List Mk} {ts : List Wb} {q : List Int} {f e : List Ht} (h : FeS w0 X am aw aq af ae cm cw cq cf ce wd d nx ms ts q f e w) (L : Below w.heap.size w w') : FeS w0 X am aw aq af ae cm cw cq cf ce wd d nx ms ts q f e w' :=
 ⟨Zd h.low L, h.st.below L, Zp.next h.qv L, h.fv.next L, h.ev.next L⟩
theorem Zf6 {base : Nat} {w : World} {a : Option Addr} {n c : Nat} {hs : List Ht} (h : Zb8 base w (.slice a n c) hs) : Z6 w a hs := by
 obtain ⟨ao, c', e, hv⟩ := Zb8.view h
 injection e with e1 e2 e3
 subst e1
 exact hv
theorem Zib (ao0 : Option Addr) (len0 cap0 : Nat) (w : World) (hv0 : Z4 w ao0 len0) :
 Calls Tryz.prog 5 #[.slice ao0 len0 cap0] w fun e w' => e = .returned (.bool true) /\ Below w.heap.size w w' := by
 by_cases hbig : 4096 < len0
 · have hbb : decide (4096 < (len0 : Int)) = true := by simp; omega
   go_enter Tryz.func5, Tryz.ntmps5
   go_wp2_with fail
   refine (bigC ao0 len0 cap0 _).mono ?_
   rintro e w1 ⟨rfl, hw1⟩
   subst hw1
   go_wp2_with fail
   go_ret
   exact ⟨rfl, Below.refl _ _⟩
 have hbb : decide (4096 < (len0 : Int)) = false := by simp; omega
 have hn : len0 <= 4096 := by omega
 have HV0 := Za hv0
 clear hbig hv0
 go_enter Tryz.func5, Tryz.ntmps5
 go_wp2_with fail
 refine (bigC ao0 len0 cap0 _).mono ?_
 rintro e w0 ⟨rfl, hw0⟩
 subst hw0
 rw [hbb]
 clear hbb
 go_wp2_with fail
 refine (ZjD ao0 len0 cap0 _ HV0.out hn).mono ?_
 rintro e w1 ⟨wd, d, nx, am, cm, ms, aw, cw, ts, aq, cq, q, k, rfl, ⟨hks, hcp, hmb, htb⟩, hqk, hqc, hq6, L1⟩
 obtain ⟨X, hX⟩ : ∃ B, w1.heap.size = B := ⟨_, rfl⟩
 obtain ⟨W3, hW3⟩ : ∃ W, w1.alloc (.cells #[.int .i64 wd, .slice am ms.length cm, .int .i64 d, .slice aw ts.length cw, .int .i64 nx] 52) = W := ⟨_, rfl⟩
 have L3 : Below w1.heap.size w1 W3 := by rw [<- hW3]; exact (Below.refl _ _).alloc (Nat.le_refl _) _
 have hst : ZbT true W3 X am aw cm cw wd ms d ts nx := by rw [<- hW3, <- hX]; exact ZbT.box hks.now.1 hks.now.2
 have HST := Za hst
 have HQV : Hid (Zp W3 aq q) := Zp.next hqk.now L3
 have HBD := Za (And.intro (ZmV hmb htb) (And.intro hqc hq6))
 have HB3 := Za (Zd L1 L3)
 have HFE := Za (iFelt am aw cm cw wd ms d ts nx aq cq q k W3 hst.mv hst.wv (ZmV hmb htb) HQV.out (by omega) hqc)
 have HEX := Za (fun (W' : World) (L : Below W3.heap.size W3 W') => ZnG am aw cm cw wd ms d ts nx aq cq q k W' (HST.out.below L).mv (HST.out.below L).wv HBD.out.1 (Zp.next HQV.out L) (by have := HBD.out.2.2; omega) HBD.out.2.1)
 have HSF := Za (fun (W' : World) (L : Below W3.heap.size W3 W') => sFelt true am aw cm cw wd ms d ts nx aq cq q k W' (HST.out.below L).mv (HST.out.below L).wv HBD.out.1 (Zp.next HQV.out L) (by have := HBD.out.2.2; omega))
 have HSE := Za (fun (W' : World) (L : Below W3.heap.size W3 W') => ZnH true am aw cm cw wd ms d ts nx aq cq q k W' (HST.out.below L).mv (HST.out.below L).wv HBD.out.1 (Zp.next HQV.out L) (by have := HBD.out.2.2; omega))
 have HPL := Za (Zin wd ms d ts nx q k)
 obtain ⟨f, hf⟩ : ∃ f, Zaw wd ms d ts nx q k = f := ⟨_, rfl⟩
 obtain ⟨ee, hee⟩ : ∃ f, exL wd ms d ts nx q k = f := ⟨_, rfl⟩
 rw [hf, hee] at HPL
 rw [hf] at HFE
 have HEX2 : Hid (∀ W', Below W3.heap.size W3 W' -> Calls Tryz.prog 43 #[.agg #[.int .i64 wd, .slice am ms.length cm, .int .i64 d, .slice aw ts.length cw, .int .i64 nx], .slice aq q.length cq, .int .i64 k] W' fun e w' => ∃ a c, e = .returned (.slice a ee.length c) /\ Z6 w' a ee /\ Below W'.heap.size W' w') := fun W' L => by
  refine (HEX.out W' L).mono ?_
  rintro e w' ⟨a, c, rfl, ho, L'⟩
  rw [hee] at ho ⊢
  exact ⟨a, c, rfl, Zf6 ho, L'⟩
 have HSF2 : Hid (∀ W', Below W3.heap.size W3 W' -> Calls Tryz.prog 46 #[.agg #[.int .i64 wd, .slice am ms.length cm, .int .i64 d, .slice aw ts.length cw, .int .i64 nx], .slice aq q.length cq, .int .i64 k] W' fun e w' => ∃ a c, e = .returned (.slice a f.length c) /\ Z6 w' a f /\ Below W'.heap.size W' w') := fun W' L => by
  refine (HSF.out W' L).mono ?_
  rintro e w' ⟨g, c, rfl, ho, L'⟩
  rw [hf] at ho ⊢
  exact ⟨_, c, rfl, ho.view, L'⟩
 have HSE2 : Hid (∀ W', Below W3.heap.size W3 W' -> Calls Tryz.prog 47 #[.agg #[.int .i64 wd, .slice am ms.length cm, .int .i64 d, .slice aw ts.length cw, .int .i64 nx], .slice aq q.length cq, .int .i64 k] W' fun e w' => ∃ a c, e = .returned (.slice a ee.length c) /\ Z6 w' a ee /\ Below W'.heap.size W' w') := fun W' L => by
  refine (HSE.out W' L).mono ?_
  rintro e w' ⟨g, c, rfl, ho, L'⟩
  rw [hee] at ho ⊢
  exact ⟨_, c, rfl, ho.view, L'⟩
 have HW3 := Za hW3
 have HXX := Za hX
 have k0 := hst.c0
 have k1 := hst.c1
 have k2 := hst.c2
 have k3 := hst.c3
 have k4 := hst.c4
 clear hst hks hcp hmb htb hqk hqc hq6 L1 L3 hW3 hX HEX HSF HSE hf hee
 go_upto_region 4 with fail
 simp only [HW3.out]
 try rw [HXX.out]
 clear HW3 HXX
 go_wp2_with fail
 refine HFE.out.mono ?_
 rintro e w4 ⟨af, cf, rfl, hof, L4⟩
 have HF4 := Za (Zf6 hof)
 have HL4 := Za L4
 have hs4 := HST.out.below L4
 have HE4 := Za (HEX2.out w4 L4)
 clear hof L4 HFE HEX2 k0 k1 k2 k3 k4
 have k0 := hs4.c0
 have k1 := hs4.c1
 have k2 := hs4.c2
 have k3 := hs4.c3
 have k4 := hs4.c4
 clear hs4
 go_wp2_with fail
 refine HE4.out.mono ?_
 rintro e wo ⟨ae, ce, rfl, hve, L5⟩
 have HS : Hid (FeS W3 X am aw aq af ae cm cw cq cf ce wd d nx ms ts q f ee wo) := ⟨Zd HL4.out L5, HST.out.below (Zd HL4.out L5), Zp.next HQV.out (Zd HL4.out L5), HF4.out.next L5, hve⟩
 clear hve L5 HE4 HF4 HL4 HQV HST k0 k1 k2 k3 k4
 have HKW : Hid (∀ W', Below wo.heap.size wo W' -> FeS W3 X am aw aq af ae cm cw cq cf ce wd d nx ms ts q f ee W') := fun W' L => HS.out.next L
 have HSFo := Za (HSF2.out wo HS.out.low)
 have HSEo := Za (fun (W' : World) (L : Below wo.heap.size wo W') => HSE2.out W' (Zd HS.out.low L))
 have HB9 := Za (Zd HB3.out HS.out.low)
 have k0 := HS.out.st.c0
 have k1 := HS.out.st.c1
 have k2 := HS.out.st.c2
 have k3 := HS.out.st.c3
 have k4 := HS.out.st.c4
 clear HS HSF2 HSE2 HV0 HB3
 go_upto_region 6 with fail
 go_cut [40] from 25 to 39 (fun v wx => v = .bool false /\ Below wo.heap.size wo wx)
 case first =>
  go_wp2_with fail
  refine HSFo.out.mono ?_
  rintro e w6 ⟨a6, c6, rfl, hv6, L6⟩
  have HL6 := Za L6
  have HLK := Za (ZlN af a6 cf c6 f f w6 (HKW.out w6 L6).fv hv6 (by have := HPL.out.2.2.2.2.2.1; omega))
  rw [decide_eq_true rfl] at HLK
  clear L6 hv6 HSFo k0 k1 k2 k3 k4
  go_wp2_with fail
  refine HLK.out.mono ?_
  rintro e w7 ⟨rfl, n7, hw7⟩
  have HL7 : Hid (Below wo.heap.size wo w7) := by show Below _ _ _; rw [hw7]; exact below_drewN HL6.out _
  have HE7 := Za (HSEo.out w7 HL7.out)
  have hs7 := (HKW.out w7 HL7.out).st
  have k0 := hs7.c0
  have k1 := hs7.c1
  have k2 := hs7.c2
  have k3 := hs7.c3
  have k4 := hs7.c4
  clear hw7 HLK HSEo hs7
  go_wp2_with fail
  refine HE7.out.mono ?_
  rintro e w8 ⟨a8, c8, rfl, hv8, L8⟩
  have HL8 := Za (Zd HL7.out L8)
  have HLK := Za (ZlN ae a8 ce c8 ee ee w8 (HKW.out w8 HL8.out).ev hv8 (by have := HPL.out.2.2.2.2.2.2; omega))
  rw [decide_eq_true rfl] at HLK
  clear L8 hv8 HE7 k0 k1 k2 k3 k4
  go_wp2_with fail
  refine HLK.out.mono ?_
  rintro e w9 ⟨rfl, n9, hw9⟩
  have HL9 : Hid (Below wo.heap.size wo w9) := by show Below _ _ _; rw [hw9]; exact below_drewN HL8.out _
  clear hw9 HLK
  go_wp2_with fail
  go_meet
  exact ⟨rfl, HL9.out⟩
 case rest =>
  obtain ⟨rfl, LR⟩ := hcut
  have HLR := Za LR
  clear LR HSFo HSEo k0 k1 k2 k3 k4
  have HOKC := Za (Zka af cf f _ ((HKW.out _ HLR.out).fv) (by have := HPL.out.2.2.2.2.2.1; omega))
  rw [HPL.out.1] at HOKC
  go_upto_region 8 with fail
  go_cut [66] from 41 to 65 (fun v wx => v = .bool false /\ Below wo.heap.size wo wx)
  case first =>
   go_wp2_with fail
   refine HOKC.out.mono ?_
   rintro e w11 ⟨rfl, L11⟩
   have HL11 := Za (Zd HLR.out L11)
   have hs11 := HKW.out _ HL11.out
   have HTR := Za (ZlO af am aq cf cm cq f ms q w11 hs11.fv hs11.st.mv hs11.qv (by have := HPL.out.2.2.2.2.2.1; omega) HBD.out.1.1 (by have := HBD.out.2.2; omega) (fun i hi => Zea (HPL.out.2.1 _ (by simp [Zf, List.getD, hi]))))
   have k1 := hs11.st.c1
   clear L11 hs11 HOKC
   go_wp2_with fail
   refine HTR.out.mono ?_
   rintro e w12 ⟨rfl, n12, hw12⟩
   have HL12 : Hid (Below wo.heap.size wo w12) := by show Below _ _ _; rw [hw12]; exact below_drewN HL11.out _
   clear hw12 HTR k1
   have hs12 := HKW.out _ HL12.out
   have HTR := Za (ZlO ae am aq ce cm cq ee ms q w12 hs12.ev hs12.st.mv hs12.qv (by have := HPL.out.2.2.2.2.2.2; omega) HBD.out.1.1 (by have := HBD.out.2.2; omega) (fun i hi => Zea (HPL.out.2.2.1 _ (by simp [Zf, List.getD, hi]))))
   have k1 := hs12.st.c1
   have hgt : decide ((ee.length : Int) < (f.length : Int)) = false := by have := HPL.out.2.2.2.1; simp; omega
   clear hs12
   go_wp2_with fail
   refine HTR.out.mono ?_
   rintro e w13 ⟨rfl, n13, hw13⟩
   have HL13 : Hid (Below wo.heap.size wo w13) := by show Below _ _ _; rw [hw13]; exact below_drewN HL12.out _
   clear hw13 HTR k1
   go_wp2_with fail
   go_meet
   exact ⟨by first | rfl | (have := HPL.out.2.2.2.1; simp; omega), HL13.out⟩
  case rest =>
   obtain ⟨rfl, LR⟩ := hcut
   have HLS := Za LR
   clear LR HLR HOKC
   go_wp2_with fail
   go_loopw [8] (fun i wr => ∃ n : Nat, n <= f.length /\ i = .int .i64 n /\ Below wo.heap.size wo wr) (fun i _ => f.length - (intOf i).toNat)
   case atStart => exact ⟨0, Nat.zero_le _, rfl, HLS.out⟩
   case round =>
    obtain ⟨n, hnf, rfl, LR⟩ := hrel
    have HLW := Za LR
    have hf61 := HPL.out.2.2.2.2.2.1
    clear LR
    by_cases hlt : n < f.length
    · have hle := HPL.out.2.2.2.2.1 n hlt
      rw [ZF] at hle
      unfold leH at hle
      have hne : n < ee.length := by have := HPL.out.2.2.2.1; omega
      have hso := HKW.out wo (Below.refl _ _)
      obtain ⟨fb, fo, rfl, hfb, hfs⟩ := hso.fv.seg (by omega)
      obtain ⟨eb, eo, rfl, heb, hes⟩ := hso.ev.seg (by omega)
      obtain ⟨x0, x1⟩ := hfs n hlt
      obtain ⟨y0, y1⟩ := hes n hne
      have hn0 : (0 : Int) <= (n : Int) := Int.natCast_nonneg _
      have hnf1 : (n : Int) < (f.length : Int) := by omega
      have hne1 : (n : Int) < (ee.length : Int) := by omega
      obtain ⟨f1, hf1⟩ : ∃ x, (Zf f n).1 = x := ⟨_, rfl⟩
      obtain ⟨f2, hf2⟩ : ∃ x, (Zf f n).2 = x := ⟨_, rfl⟩
      obtain ⟨e1, he1⟩ : ∃ x, (Zf ee n).1 = x := ⟨_, rfl⟩
      obtain ⟨e2, he2⟩ : ∃ x, (Zf ee n).2 = x := ⟨_, rfl⟩
      rw [hf1] at x0 hle
      rw [hf2] at x1 hle
      rw [he1] at y0 hle
      rw [he2] at y1 hle
      have HSC : Hid (∀ W', Below wo.heap.size wo W' -> W'.cell? ⟨fb, fo + n * 2, none⟩ = some (.int .i64 f1) /\ W'.cell? ⟨fb, fo + n * 2 + 1, none⟩ = some (.int .i64 f2) /\ W'.cell? ⟨eb, eo + n * 2, none⟩ = some (.int .i64 e1) /\ W'.cell? ⟨eb, eo + n * 2 + 1, none⟩ = some (.int .i64 e2)) := fun W' L => ⟨(L.cell (p := ⟨fb, fo + n * 2, none⟩) hfb).trans x0, (L.cell (p := ⟨fb, fo + n * 2 + 1, none⟩) hfb).trans x1, (L.cell (p := ⟨eb, eo + n * 2, none⟩) heb).trans y0, (L.cell (p := ⟨eb, eo + n * 2 + 1, none⟩) heb).trans y1⟩
      have HBL0 := Za HLW.out.drew
      have hd1 : decide (f2 < e2) = false := by simp; omega
      clear hso hfs hes x0 x1 y0 y1 hf1 hf2 he1 he2 hfb heb
      rcases Int.lt_or_le e2 f2 with hc | hc
      · have hd2 : (f2 == e2) = false := by simp only [beq_eq_false_iff_ne, ne_eq]; omega
        clear hle hc
        go_upto_region 13 with fail
        refine Zr (S := fun W' => Below wo.heap.size wo W') (fuel := 0) [0, 1, 2, 3, 4, 5, 6, 7, 8, 9, 10, 11, 12, 13, 14, 15, 16, 17, 18, 19, 20, 21, 22, 23, 24, 25, 26, 27, 28, 29, 30, 31, 32, 33, 34, 35, 36] (by kernel_rfl) (by kernel_rfl) (by kernel_rfl) (by kernel_rfl) HBL0.out (fun _ => ?_)
        iterate 37 (refine ⟨_, rfl, ?_⟩; (first | refine ⟨undef, Or.inr ⟨by rfl, rfl⟩, ?_⟩ | (apply Exists.intro; refine ⟨Or.inl ⟨by rfl, fun w' hw' => ?_⟩, ?_⟩; (focus (obtain ⟨g0, g1, g2, g3⟩ := HSC.out w' hw'; first | (go_simp; done) | (go_simp; with_reducible rfl))))); simp only [Act.put, List.getElem_toArray, List.getElem_cons_succ, List.getElem_cons_zero, List.setIfInBounds_toArray, List.set_cons_zero, List.set_cons_succ])
        refine wpAnyH_done (by kernel_rfl) ?_ _
        refine NoPanic.normal ?_
        try simp only [Exit.then]
        go_wp2_with fail
        go_roundw
        case rel => exact ⟨n + 1, by omega, by go_num, HBL0.out⟩
        case measure => simp [intOf]; omega
      · have hc2 : e2 = f2 := by omega
        subst hc2
        have hd2 : (e2 == e2) = true := by simp
        have hd3 : decide (f1 < e1) = false := by simp; omega
        clear hle hc
        go_upto_region 13 with fail
        refine Zr (S := fun W' => Below wo.heap.size wo W') (fuel := 0) [0, 1, 2, 3, 4, 5, 6, 7, 8, 9, 10, 11, 12, 13, 14, 15, 16, 17, 18, 19, 20, 21, 22, 23, 24, 25, 26, 27, 28, 29, 30, 31, 32, 33, 34, 35, 36] (by kernel_rfl) (by kernel_rfl) (by kernel_rfl) (by kernel_rfl) HBL0.out (fun _ => ?_)
        iterate 37 (refine ⟨_, rfl, ?_⟩; (first | refine ⟨undef, Or.inr ⟨by rfl, rfl⟩, ?_⟩ | (apply Exists.intro; refine ⟨Or.inl ⟨by rfl, fun w' hw' => ?_⟩, ?_⟩; (focus (obtain ⟨g0, g1, g2, g3⟩ := HSC.out w' hw'; first | (go_simp; done) | (go_simp; with_reducible rfl))))); simp only [Act.put, List.getElem_toArray, List.getElem_cons_succ, List.getElem_cons_zero, List.setIfInBounds_toArray, List.set_cons_zero, List.set_cons_succ])
        refine wpAnyH_done (by kernel_rfl) ?_ _
        refine NoPanic.normal ?_
        try simp only [Exit.then]
        go_wp2_with fail
        go_roundw
        case rel => exact ⟨n + 1, by omega, by go_num, HBL0.out⟩
        case measure => simp [intOf]; omega
    · have HF := Za (Zd HB9.out HLW.out)
      go_wp2_with fail
      go_ret
      exact ⟨rfl, HF.out⟩
end Go.Proofs.YtaaagmgglolibaaGreat
