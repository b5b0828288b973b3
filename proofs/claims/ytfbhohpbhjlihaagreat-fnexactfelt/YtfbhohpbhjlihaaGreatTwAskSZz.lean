/-
  The given l15Asked and Asked.
-/
import Derived.Test.YtfbhohpbhjlihaaGreatTwAskZz
import Derived.Test.YtfbhohpbhjlihaaGreatFeBmZz
import Derived.Test.YtfbhohpbhjlihaaGreatMathZz
import Derived.Deep.CutRange
import Derived.Deep.CutBlock
namespace Go.Proofs.YtfbhohpbhjlihaaGreat
open Go Go.RowKit

set_option maxHeartbeats 400000 in
theorem sMax15 (k : Int) (w : World) :
    Calls Tryz.prog 125 #[.int .i64 k, .int .i64 4] w fun e w' => e = .returned (.int .i64 (maxK k)) ∧ w' = w := by
  by_cases h : k > 4
  · have HV : Hid (maxK k = k) := by show _ = _; unfold maxK; split <;> omega
    go_enter Tryz.func125, Tryz.ntmps125
    go_wp2
    go_ret
    exact ⟨ret_int HV.out.symm, rfl⟩
  · have HV : Hid (maxK k = 4) := by show _ = _; unfold maxK; split <;> omega
    go_enter Tryz.func125, Tryz.ntmps125
    go_wp2
    go_ret
    exact ⟨ret_int HV.out.symm, rfl⟩

theorem row_last {base : Nat} {w : World} {g c : Nat} {xs : List Int} (h : Row base w g c xs) (h0 : 0 < xs.length) : w.cell? ⟨g, xs.length - 1, none⟩ = some (.int .i64 (lastI xs)) := by
  rcases h.view with e | ⟨b, off, e, hb, hs⟩
  · rw [e] at h0; simp at h0
  · injection e with e
    injection e with e1 e2
    subst e1 e2
    have := hs (xs.length - 1) (by omega)
    rw [Nat.zero_add] at this
    exact this

set_option maxRecDepth 100000 in
set_option maxHeartbeats 8000000 in
theorem sAskedG (s : Bool) (aw aq : Option Addr) (cw cq : Nat) (d : Int) (ts : List Wb) (q : List Int) (k : Int) (w : World) (hv : WbView s w aw ts) (hq : View w aq q) (hsm : WbSmall ts) (hql : q.length ≤ 1048576) (ht : towB d ts = true) (hto : toldB (wnth ts 0).1 q = true) (hk : countB k = true) :
    Calls Tryz.prog 121 #[.agg #[.int .i64 d, .slice aw 4 cw], .slice aq q.length cq, .int .i64 k] w fun e w' => ∃ g c, e = .returned (.slice (some ⟨g, 0, none⟩) (askG ts q k).length c) ∧ HRow w.heap.size w' g c (askG ts q k) ∧ Below w.heap.size w w' := by
  have hlen := (tow_at ht).1
  obtain ⟨W, hW⟩ : ∃ W, w.alloc (.cells #[.int .i64 d, .slice aw 4 cw] 47) = W := ⟨_, rfl⟩
  have hB : Below w.heap.size w W := by rw [← hW]; exact (Below.refl _ _).alloc (Nat.le_refl _) _
  have hI : TwIn s W w.heap.size d aw cw ts := by rw [← hW, ← hlen]; exact TwIn.box hv
  have HB := hidP hB
  have HI := hidP hI
  have HQ := hidP (hq.next hB)
  have HSM := hidP hsm.2
  have HLEN := hidP hlen
  have HT := hidP ht
  have HTO := hidP hto
  have HKK := hidP hk
  have hkm := maxK_ok hk
  have HWW := hidP hW
  clear hv hq hsm hB hI hlen ht hto hk hW
  go_enter Tryz.func121, Tryz.ntmps121
  go_wp2_with fail
  rw [HWW.out]
  clear HWW
  go_loopg [7, 8] 3 (fun gk fv nv wr => ∃ n : Nat, n ≤ 3 ∧ n ≤ gk ∧ fv = .int .i64 (descT ts q (3 - n)) ∧ nv = .int .i64 n ∧ Below W.heap.size W wr)
  case atStart => exact ⟨3, by omega, by omega, rfl, rfl, Below.refl _ _⟩
  case round =>
    obtain ⟨n, hn, hgk, rfl, rfl, L⟩ := hrel
    have HL := hidP L
    have hIr := HI.out.below L
    have HQR := hidP (HQ.out.next L)
    clear L
    by_cases hn0 : 0 < n
    · have hngt : (n : Int) > 0 := by omega
      have hni : (0 : Int) ≤ (n : Int) := Int.natCast_nonneg _
      have hn4 : (n : Int) < 4 := by omega
      obtain ⟨p, hp⟩ : ∃ p, n - 1 = p := ⟨_, rfl⟩
      have hnp : n = p + 1 := by omega
      have hwp : IntKind.i64.wrap ((n : Int) - 1) = (p : Int) := by rw [IntWalk.i64_in _ ⟨by omega, by omega⟩]; omega
      have HNP := hidP hnp
      clear hp hnp
      obtain ⟨b, off, am, cm, al, cl, rfl, hb, c0, c1, hm, hc, -⟩ := hIr.web (n := n) (by rw [HLEN.out]; omega)
      have k1 := hIr.c1
      rw [HLEN.out] at k1
      obtain ⟨V, hV⟩ : ∃ V, wr.alloc (.cells #[.slice am (wnth ts n).1.length cm, .slice al (wnth ts n).2.length cl] 27) = V := ⟨_, rfl⟩
      have LV : Below wr.heap.size wr V := by rw [← hV]; exact (Below.refl _ _).alloc (Nat.le_refl _) _
      have y0 : V.cell? ⟨wr.heap.size, 0, none⟩ = some (.slice am (wnth ts n).1.length cm) := by rw [← hV]; simp
      have y1 : V.cell? ⟨wr.heap.size, 1, none⟩ = some (.slice al (wnth ts n).2.length cl) := by rw [← hV]; simp
      have HLV := hidP (chain HL.out LV)
      have HMV := hidP (hm.next LV)
      have HCV := hidP (hc.next LV)
      have HQV := hidP (HQR.out.next LV)
      clear hm hc LV hIr
      by_cases hl0 : (wnth ts n).1.length = 0
      · have HSK : Hid (descT ts q (3 - p) = descT ts q (3 - n)) := by
          show _ = _
          rw [HNP.out]
          exact desc_skip (by have := HNP.out; omega) (by rw [← HNP.out]; exact hl0)
        rw [hl0] at c0 y0 hV
        generalize (wnth ts n).2.length = l2 at *
        clear hl0
        go_wp2_with fail
        go_roundg p
        case rel => exact ⟨p, by have := HNP.out; omega, Nat.le_refl _, by rw [HSK.out], by go_num, HLV.out⟩
        case measure => have := HNP.out; omega
      · have hlne : (((wnth ts n).1.length : Int) == 0) = false := by rw [beq_eq_false_iff_ne]; omega
        obtain ⟨mb, mo, rfl, hmb, hms⟩ := MSeg.seg HMV.out (by omega)
        have cid : V.cell? ⟨mb, mo, none⟩ = some (.int .i64 (mid (wnth ts n).1 0)) := by have := (hms.at (i := 0) (by omega)).1; simpa using this
        have hpos : (0 : Int) < ((wnth ts n).1.length : Int) := by omega
        have HIN := hidP (cur_in HT.out HTO.out hn (by omega))
        have HWK := hidP (sWalkG (some ⟨mb, mo, none⟩) al aq cm cl cq (wnth ts n).1 (wnth ts n).2 q (curD ts q n) V HMV.out HCV.out HQV.out (HSM.out n).1 (HSM.out n).2 hql (tow_web HT.out (by omega)) ((toldW_iff _ _ _ _).1 HIN.out).2.2)
        have HLA := hidP (walk_last HIN.out).1
        have HST : Hid (descT ts q (3 - p) = lastI (walkG (wnth ts n).1 (wnth ts n).2 q (curD ts q n))) := by
          show _ = _
          have hh := (cur_step HT.out HTO.out (n := p) (by have := HNP.out; omega) (by rw [← HNP.out]; omega)).2
          rw [← HNP.out] at hh
          exact hh
        have HSH : Hid ((walkG (wnth ts n).1 (wnth ts n).2 q (curD ts q n)).length ≤ 61) := by
          show _ ≤ _
          have h1 := walkG_short (ms := (wnth ts n).1) (ls := (wnth ts n).2) (q := q) (curD ts q n)
          have h2 := marksB_len (web_marks (tow_web HT.out (n := n) (by omega)))
          omega
        have HCU : Hid (curD ts q n = if descT ts q (3 - n) = 0 then mid (wnth ts n).1 0 else descT ts q (3 - n)) := rfl
        generalize hwk : walkG (wnth ts n).1 (wnth ts n).2 q (curD ts q n) = wl at *
        clear hwk hms
        by_cases hf0 : descT ts q (3 - n) = 0
        · have hfb : (descT ts q (3 - n) == 0) = true := by simp [hf0]
          rw [HCU.out, if_pos hf0] at HWK
          clear hf0 HCU
          generalize descT ts q (3 - n) = fr at *
          generalize (wnth ts n).1.length = l1 at *
          generalize (wnth ts n).2.length = l2 at *
          generalize mid (wnth ts n).1 0 = x0 at *
          go_wp2_with fail
          refine HWK.out.mono ?_
          rintro e w3 ⟨g, c, rfl, hrow, L3⟩
          have hpl := HLA.out
          have hp61 := HSH.out
          have cl3 := row_last hrow hpl
          have hgl := hrow.lt g rfl
          have HL3 := hidP (chain HLV.out L3)
          have hwl : IntKind.i64.wrap ((wl.length : Int) - 1) = ((wl.length - 1 : Nat) : Int) := by rw [IntWalk.i64_in _ ⟨by omega, by omega⟩]; omega
          have hj0 : (0 : Int) ≤ ((wl.length - 1 : Nat) : Int) := Int.natCast_nonneg _
          have hj1 : ((wl.length - 1 : Nat) : Int) < (wl.length : Int) := by omega
          clear hrow L3 y0 y1
          generalize wl.length - 1 = j at *
          go_wp2_with fail
          go_roundg p
          case rel => exact ⟨p, by have := HNP.out; omega, Nat.le_refl _, by rw [HST.out], by go_num, HL3.out⟩
          case measure => have := HNP.out; omega
        · have hfb : (descT ts q (3 - n) == 0) = false := by simp [hf0]
          rw [HCU.out, if_neg hf0] at HWK
          clear hf0 HCU
          generalize descT ts q (3 - n) = fr at *
          generalize (wnth ts n).1.length = l1 at *
          generalize (wnth ts n).2.length = l2 at *
          generalize mid (wnth ts n).1 0 = x0 at *
          go_wp2_with fail
          refine HWK.out.mono ?_
          rintro e w3 ⟨g, c, rfl, hrow, L3⟩
          have hpl := HLA.out
          have hp61 := HSH.out
          have cl3 := row_last hrow hpl
          have hgl := hrow.lt g rfl
          have HL3 := hidP (chain HLV.out L3)
          have hwl : IntKind.i64.wrap ((wl.length : Int) - 1) = ((wl.length - 1 : Nat) : Int) := by rw [IntWalk.i64_in _ ⟨by omega, by omega⟩]; omega
          have hj0 : (0 : Int) ≤ ((wl.length - 1 : Nat) : Int) := Int.natCast_nonneg _
          have hj1 : ((wl.length - 1 : Nat) : Int) < (wl.length : Int) := by omega
          clear hrow L3 y0 y1
          generalize wl.length - 1 = j at *
          go_wp2_with fail
          go_roundg p
          case rel => exact ⟨p, by have := HNP.out; omega, Nat.le_refl _, by rw [HST.out], by go_num, HL3.out⟩
          case measure => have := HNP.out; omega
    · have hngt : ¬ ((n : Int) > 0) := by omega
      have HN0 : Hid (n = 0) := by show n = 0; omega
      obtain ⟨b, off, am, cm, al, cl, rfl, hb, c0, c1, hm, hc, -⟩ := hIr.web (n := 0) (by rw [HLEN.out]; omega)
      have k1 := hIr.c1
      rw [HLEN.out] at k1
      rw [Nat.zero_mul, Nat.add_zero] at c0 c1
      have HMR := hidP hm
      have HCR := hidP hc
      have hXl := hIr.lt
      clear hm hc hIr
      by_cases hl0 : (wnth ts 0).1.length = 0
      · have HV := hidP (askG_none (q := q) (k := k) hl0)
        rw [hl0] at c0
        have R1 := hidP (HRow.start wr w.heap.size (by have := HB.out.size; have := HL.out.size; omega))
        have HL1 := hidP ((chain HB.out HL.out).alloc (by have := HB.out.size; have := HL.out.size; omega) (.cells #[] 44))
        clear hl0
        generalize descT ts q (3 - n) = fr at *
        generalize (wnth ts 0).2.length = l2 at *
        go_wp2_with fail
        go_ret
        rw [HV.out]
        exact ⟨_, 0, rfl, R1.out, HL1.out⟩
      · have hlne : (((wnth ts 0).1.length : Int) == 0) = false := by rw [beq_eq_false_iff_ne]; omega
        obtain ⟨mb, mo, rfl, hmb, hms⟩ := MSeg.seg HMR.out (by omega)
        have cid : wr.cell? ⟨mb, mo, none⟩ = some (.int .i64 (mid (wnth ts 0).1 0)) := by have := (hms.at (i := 0) (by omega)).1; simpa using this
        have hpos : (0 : Int) < ((wnth ts 0).1.length : Int) := by omega
        have HIN := hidP (cur_in HT.out HTO.out (n := 0) (by omega) (by omega))
        have HASK := hidP (askG_some HT.out HTO.out HKK.out (by omega))
        have HBM : Hid (∀ W', Below wr.heap.size wr W' → Calls Tryz.prog 195 #[.agg #[.slice (some ⟨mb, mo, none⟩) (wnth ts 0).1.length cm, .slice al (wnth ts 0).2.length cl], .int .i64 (curD ts q 0), .slice aq q.length cq, .int .i64 (maxK k)] W' fun e w' => ∃ g c, e = .returned (.slice (some ⟨g, 0, none⟩) (beamG (wnth ts 0).1 (wnth ts 0).2 q (maxK k).toNat [hitOf (wnth ts 0).1 q (curD ts q 0)] [curD ts q 0] []).length c) ∧ HRow W'.heap.size w' g c (beamG (wnth ts 0).1 (wnth ts 0).2 q (maxK k).toNat [hitOf (wnth ts 0).1 q (curD ts q 0)] [curD ts q 0] []) ∧ Below W'.heap.size W' w') := fun W' L' =>
          sBeamG (some ⟨mb, mo, none⟩) al aq cm cl cq (wnth ts 0).1 (wnth ts 0).2 q (curD ts q 0) (maxK k) W' (HMR.out.next L') (HCR.out.next L') (HQR.out.next L') (HSM.out 0).1 (HSM.out 0).2 hql (tow_web HT.out (by omega)) ((toldW_iff _ _ _ _).1 HIN.out).2.2 hkm.1
        have HBL : Hid ((beamG (wnth ts 0).1 (wnth ts 0).2 q (maxK k).toNat [hitOf (wnth ts 0).1 q (curD ts q 0)] [curD ts q 0] []).length ≤ 4194304) := by
          show _ ≤ _
          have h1 := (beam_ok (wnth ts 0).1 (wnth ts 0).2 (curD ts q 0) q (maxK k)).2.2.2
          have h2 : beamL (wnth ts 0).1 (wnth ts 0).2 (curD ts q 0) q (maxK k) = beamG (wnth ts 0).1 (wnth ts 0).2 q (maxK k).toNat [hitOf (wnth ts 0).1 q (curD ts q 0)] [curD ts q 0] [] := by
            unfold beamL; rw [if_pos ⟨HIN.out, hkm.1⟩]
          rw [h2] at h1
          omega
        have HCU : Hid (curD ts q 0 = if descT ts q (3 - n) = 0 then mid (wnth ts 0).1 0 else descT ts q (3 - n)) := by show _ = _; rw [HN0.out]; rfl
        generalize hbg : beamG (wnth ts 0).1 (wnth ts 0).2 q (maxK k).toNat [hitOf (wnth ts 0).1 q (curD ts q 0)] [curD ts q 0] [] = bs at *
        obtain ⟨fr0, hfr0⟩ : ∃ fr0, curD ts q 0 = fr0 := ⟨_, rfl⟩
        rw [hfr0] at HBM HCU
        have HK : Hid (∀ W', Below wr.heap.size wr W' → W'.cell? ⟨w.heap.size, 1, none⟩ = some (.slice (some ⟨b, off, none⟩) 4 cw) ∧ W'.cell? ⟨b, off, none⟩ = some (.slice (some ⟨mb, mo, none⟩) (wnth ts 0).1.length cm) ∧ W'.cell? ⟨b, off + 1, none⟩ = some (.slice al (wnth ts 0).2.length cl)) := fun W' L' => ⟨(L'.cell (p := ⟨w.heap.size, 1, none⟩) hXl).trans k1, (L'.cell (p := ⟨b, off, none⟩) hb).trans c0, (L'.cell (p := ⟨b, off + 1, none⟩) hb).trans c1⟩
        clear hbg hms hfr0
        by_cases hf0 : descT ts q (3 - n) = 0
        · have hfb : (descT ts q (3 - n) == 0) = true := by simp [hf0]
          have HFR : Hid (fr0 = mid (wnth ts 0).1 0) := by show _ = _; rw [HCU.out, if_pos hf0]
          rw [HFR.out] at HBM
          clear hf0 HCU HFR
          go_wp2_with fail
          refine wp_region_takes (S := fun w' => w'.cell? ⟨w.heap.size, 1, none⟩ = some (.slice (some ⟨b, off, none⟩) 4 cw) ∧ w'.cell? ⟨b, off, none⟩ = some (.slice (some ⟨mb, mo, none⟩) (wnth ts 0).1.length cm) ∧ w'.cell? ⟨b, off + 1, none⟩ = some (.slice al (wnth ts 0).2.length cl)) (fuel := 4) [0, 1, 2, 3, 4, 5, 6, 9] (by kernel_rfl) (by kernel_rfl) (by kernel_rfl) (by kernel_rfl) (HK.out _ ((Below.refl wr.heap.size wr).drew)) (fun _ => ?_)
          iterate 8
            refine ⟨_, rfl, ?_⟩
            apply Exists.intro
            refine ⟨Or.inl ⟨by rfl, fun w' hw' => ?_⟩, ?_⟩
            · first
              | (go_simp; done)
              | (go_simp; with_reducible rfl)
            simp only [Act.put, List.getElem_toArray, List.getElem_cons_succ, List.getElem_cons_zero, List.setIfInBounds_toArray, List.set_cons_zero, List.set_cons_succ]
          refine calm_one 7 (by kernel_rfl) rfl (fun K hK => ?_)
          go_simp
          refine (sMax15 k _).mono ?_
          rintro e w2 ⟨rfl, hw2⟩
          subst hw2
          refine hK.out _ _ (HK.out _ ((Below.refl wr.heap.size wr).drew)) (fun _ => ?_)
          clear hK K
          refine calm_one 8 (by kernel_rfl) rfl (fun K hK => ?_)
          go_simp
          refine (HBM.out _ ((Below.refl wr.heap.size wr).drew)).mono ?_
          rintro e w3 ⟨g, c, rfl, hrow, L3'⟩
          have L3 : Below wr.heap.size wr w3 := Below.trans ((Below.refl wr.heap.size wr).drew) L3'
          refine hK.out _ _ (HK.out _ L3) (fun _ => ?_)
          clear hK K L3'
          refine calm_one 10 (by kernel_rfl) rfl (fun K hK => ?_)
          go_simp
          refine (sFirst _ g c bs k w3 hrow HBL.out (by omega)).mono ?_
          rintro e w4 ⟨g4, c4, rfl, hrow4, L4⟩
          have HL4 := hidP (chain L3 L4)
          refine hK.out _ _ (HK.out _ HL4.out) (fun _ => ?_)
          clear hK K
          have HR4 := hidP (hrow4.mono (base' := w.heap.size) (by have := L3.size; have := HL.out.size; have := HB.out.size; omega))
          clear hrow hrow4 L3 L4
          refine calm_rest [11] rfl (by kernel_rfl) (by kernel_rfl) (by kernel_rfl) (HK.out _ HL4.out) ?_
          iterate 1
            refine ⟨_, rfl, ?_⟩
            apply Exists.intro
            refine ⟨Or.inl ⟨by rfl, fun w' hw' => ?_⟩, ?_⟩
            · first
              | (go_simp; done)
              | (go_simp; with_reducible rfl)
            simp only [Act.put, List.getElem_toArray, List.getElem_cons_succ, List.getElem_cons_zero, List.setIfInBounds_toArray, List.set_cons_zero, List.set_cons_succ]
          refine NoPanic.normal (NoPanic.normal ?_)
          have HF := hidP (chain HB.out (chain HL.out HL4.out))
          clear HL4 HK HBM
          try simp only [Exit.then]
          go_wp2_with fail
          go_ret
          rw [HASK.out]
          exact ⟨g4, c4, by rw [List.length_take]; rfl, HR4.out, HF.out⟩
        · have hfb : (descT ts q (3 - n) == 0) = false := by simp [hf0]
          have HFR : Hid (fr0 = descT ts q (3 - n)) := by show _ = _; rw [HCU.out, if_neg hf0]
          rw [HFR.out] at HBM
          clear hf0 HCU HFR
          go_wp2_with fail
          refine wp_region_takes (S := fun w' => w'.cell? ⟨w.heap.size, 1, none⟩ = some (.slice (some ⟨b, off, none⟩) 4 cw) ∧ w'.cell? ⟨b, off, none⟩ = some (.slice (some ⟨mb, mo, none⟩) (wnth ts 0).1.length cm) ∧ w'.cell? ⟨b, off + 1, none⟩ = some (.slice al (wnth ts 0).2.length cl)) (fuel := 4) [0, 1, 2, 3, 4, 5, 6, 9] (by kernel_rfl) (by kernel_rfl) (by kernel_rfl) (by kernel_rfl) (HK.out _ ((Below.refl wr.heap.size wr).drew)) (fun _ => ?_)
          iterate 8
            refine ⟨_, rfl, ?_⟩
            apply Exists.intro
            refine ⟨Or.inl ⟨by rfl, fun w' hw' => ?_⟩, ?_⟩
            · first
              | (go_simp; done)
              | (go_simp; with_reducible rfl)
            simp only [Act.put, List.getElem_toArray, List.getElem_cons_succ, List.getElem_cons_zero, List.setIfInBounds_toArray, List.set_cons_zero, List.set_cons_succ]
          refine calm_one 7 (by kernel_rfl) rfl (fun K hK => ?_)
          go_simp
          refine (sMax15 k _).mono ?_
          rintro e w2 ⟨rfl, hw2⟩
          subst hw2
          refine hK.out _ _ (HK.out _ ((Below.refl wr.heap.size wr).drew)) (fun _ => ?_)
          clear hK K
          refine calm_one 8 (by kernel_rfl) rfl (fun K hK => ?_)
          go_simp
          refine (HBM.out _ ((Below.refl wr.heap.size wr).drew)).mono ?_
          rintro e w3 ⟨g, c, rfl, hrow, L3'⟩
          have L3 : Below wr.heap.size wr w3 := Below.trans ((Below.refl wr.heap.size wr).drew) L3'
          refine hK.out _ _ (HK.out _ L3) (fun _ => ?_)
          clear hK K L3'
          refine calm_one 10 (by kernel_rfl) rfl (fun K hK => ?_)
          go_simp
          refine (sFirst _ g c bs k w3 hrow HBL.out (by omega)).mono ?_
          rintro e w4 ⟨g4, c4, rfl, hrow4, L4⟩
          have HL4 := hidP (chain L3 L4)
          refine hK.out _ _ (HK.out _ HL4.out) (fun _ => ?_)
          clear hK K
          have HR4 := hidP (hrow4.mono (base' := w.heap.size) (by have := L3.size; have := HL.out.size; have := HB.out.size; omega))
          clear hrow hrow4 L3 L4
          refine calm_rest [11] rfl (by kernel_rfl) (by kernel_rfl) (by kernel_rfl) (HK.out _ HL4.out) ?_
          iterate 1
            refine ⟨_, rfl, ?_⟩
            apply Exists.intro
            refine ⟨Or.inl ⟨by rfl, fun w' hw' => ?_⟩, ?_⟩
            · first
              | (go_simp; done)
              | (go_simp; with_reducible rfl)
            simp only [Act.put, List.getElem_toArray, List.getElem_cons_succ, List.getElem_cons_zero, List.setIfInBounds_toArray, List.set_cons_zero, List.set_cons_succ]
          refine NoPanic.normal (NoPanic.normal ?_)
          have HF := hidP (chain HB.out (chain HL.out HL4.out))
          clear HL4 HK HBM
          try simp only [Exit.then]
          go_wp2_with fail
          go_ret
          rw [HASK.out]
          exact ⟨g4, c4, by rw [List.length_take]; rfl, HR4.out, HF.out⟩

set_option maxRecDepth 100000 in
set_option maxHeartbeats 4000000 in
theorem sAsked (s : Bool) (aw aq : Option Addr) (cw cq : Nat) (d : Int) (ts : List Wb) (q : List Int) (k : Int) (w : World) (hv : WbView s w aw ts) (hq : View w aq q) (hsm : WbSmall ts) (hql : q.length ≤ 1048576) :
    Calls Tryz.prog 33 #[.agg #[.int .i64 d, .slice aw ts.length cw], .slice aq q.length cq, .int .i64 k] w fun e w' => ∃ g c, e = .returned (.slice (some ⟨g, 0, none⟩) (askL d ts q k).length c) ∧ HRow w.heap.size w' g c (askL d ts q k) ∧ Below w.heap.size w w' := by
  obtain ⟨W, hW⟩ : ∃ W, w.alloc (.cells #[.int .i64 d, .slice aw ts.length cw] 47) = W := ⟨_, rfl⟩
  have hB : Below w.heap.size w W := by rw [← hW]; exact (Below.refl _ _).alloc (Nat.le_refl _) _
  have hI : TwIn s W w.heap.size d aw cw ts := by rw [← hW]; exact TwIn.box hv
  have HT := hidP (sTowerOk s aw cw d ts W hI.wv hsm)
  have HB := hidP hB
  have HI := hidP hI
  have k0 := hI.c0
  have k1 := hI.c1
  have HQ := hidP (hq.next hB)
  have HSM := hidP hsm
  clear hv hq hB hI hsm
  rcases ht : towB d ts with _ | _
  · have HV := hidP (askL_no (q := q) (k := k) (Or.inl ht))
    rw [ht] at HT
    rw [HV.out]
    clear ht HV
    go_enter Tryz.func33, Tryz.ntmps33
    go_wp2_with fail
    refine HT.out.mono ?_
    rintro e w1 ⟨rfl, L1⟩
    have R1 := hidP (HRow.start w1 w.heap.size (by have := L1.size; have := HB.out.size; omega))
    have HL1 := hidP ((chain HB.out L1).alloc (by have := L1.size; have := HB.out.size; omega) (.cells #[] 44))
    clear L1 k0 k1 hW
    go_wp2_with fail
    go_ret
    exact ⟨_, 0, rfl, R1.out, HL1.out⟩
  · rw [ht] at HT
    have hlen := (tow_at ht).1
    have HTT := hidP ht
    have HLEN := hidP hlen
    obtain ⟨R, hR⟩ : ∃ R, toldB (wnth ts 0).1 q = R := ⟨_, rfl⟩
    have HTO : Hid (∀ W', Below W.heap.size W W' → ∃ b off am cm al cl, aw = some ⟨b, off, none⟩ ∧ W'.cell? ⟨b, off, none⟩ = some (.slice am (wnth ts 0).1.length cm) ∧ W'.cell? ⟨b, off + 1, none⟩ = some (.slice al (wnth ts 0).2.length cl) ∧ Calls Tryz.prog 103 #[.slice am (wnth ts 0).1.length cm, .slice aq q.length cq] W' fun e w' => e = .returned (.bool R) ∧ Below W'.heap.size W' w') := fun W' L' => by
      have hI' := HI.out.below L'
      obtain ⟨b, off, am, cm, al, cl, e, hb, c0, c1, hm, hc, -⟩ := hI'.web (n := 0) (by rw [hlen]; omega)
      rw [Nat.zero_mul, Nat.add_zero] at c0 c1
      refine ⟨b, off, am, cm, al, cl, e, c0, c1, ?_⟩
      have hh := sTold am aq cm cq (wnth ts 0).1 q W' hm (HQ.out.next L') (HSM.out.2 0).1 hql
      rw [hR] at hh
      exact hh.mono (fun e w' h => ⟨h.1, by obtain ⟨n', hn'⟩ := h.2; rw [hn']; exact below_drewN (Below.refl _ _) n'⟩)
    rw [hlen] at k1 hW ⊢
    have HRR := hidP hR
    clear ht hlen hR
    have HK := fun w => hidP (sIn k 1 60 w)
    cases R with
    | false =>
      have HV := hidP (askL_no (d := d) (k := k) (Or.inr (Or.inl HRR.out)))
      rw [HV.out]
      clear HV HK
      go_enter Tryz.func33, Tryz.ntmps33
      go_wp2_with fail
      rw [HLEN.out] at HT
      refine HT.out.mono ?_
      rintro e w1 ⟨rfl, L1⟩
      have k1' := (HI.out.below L1).c1
      rw [HLEN.out] at k1'
      obtain ⟨b, off, am, cm, al, cl, rfl, c0, c1, hc⟩ := HTO.out w1 L1
      have HC := hidP hc
      have HL := hidP (chain HB.out L1)
      clear L1 k0 k1 hW hc
      go_wp2_with fail
      refine HC.out.mono ?_
      rintro e w2 ⟨rfl, L2⟩
      have R1 := hidP (HRow.start w2 w.heap.size (by have := L2.size; have := HL.out.size; omega))
      have HL1 := hidP ((chain HL.out L2).alloc (by have := L2.size; have := HL.out.size; omega) (.cells #[] 44))
      clear L2 c0 c1 k1' HC
      go_wp2_with fail
      go_ret
      exact ⟨_, 0, rfl, R1.out, HL1.out⟩
    | true =>
      rcases hk : countB k with _ | _
      · have HV := hidP (askL_no (d := d) (ts := ts) (q := q) (Or.inr (Or.inr hk)))
        rw [countB_in, hk] at HK
        rw [HV.out]
        clear HV hk
        go_enter Tryz.func33, Tryz.ntmps33
        go_wp2_with fail
        rw [HLEN.out] at HT
        refine HT.out.mono ?_
        rintro e w1 ⟨rfl, L1⟩
        have k1' := (HI.out.below L1).c1
        rw [HLEN.out] at k1'
        obtain ⟨b, off, am, cm, al, cl, rfl, c0, c1, hc⟩ := HTO.out w1 L1
        have HC := hidP hc
        have HL := hidP (chain HB.out L1)
        clear L1 k0 k1 hW hc
        go_wp2_with fail
        refine HC.out.mono ?_
        rintro e w2 ⟨rfl, L2⟩
        have R1 := hidP (HRow.start w2 w.heap.size (by have := L2.size; have := HL.out.size; omega))
        have HL1 := hidP ((chain HL.out L2).alloc (by have := L2.size; have := HL.out.size; omega) (.cells #[] 44))
        clear L2 c0 c1 k1' HC
        go_wp2_with fail
        refine (HK w2).out.mono ?_
        rintro e w3 ⟨rfl, hw3⟩
        subst hw3
        go_wp2_with fail
        go_ret
        exact ⟨_, 0, rfl, R1.out, HL1.out⟩
      · have HV := hidP (askL_yes HTT.out HRR.out hk)
        have HKB := hidP hk
        rw [countB_in, hk] at HK
        rw [HV.out]
        clear HV hk
        go_enter Tryz.func33, Tryz.ntmps33
        go_wp2_with fail
        rw [HLEN.out] at HT
        refine HT.out.mono ?_
        rintro e w1 ⟨rfl, L1⟩
        have k1' := (HI.out.below L1).c1
        rw [HLEN.out] at k1'
        obtain ⟨b, off, am, cm, al, cl, rfl, c0, c1, hc⟩ := HTO.out w1 L1
        have HC := hidP hc
        have HL := hidP L1
        clear L1 k0 k1 hW hc
        go_wp2_with fail
        refine HC.out.mono ?_
        rintro e w2 ⟨rfl, L2⟩
        have HL2 := hidP (chain HL.out L2)
        have hI2 := HI.out.below HL2.out
        have z0 := hI2.c0
        have z1 := hI2.c1
        rw [HLEN.out] at z1
        have HG := hidP (sAskedG s (some ⟨b, off, none⟩) aq cw cq d ts q k w2 hI2.wv (HQ.out.next HL2.out) HSM.out hql HTT.out HRR.out HKB.out)
        clear L2 c0 c1 k1' HC hI2
        go_wp2_with fail
        refine (HK w2).out.mono ?_
        rintro e w3 ⟨rfl, hw3⟩
        subst hw3
        go_wp2_with fail
        refine HG.out.mono ?_
        rintro e w4 ⟨g, c, rfl, hrow, L4⟩
        have HR4 := hidP (hrow.mono (base' := w.heap.size) (by have := HL2.out.size; have := HB.out.size; omega))
        have HL4 := hidP (chain HB.out (chain HL2.out L4))
        clear hrow L4 HG z0 z1
        go_wp2_with fail
        go_ret
        exact ⟨g, c, rfl, HR4.out, HL4.out⟩
end Go.Proofs.YtfbhohpbhjlihaaGreat
