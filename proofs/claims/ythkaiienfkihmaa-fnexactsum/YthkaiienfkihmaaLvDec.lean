/-
  The given Decoded, Off and Sum.
-/
import Derived.Test.YthkaiienfkihmaaLvCod
import Derived.Test.YthkaiienfkihmaaMOk
import Derived.Test.YthkaiienfkihmaaLast2
import Derived.Deep.CutRange
import Derived.Deep.CutBlock
namespace Go.Proofs.Ythkaiienfkihmaa
open Go Go.RowKit

theorem decAt_in (c : List Int) (ls : List (List Int)) (i : Nat) : decAt c ls i = inR (nth c i) 0 (((cn ls i).length : Int) - 1) := by
  rw [Bool.eq_iff_iff, decAt_iff]
  simp [inR]
theorem decB_told {c : List Int} {ls : List (List Int)} (h : levB ls = false ∨ c.length ≠ ls.length) : decB c ls = false := by
  rcases e : decB c ls with _ | _
  · rfl
  · obtain ⟨h1, h2, h3⟩ := (decB_iff c ls).1 e
    rcases h with h | h
    · rw [h1] at h; cases h
    · exact absurd h2 h

set_option maxRecDepth 100000 in
set_option maxHeartbeats 2000000 in
theorem sDecoded_no (ao ag : Option Addr) (cap cg : Nat) (p : List Int) (ls : List (List Int)) (w : World) (hg : CView w ag ls) (hsm : CSmall ls) (hb : levB ls = false ∨ p.length ≠ ls.length) :
    Calls Try.prog 17 #[.slice ao p.length cap, .slice ag ls.length cg] w fun e w' => ∃ g c, e = .returned (.slice (some ⟨g, 0, none⟩) 0 c) ∧ IRow w.heap.size w' g c [] ∧ Below w.heap.size w w' := by
  have LA : Below w.heap.size w (w.alloc (.cells #[] 2)) := (Below.refl _ _).alloc (Nat.le_refl _) _
  have HC := hidP (sLevels ag cg ls (w.alloc (.cells #[] 2)) (hg.next LA) hsm)
  clear hg LA
  rcases h1 : levB ls with _ | _
  · rw [h1] at HC
    clear hb h1
    go_enter Try.func17, Try.ntmps17
    go_wp2_with fail
    refine HC.out.mono ?_
    rintro e w1 ⟨rfl, n1, hw1⟩
    have HE : Hid (IRow w.heap.size w1 w.heap.size 0 [] ∧ Below w.heap.size w w1) := by rw [hw1]; exact row_drew
    clear hw1
    go_wp2_with fail
    go_ret
    exact ⟨w.heap.size, 0, rfl, HE.out⟩
  · have h3 : p.length ≠ ls.length := by
      rcases hb with h | h
      · rw [h1] at h; cases h
      · exact h
    have hne : ((p.length : Int) != (ls.length : Int)) = true := by simp; omega
    rw [h1] at HC
    clear hb h1 h3
    go_enter Try.func17, Try.ntmps17
    go_wp2_with fail
    refine HC.out.mono ?_
    rintro e w1 ⟨rfl, n1, hw1⟩
    have HE : Hid (IRow w.heap.size w1 w.heap.size 0 [] ∧ Below w.heap.size w w1) := by rw [hw1]; exact row_drew
    clear hw1
    go_wp2_with fail
    go_ret
    exact ⟨w.heap.size, 0, rfl, HE.out⟩

set_option maxRecDepth 100000 in
set_option maxHeartbeats 4000000 in
theorem sDecoded_in (ao ag : Option Addr) (cap cg : Nat) (p : List Int) (ls : List (List Int)) (w : World) (hv : View w ao p) (hg : CView w ag ls) (hsm : CSmall ls) (h1 : levB ls = true) (h3 : p.length = ls.length) :
    Calls Try.prog 17 #[.slice ao p.length cap, .slice ag ls.length cg] w fun e w' => ∃ g c, e = .returned (.slice (some ⟨g, 0, none⟩) (decL p ls).length c) ∧ IRow w.heap.size w' g c (decL p ls) ∧ Below w.heap.size w w' := by
  obtain ⟨j0, hj0, hy0, hy1, hy2⟩ := info_parts Try.info2
  have LA : Below w.heap.size w (w.alloc (.cells #[] 2)) := (Below.refl _ _).alloc (Nat.le_refl _) _
  have HC := hidP (sLevels ag cg ls (w.alloc (.cells #[] 2)) (hg.next LA) hsm)
  rw [h1] at HC
  have HV := hidP hv
  have HG := hidP hg
  have hl4 := ((levB_iff ls).1 h1).2.1
  have HLV := hidP ((levB_iff ls).1 h1).2.2
  have H1 := hidP h1
  have H3 := hidP h3
  have hne : ((p.length : Int) != (ls.length : Int)) = false := by simp; omega
  have hpl : p.length ≤ 4 := by omega
  clear hv hg LA h1 h3 hsm
  go_enter Try.func17, Try.ntmps17
  go_wp2_with fail
  refine HC.out.mono ?_
  rintro e w1 ⟨rfl, n1, hw1⟩
  have HE : Hid (IRow w.heap.size w1 w.heap.size 0 [] ∧ Below w.heap.size w w1) := by rw [hw1]; exact row_drew
  clear hw1 HC
  go_wp2_with fail
  clear hne
  go_loopw [5, 6] (fun v i wr => ∃ (k g c : Nat), k ≤ p.length ∧ i = .int .i64 k ∧ v = .slice (some ⟨g, 0, none⟩) k c ∧ (∀ j, j < k → decAt p ls j = true) ∧ IRow w.heap.size wr g c (tabL (decF p ls) k) ∧ Below w.heap.size w wr) (fun _ i _ => p.length - (intOf i).toNat)
  case atStart => exact ⟨0, w.heap.size, 0, Nat.zero_le _, rfl, rfl, fun j hj => by omega, HE.out.1, HE.out.2⟩
  case round =>
    clear HE
    obtain ⟨k, g, c, hk, rfl, rfl, hall, hrow, L⟩ := hrel
    have HA := hidP hall
    clear hall
    by_cases hlt : k < p.length
    · obtain ⟨bp, op, rfl, hbp, hsp⟩ : ∃ b off, ao = some ⟨b, off, none⟩ ∧ b < w.heap.size ∧ Seg w b off p := by
        rcases HV.out with h | h
        · rw [h] at hlt; simp at hlt
        · exact h
      obtain ⟨bl, ol, rfl, hbl, hsl⟩ := HG.out.seg (by have := H3.out; omega)
      obtain ⟨a, ca, hcl, hva⟩ := hsl k (by have := H3.out; omega)
      have hlo := (lvOk_iff _).1 (HLV.out k (by have := H3.out; omega))
      obtain ⟨bm, om, rfl, hbm, hsm2⟩ : ∃ b off, a = some ⟨b, off, none⟩ ∧ b < w.heap.size ∧ Seg w b off (cn ls k) := by
        rcases hva with h | h
        · rw [h] at hlo; simp at hlo
        · exact h
      have hz := L.size
      have qp := (L.cell (p := ⟨bp, op + k, none⟩) hbp).trans (hsp k hlt)
      have ql := (L.cell (p := ⟨bl, ol + k, none⟩) hbl).trans hcl
      have HSM : Hid (Seg w bm om (cn ls k)) := hsm2
      have hi0 : (0 : Int) ≤ (k : Int) := Int.natCast_nonneg _
      have hi1 : (k : Int) < (p.length : Int) := by omega
      have hi2 : (k : Int) < (ls.length : Int) := by have := H3.out; omega
      have HDN := hidP (decB_no (c := p) (ls := ls) (j := k) (by have := H3.out; omega))
      have HDI := hidP (decAt_in p ls k)
      have HDF : Hid (decF p ls k = nth (cn ls k) (nth p k).toNat) := rfl
      have HROW := hidP hrow
      have HL := hidP L
      have hll : (cn ls k).length ≤ 16 := hlo.2.1
      have hgl := hrow.lt
      clear hsl hva hsm2 hrow L
      have hwl : IntKind.i64.wrap (((cn ls k).length : Int) - 1) = ((cn ls k).length : Int) - 1 := IntWalk.i64_in _ ⟨by omega, by omega⟩
      have HSP := hidP (hsp k hlt)
      have HCL := hidP hcl
      clear hsp hcl hlo
      generalize cn ls k = l at *
      generalize nth p k = x at *
      have HIN : Hid (∀ w, Calls Try.prog 50 #[.int .i64 x, .int .i64 0, .int .i64 ((l.length : Int) - 1)] w fun e w' => e = .returned (.bool (inR x 0 ((l.length : Int) - 1))) ∧ w' = w) := fun w => sIn x 0 ((l.length : Int) - 1) w
      rcases hd : decAt p ls k with _ | _
      · have HNO := hidP (decL_no (HDN.out hd))
        rw [HDI.out] at hd
        rw [hd] at HIN
        clear hd HDN HDI
        go_wp2_with fail
        go_quiet ((go_at_call 50; exact Calls.quiet_of_same (HIN.out _)))
        have HE : Hid (IRow w.heap.size ((wr.drewN nq).alloc (.cells #[] 2)) wr.heap.size 0 [] ∧ Below w.heap.size w ((wr.drewN nq).alloc (.cells #[] 2))) :=
          ⟨(IRow.start (wr.drewN nq) _ (Nat.le_refl _)).mono (by show w.heap.size ≤ (wr.drewN nq).heap.size; exact hz), (below_drewN HL.out nq).alloc (by show w.heap.size ≤ (wr.drewN nq).heap.size; exact hz) _⟩
        go_wp2_with fail
        go_ret
        exact ⟨wr.heap.size, 0, by rw [HNO.out]; rfl, by rw [HNO.out]; exact HE.out.1, HE.out.2⟩
      · have HYES := hidP hd
        rw [HDI.out] at hd
        rw [hd] at HIN
        have hin : 0 ≤ x ∧ x ≤ (l.length : Int) - 1 := by simpa [inR] using hd
        obtain ⟨xn, rfl⟩ := Int.eq_ofNat_of_zero_le hin.1
        have hxl : xn < l.length := by omega
        have hx0 : (0 : Int) ≤ (xn : Int) := by omega
        have hx1 : (xn : Int) < (l.length : Int) := by omega
        rw [Int.toNat_natCast] at HDF
        clear hd HDN HDI hin
        go_wp2_with fail
        go_quiet ((go_at_call 50; exact Calls.quiet_of_same (HIN.out _)))
        go_wp2_with fail
        obtain ⟨W, hW⟩ : ∃ W, W = wr.drewN nq := ⟨_, rfl⟩
        rw [← hW]
        have HLW : Hid (Below w.heap.size w W) := by rw [hW]; exact below_drewN HL.out nq
        have HROW2 : Hid (IRow w.heap.size W g c (tabL (decF p ls) k)) := by rw [hW]; exact HROW.out.below (below_drewN (Below.refl _ _) nq)
        clear hW HROW HL ql qp
        have HQ := hidP (HSM.out xn hxl)
        clear HSM
        generalize nth l xn = y at *
        have HKS : Hid (∀ w', Below w.heap.size w w' → w'.cell? ⟨bp, op + k, none⟩ = some (.int .i64 (xn : Int)) ∧ w'.cell? ⟨bl, ol + k, none⟩ = some (.slice (some ⟨bm, om, none⟩) l.length ca) ∧ w'.cell? ⟨bm, om + xn, none⟩ = some (.int .i64 y)) := fun w' L =>
          ⟨(L.cell (p := ⟨bp, op + k, none⟩) hbp).trans HSP.out, (L.cell (p := ⟨bl, ol + k, none⟩) hbl).trans HCL.out, (L.cell (p := ⟨bm, om + xn, none⟩) hbm).trans HQ.out⟩
        have HTS : Hid (tabL (decF p ls) (k + 1) = tabL (decF p ls) k ++ [y]) := by show _ = _; rw [tabL_succ, HDF.out]
        have hgw := HROW2.out.lt
        refine wp_region_takes (S := fun w' => w'.cell? ⟨bp, op + k, none⟩ = some (.int .i64 (xn : Int)) ∧ w'.cell? ⟨bl, ol + k, none⟩ = some (.slice (some ⟨bm, om, none⟩) l.length ca) ∧ w'.cell? ⟨bm, om + xn, none⟩ = some (.int .i64 y)) (fuel := 3) [0, 1, 2, 3, 4, 5, 6, 7, 8, 9, 10] (by kernel_rfl) (by kernel_rfl) (by kernel_rfl) (by kernel_rfl) (HKS.out _ HLW.out.drew) (fun _ => ?_)
        iterate 11
          refine ⟨_, rfl, ?_⟩
          apply Exists.intro
          refine ⟨Or.inl ⟨by rfl, fun w' hw' => ?_⟩, ?_⟩
          · first
            | (go_simp; done)
            | (go_simp; with_reducible rfl)
          simp only [Act.put, List.getElem_toArray, List.getElem_cons_succ, List.getElem_cons_zero, List.setIfInBounds_toArray, List.set_cons_zero, List.set_cons_succ]
        have LA : Below w.heap.size w (W.alloc (.cells #[.int .i64 y] 2)).drew := (HLW.out.alloc HLW.out.size _).drew
        refine calm_one 11 (by kernel_rfl) rfl (fun K hK => ?_)
        go_simp
        refine hK.out _ _ (HKS.out _ LA) (fun _ => ?_)
        clear hK K
        have HOW : Hid (W.ownsRow w.heap.size 2 1 (.slice (some ⟨g, 0, none⟩) k c) k ((tabL (decF p ls) k).map (Value.int .i64))) := by
          have h := HROW2.out
          unfold IRow at h
          rw [tabL_length] at h
          exact h
        refine calm_one 12 (by kernel_rfl) rfl (fun K hK => ?_)
        refine step_append_lies _ (by rfl) (.tmp 38) (.tmp 49) 24 (by rfl) w.heap.size 2 j0 _ 1 8 Try.underlying24 hj0 hy0 hy1 hy2 rfl (by omega) (.slice (some ⟨g, 0, none⟩) k c) k ((tabL (decF p ls) k).map (Value.int .i64)) (by rfl) (World.ownsRow.alloc HOW.out _).drew ⟨W.heap.size, 0, none⟩ 1 1 [.int .i64 y] (by rfl) rfl (World.news_of_block (cs := #[.int .i64 y]) (t := 2) (fr := (0, 0)) (heap_alloc_new W _)) (by simp [Value.oneCell']) (by omega) (by unfold maxLen; omega) (by omega) (by simp; omega) (W.heap.size + 1) (by simp) ?_
        intro g8 c8 w8 hown hgrow hat8 hlt8
        have HF : Hid (IRow w.heap.size w8 g8 c8 (tabL (decF p ls) (k + 1)) ∧ Below w.heap.size w w8) := by
          refine ⟨?_, ?_⟩
          · rw [HTS.out]
            exact IRow.of hown (by rw [List.length_append, tabL_length]; rfl) (by simp)
          · refine LA.grown hgrow LA.size ?_
            intro q hq
            simp [Value.ownBlock] at hq
            omega
        refine hK.out _ _ (HKS.out _ HF.out.2) (fun hS8 => ?_)
        clear hK K hown hgrow hat8 hlt8
        refine calm_rest [13] rfl (by kernel_rfl) (by kernel_rfl) (by kernel_rfl) hS8 ?_
        refine ⟨_, rfl, ?_⟩
        apply Exists.intro
        refine ⟨Or.inl ⟨by rfl, fun w' hw' => ?_⟩, ?_⟩
        · first
          | (go_simp; done)
          | (go_simp; with_reducible rfl)
        simp only [Act.put, List.getElem_toArray, List.getElem_cons_succ, List.getElem_cons_zero, List.setIfInBounds_toArray, List.set_cons_zero, List.set_cons_succ]
        refine NoPanic.normal (NoPanic.normal ?_)
        go_wp2_with fail
        go_roundw
        case rel => exact ⟨k + 1, g8, c8, by omega, by go_num, rfl, fun j hj => by
          rcases Nat.lt_or_ge j k with h | h
          · exact HA.out j h
          · obtain rfl : j = k := by omega
            exact HYES.out, HF.out⟩
        case measure => simp [intOf]; omega
    · obtain rfl : k = p.length := by omega
      have HE : Hid ((decL p ls).length = p.length ∧ IRow w.heap.size wr g c (decL p ls) ∧ Below w.heap.size w wr) := by
        have hb : decB p ls = true := (decB_iff p ls).2 ⟨H1.out, H3.out, fun j hj => HA.out j (by have := H3.out; omega)⟩
        have e : decL p ls = tabL (decF p ls) ls.length := by rw [decL, if_pos hb]
        rw [e, tabL_length, ← H3.out]
        exact ⟨rfl, hrow, L⟩
      clear hrow L
      go_wp2_with fail
      go_ret
      exact ⟨g, c, by rw [HE.out.1]; rfl, HE.out.2⟩

theorem sDecoded (ao ag : Option Addr) (cap cg : Nat) (p : List Int) (ls : List (List Int)) (w : World) (hv : View w ao p) (hg : CView w ag ls) (hsm : CSmall ls) :
    Calls Try.prog 17 #[.slice ao p.length cap, .slice ag ls.length cg] w fun e w' => ∃ g c, e = .returned (.slice (some ⟨g, 0, none⟩) (decL p ls).length c) ∧ IRow w.heap.size w' g c (decL p ls) ∧ Below w.heap.size w w' := by
  by_cases h : levB ls = true ∧ p.length = ls.length
  · exact sDecoded_in ao ag cap cg p ls w hv hg hsm h.1 h.2
  · have hb : levB ls = false ∨ p.length ≠ ls.length := by
      rcases h1 : levB ls with _ | _
      · exact Or.inl rfl
      · exact Or.inr (fun e => h ⟨h1, e⟩)
    rw [decL_no (decB_told hb)]
    exact sDecoded_no ao ag cap cg p ls w hg hsm hb
theorem codL_four (p : List Int) (ls : List (List Int)) : (codL p ls).length ≤ 4 := by
  rcases hb : codB p ls with _ | _
  · rw [codL_no hb]; simp
  · rw [codL_len hb]
    exact ((levB_iff ls).1 ((codB_iff p ls).1 hb).1).2.1
theorem decL_four (p : List Int) (ls : List (List Int)) : (decL p ls).length ≤ 4 := by
  rcases hb : decB p ls with _ | _
  · rw [decL_no hb]; simp
  · rw [decL_len hb]
    exact ((levB_iff ls).1 ((decB_iff p ls).1 hb).1).2.1

set_option maxRecDepth 100000 in
set_option maxHeartbeats 1000000 in
theorem sOff (ao ag : Option Addr) (cap cg : Nat) (p : List Int) (ls : List (List Int)) (w : World) (hv : View w ao p) (hg : CView w ag ls) (hn : p.length ≤ 1048576) (hsm : CSmall ls) :
    Calls Try.prog 19 #[.slice ao p.length cap, .slice ag ls.length cg] w fun e w' => e = .returned (.int .i64 (offV p ls)) ∧ Below w.heap.size w w' := by
  have HC := hidP (sCoded ao ag cap cg p ls w hv hg hn hsm)
  have HV := hidP hv
  have HG := hidP hg
  have h4 := codL_four p ls
  have d4 := decL_four (codL p ls) ls
  have HO : Hid (offV p ls = stepsV p (decL (codL p ls) ls)) := rfl
  generalize codL p ls = cs at *
  generalize hds : decL cs ls = ds at *
  have HDS := hidP hds
  clear hv hg hds
  go_enter Try.func19, Try.ntmps19
  go_wp2_with fail
  refine HC.out.mono ?_
  rintro e w1 ⟨g, c, rfl, hrow, L1⟩
  have HD := hidP (sDecoded (some ⟨g, 0, none⟩) ag c cg cs ls w1 hrow.view (HG.out.next L1) hsm)
  rw [HDS.out] at HD
  have HL1 := hidP L1
  clear hrow L1 HC
  go_wp2_with fail
  refine HD.out.mono ?_
  rintro e w2 ⟨g2, c2, rfl, hrow2, L2⟩
  have HL2 := hidP (chain HL1.out L2)
  have HS := hidP (sSteps ao (some ⟨g2, 0, none⟩) cap c2 p ds w2 (View.next HV.out HL2.out) hrow2.view hn (by omega))
  clear hrow2 L2 HD
  go_wp2_with fail
  refine HS.out.mono ?_
  rintro e w3 ⟨rfl, n3, hw3⟩
  have HL3 : Hid (Below w.heap.size w w3) := by rw [hw3]; exact below_drewN HL2.out n3
  clear hw3
  go_wp2_with fail
  go_ret
  exact ⟨by rw [HO.out]; rfl, HL3.out⟩

set_option maxRecDepth 100000 in
set_option maxHeartbeats 1000000 in
theorem sSumL (ao ac ag : Option Addr) (cap cc cg : Nat) (q c : List Int) (ls : List (List Int)) (w : World) (hv : View w ao q) (hc : View w ac c) (hg : CView w ag ls) (hn : q.length ≤ 1048576) (hsm : CSmall ls) :
    Calls Try.prog 21 #[.slice ao q.length cap, .slice ac c.length cc, .slice ag ls.length cg] w fun e w' => e = .returned (.int .i64 (sumLV q c ls)) ∧ Below w.heap.size w w' := by
  have HD := hidP (sDecoded ac ag cc cg c ls w hc hg hsm)
  have HV := hidP hv
  have d4 := decL_four c ls
  have HO : Hid (sumLV q c ls = stepsV q (decL c ls)) := rfl
  generalize decL c ls = ds at *
  clear hv hc hg
  go_enter Try.func21, Try.ntmps21
  go_wp2_with fail
  refine HD.out.mono ?_
  rintro e w2 ⟨g2, c2, rfl, hrow2, L2⟩
  have HL2 := hidP L2
  have HS := hidP (sSteps ao (some ⟨g2, 0, none⟩) cap c2 q ds w2 (View.next HV.out L2) hrow2.view hn (by omega))
  clear hrow2 L2 HD
  go_wp2_with fail
  refine HS.out.mono ?_
  rintro e w3 ⟨rfl, n3, hw3⟩
  have HL3 : Hid (Below w.heap.size w w3) := by rw [hw3]; exact below_drewN HL2.out n3
  clear hw3
  go_wp2_with fail
  go_ret
  exact ⟨by rw [HO.out]; rfl, HL3.out⟩

end Go.Proofs.Ythkaiienfkihmaa
