/-
  The laws' draws of whatever marks and kinds.
-/
import Derived.Test.YtfbindjacmaeoaaMDrawZz
import Derived.Test.YtfbindjacmaeoaaMHighZz
namespace Go.Proofs.Ytfbindjacmaeoaa
open Go Go.RowKit

theorem three_at (y : Nat) (h : y < 3) : ∃ v, (#[.int .i64 0, .int .i64 4, .int .i64 (-1)] : Array Value)[y]? = some (.int .i64 v) := by
  match y, h with
  | 0, _ => exact ⟨_, rfl⟩
  | 1, _ => exact ⟨_, rfl⟩
  | 2, _ => exact ⟨_, rfl⟩
theorem four_at (y : Nat) (h : y < 4) : ∃ v, (#[.int .i64 0, .int .i64 1, .int .i64 1000000, .int .i64 1000001] : Array Value)[y]? = some (.int .i64 v) := by
  match y, h with
  | 0, _ => exact ⟨_, rfl⟩
  | 1, _ => exact ⟨_, rfl⟩
  | 2, _ => exact ⟨_, rfl⟩
  | 3, _ => exact ⟨_, rfl⟩

set_option maxRecDepth 100000 in
set_option maxHeartbeats 1000000 in
theorem cKind (q : Nat) (ao : Option Addr) (n cap : Nat) (w : World) (hc : Cur w q ao n cap) (hv : CodeV w ao n) (hn : n ≤ 4096) :
    Calls Try.prog 47 #[.pointer (some ⟨q, 0, none⟩)] w fun e w' => (∃ x : Int, e = .returned (.int .i64 x)) ∧ Cur w' q ao n cap ∧ w.grownBy w' (some q) := by
  have hq := hc.lt
  go_enter Try.func47, Try.ntmps47
  go_wp2_with fail
  refine (cOnce q ao n cap 14 _ hc hv hn (by omega) (by omega)).mono ?_
  rintro e w1 ⟨⟨x, rfl⟩, c1, g1⟩
  have v1 := hv.grown hc g1
  have hz1 := g1.size
  cases x with
  | false =>
    go_wp2_with fail
    refine (cBelow q ao n cap 3 _ c1 v1 hn (by omega) (by omega)).mono ?_
    rintro e w2 ⟨⟨y, y0, y1, rfl⟩, c2, g2⟩
    go_wp2_with fail
    go_ret
    exact ⟨⟨_, rfl⟩, c2, grown_trans g1 g2⟩
  | true =>
    have ga := World.grownBy_alloc w1 (.cells #[.int .i64 0, .int .i64 4, .int .i64 (-1)] 2) (some q)
    have HV2 := hidP (v1.grown c1 ga)
    have HG := hidP (grown_trans g1 ga)
    clear ga
    go_wp2_with fail
    refine (cBelow q ao n cap 3 _ (c1.alloc _) HV2.out hn (by omega) (by omega)).mono ?_
    rintro e w2 ⟨⟨y, y0, y1, rfl⟩, c2, g2⟩
    obtain ⟨yn, rfl⟩ := Int.eq_ofNat_of_zero_le y0
    obtain ⟨v, hv3⟩ := three_at yn (by omega)
    have ht : w2.cell? ⟨w1.heap.size, yn, none⟩ = some (.int .i64 v) := g2.cell (by rw [World.cell?_alloc_at _ _ _ _ rfl]; exact hv3) (by simp; omega)
    have hy2 : (yn : Int) < 3 := by omega
    have HG2 := hidP (grown_trans HG.out g2)
    clear g1 g2
    go_wp2_with fail
    go_ret
    exact ⟨⟨_, rfl⟩, c2, HG2.out⟩

theorem dMarks_small {width id : Int} {ds : List Dm} (h : DGood width id ds) (hw : width ≤ 3) (i : Nat) : (mat (dMarks ds) i).length ≤ 3 := by
  rcases Nat.lt_or_ge i ds.length with hi | hi
  · rw [dMarks_mat ds i hi]
    have := (h.1 _ (mdnth_mem ds i hi)).2.2.1
    omega
  · simp [mat, dMarks, List.getD, hi]
theorem set_small {ms : List Mk} {y : Nat} {m : Mk} (h : ∀ i, (mat ms i).length ≤ 5) (hm : m.2.length ≤ 5) (i : Nat) : (mat (ms.set y m) i).length ≤ 5 := by
  rcases Nat.lt_or_ge i ms.length with hi | hi
  · rw [mat_set ms y i m hi]; split
    · exact hm
    · exact h i
  · simp [mat, List.getD, hi]

theorem DNew.any {base : Nat} {w : World} {g c : Nat} {ds : List Dm} {most : Int} (h : DNew base w g c ds most) : MNew base w g c (dMarks ds) most := by
  obtain ⟨h1, h2, width, id, h3, h4, h5, h6⟩ := h
  exact ⟨by rw [dMarks_length]; exact h1, by rw [dMarks_length]; exact h2.cap, h2.high _, fun i => by have := dMarks_small h6 h4 i; omega⟩
theorem DNew.good {base : Nat} {w : World} {g c : Nat} {ds : List Dm} {most : Int} (h : DNew base w g c ds most) (hm : most ≤ 60) : marksB (dMarks ds) = true := by
  obtain ⟨h1, h2, width, id, h3, h4, h5, h6⟩ := h
  exact h6.marks (by omega) h3 (by omega) (by omega)

theorem int3 {y : Int} (h0 : 0 ≤ y) (h1 : y < 3) : y = 0 ∨ y = 1 ∨ y = 2 := by omega

set_option maxRecDepth 100000 in
set_option maxHeartbeats 2000000 in
theorem cMarksAny (q : Nat) (ao : Option Addr) (n cap : Nat) (most : Int) (w : World) (hc : Cur w q ao n cap) (hv : CodeV w ao n) (hn : n ≤ 4096) (hm0 : 0 ≤ most) (hm : most ≤ 60) :
    Calls Try.prog 46 #[.pointer (some ⟨q, 0, none⟩), .int .i64 most] w fun e w' => (∃ g c ms, e = .returned (.slice (some ⟨g, 0, none⟩) ms.length c) ∧ MNew w.heap.size w' g c ms most) ∧ Cur w' q ao n cap ∧ w.grownBy w' (some q) := by
  have hq := hc.lt
  obtain ⟨i0, hi0, hz0, hz1, hz2⟩ := info_parts Try.info2
  go_enter Try.func46, Try.ntmps46
  go_wp2_with fail
  refine (cMarks q ao n cap most _ hc hv hn hm0 hm).mono ?_
  rintro e w1 ⟨⟨g, c, ds, rfl, hnew⟩, c1, g1⟩
  have v1 := hv.grown hc g1
  go_wp2_with fail
  refine (cOnce q ao n cap 14 _ c1 v1 hn (by omega) (by omega)).mono ?_
  rintro e w2 ⟨⟨x, rfl⟩, c2, g2⟩
  have g12 := grown_trans g1 g2
  have v2 := hv.grown hc g12
  have hnew2 : DNew w.heap.size w2 g c ds most := ⟨hnew.1, hnew.2.1.kept g2 (by intro k hk; cases hk; exact hq), hnew.2.2⟩
  have HN := hidP hnew2
  have hlen := hnew.1
  clear c1 v1 g1 g2 hnew hnew2
  have HEND : Hid (∀ w', w' = w2 → (∃ g' c' ms, Ending.returned (.slice (some ⟨g, 0, none⟩) ds.length c) = .returned (.slice (some ⟨g', 0, none⟩) ms.length c') ∧ MNew w.heap.size w' g' c' ms most) ∧ Cur w' q ao n cap ∧ w.grownBy w' (some q)) := by
    rintro w' rfl
    exact ⟨⟨g, c, dMarks ds, by rw [dMarks_length], HN.out.any⟩, c2, g12⟩
  cases x with
  | false =>
    go_wp2_with fail
    go_ret
    exact HEND.out _ rfl
  | true =>
    by_cases h0 : ds.length = 0
    · have h0b : ¬ ((0 : Int) < (ds.length : Int)) := by omega
      have H0 := hidP h0
      clear h0
      go_wp2_with fail
      go_ret
      exact HEND.out _ rfl
    · have h0b : (0 : Int) < (ds.length : Int) := by omega
      clear HEND
      go_wp2_with fail
      refine (cBelow q ao n cap ds.length _ c2 v2 hn (by omega) (by omega)).mono ?_
      rintro e w3 ⟨⟨y, y0, y1, rfl⟩, c3, g3⟩
      obtain ⟨yn, rfl⟩ := Int.eq_ofNat_of_zero_le y0
      have hyn : yn < ds.length := by omega
      have g13 := grown_trans g12 g3
      have v3 := hv.grown hc g13
      have N3 : DNew w.heap.size w3 g c ds most := ⟨HN.out.1, HN.out.2.1.kept g3 (by intro k hk; cases hk; exact hq), HN.out.2.2⟩
      have HN3 := hidP N3
      clear g3 g12 c2 v2 HN N3
      go_wp2_with fail
      refine (cBelow q ao n cap 3 _ c3 v3 hn (by omega) (by omega)).mono ?_
      rintro e w4 ⟨⟨z, z0, z1, rfl⟩, c4, g4⟩
      have g14 := grown_trans g13 g4
      have v4 := hv.grown hc g14
      have N4 : DNew w.heap.size w4 g c ds most := ⟨HN3.out.1, HN3.out.2.1.kept g4 (by intro k hk; cases hk; exact hq), HN3.out.2.2⟩
      have HN4 := hidP N4
      have hgl := N4.2.1.lt
      have hcell := N4.2.1.cells yn hyn
      have hfz := World.ownsRow.frozenAt N4.2.1.1
      obtain ⟨hcell0, hcell1⟩ := hcell
      have hat3 := dMarks_small N4.2.2.choose_spec.choose_spec.2.2.2 N4.2.2.choose_spec.choose_spec.2.1 yn
      rw [dMarks_mat ds yn hyn] at hat3
      have HSM : Hid (∀ i, (mat (dMarks ds) i).length ≤ 5) := N4.any.2.2.2
      have hz4 := g14.size
      clear g4 g13 c3 v3 HN3 N4
      rcases int3 z0 z1 with rfl | rfl | rfl
      · have ga := World.grownBy_alloc w4 (.cells #[.int .i64 0, .int .i64 1, .int .i64 1000000, .int .i64 1000001] 2) (some q)
        have HG5 := hidP (grown_trans g14 ga)
        have HV5 := hidP (hv.grown hc (grown_trans g14 ga))
        have HD5 := hidP (HN4.out.2.1.kept ga (by intro k hk; cases hk; exact hq))
        clear ga hcell0 hcell1 hfz
        go_wp2_with fail
        refine (cBelow q ao n cap 4 _ (c4.alloc _) HV5.out hn (by omega) (by omega)).mono ?_
        rintro e w5 ⟨⟨t, t0, t1, rfl⟩, c5, g5⟩
        obtain ⟨tn, rfl⟩ := Int.eq_ofNat_of_zero_le t0
        obtain ⟨v, hv4⟩ := four_at tn (by omega)
        have ht : w5.cell? ⟨w4.heap.size, tn, none⟩ = some (.int .i64 v) := g5.cell (by rw [World.cell?_alloc_at _ _ _ _ rfl]; exact hv4) (by simp; omega)
        have ht2 : (tn : Int) < 4 := by omega
        have D5 := HD5.out.kept g5 (by intro k hk; cases hk; exact hq)
        have hcell0 := (D5.cells yn hyn).1
        have hfz := World.ownsRow.frozenAt D5.1 (yn * 2)
        have HST := hidP (World.ownsRow.stored D5.1 (yn * 2) (.int .i64 v)).2
        have HH := hidP ((D5.high (dMarks ds).length).setId (y := yn) (by rw [dMarks_length]; exact hyn) v)
        have HG6 := hidP (grown_trans HG5.out g5)
        clear g5 D5 HG5 HV5 HD5 c4 v4 g14
        go_wp2_with fail
        go_ret
        refine ⟨⟨g, c, (dMarks ds).set yn (v, mat (dMarks ds) yn), ?_, ?_⟩, c5.grown HST.out (by simp; omega), grown_far HG6.out HST.out (by intro k hk; cases hk; omega)⟩
        · rw [List.length_set, dMarks_length]; rfl
        · refine ⟨?_, ?_, ?_, set_small HSM.out (HSM.out yn)⟩
          · rw [List.length_set, dMarks_length]; exact hlen
          · rw [List.length_set, dMarks_length]; exact HN4.out.2.1.cap
          · rw [List.length_set]; exact HH.out
      · have HC4 := hidP (cAny q ao n cap (mdnth ds yn).2.2.2.length w4 c4 v4 hn (by omega))
        clear hfz
        go_wp2_with fail
        refine HC4.out.mono ?_
        rintro e w5 ⟨⟨g', c', xs, rfl, hxl, hrow⟩, c5, g5⟩
        have D5 := HN4.out.2.1.kept g5 (by intro k hk; cases hk; exact hq)
        have hfz := World.ownsRow.frozenAt D5.1 (yn * 2 + 1)
        replace hcell1 := (D5.cells yn hyn).2
        have HST := hidP (World.ownsRow.stored D5.1 (yn * 2 + 1) (.slice (some ⟨g', 0, none⟩) xs.length c')).2
        have hl2 := hrow.lt2
        have HH := hidP ((D5.high yn).setAt (cap' := c') (y := yn) (by rw [dMarks_length]; exact hyn) (by omega) hl2.2 (by omega) hrow.seg)
        have HG6 := hidP (grown_trans g14 g5)
        clear g5 D5 HC4 c4 v4 g14 hcell0
        go_wp2_with fail
        go_ret
        refine ⟨⟨g, c, (dMarks ds).set yn (mid (dMarks ds) yn, xs), ?_, ?_⟩, c5.grown HST.out (by simp; omega), grown_far HG6.out HST.out (by intro k hk; cases hk; omega)⟩
        · rw [List.length_set, dMarks_length]; rfl
        · refine ⟨?_, ?_, ?_, set_small HSM.out (by simp; omega)⟩
          · rw [List.length_set, dMarks_length]; exact hlen
          · rw [List.length_set, dMarks_length]; exact HN4.out.2.1.cap
          · rw [List.length_set]; exact HH.out
      · have hrw := HN4.out.2.1.2.1 _ (mdnth_mem ds yn hyn)
        have HRW := hidP hrw
        have hrl := hrw.1.lt2
        have hrn := hrw.2
        have HD5 := hidP (HN4.out.2.1.kept (World.grownBy_alloc w4 (.cells #[.int .i64 1] 2) none) (by intro k hk; cases hk))
        have hgne : some g ≠ some (mdnth ds yn).2.1 := fun e => hrn (by injection e with e; exact e.symm)
        have hgl5 := HD5.out.lt
        clear hfz hrw
        go_wp2_with (at_builtin; refine wpList_append_lies _ rfl (.tmp 53) (.tmp 54) 36 rfl w.heap.size 2 i0 _ 1 8 Try.underlying36 hi0 hz0 hz1 hz2 rfl (by omega) (.slice (some ⟨(mdnth ds yn).2.1, 0, none⟩) (mdnth ds yn).2.2.2.length (mdnth ds yn).2.2.1) (mdnth ds yn).2.2.2.length ((mdnth ds yn).2.2.2.map (Value.int .i64)) rfl (World.ownsRow.alloc HRW.out.1 _) ⟨w4.heap.size, 0, none⟩ 1 1 [.int .i64 1] rfl rfl (World.news_of_block (cs := #[.int .i64 1]) (t := 2) (fr := (0, 0)) (heap_alloc_new w4 _)) (by simp [Value.oneCell']) (by omega) (by unfold maxLen; omega) (by omega) (by simp; omega) (w4.heap.size + 1) (by simp) ?_; intro gg cc w5 hown hgrow hat hlt1; have hst := (cell_grown hgl5.2 hgrow hgne).trans (HD5.out.cells yn hyn).2; have hfz := (frozen_grown hgl5.2 hgrow hgne).trans (World.ownsRow.frozenAt HD5.out.1 (yn * 2 + 1)))
        go_ret
        have hxl : ((mdnth ds yn).2.2.2 ++ [1]).length = (mdnth ds yn).2.2.2.length + 1 := by simp
        have hrow5 : Row w.heap.size w5 gg cc ((mdnth ds yn).2.2.2 ++ [1]) := by unfold Row; rw [hxl, List.map_append]; exact hown
        have hl2 := hrow5.lt2
        have hggne : gg ≠ g := by
          rcases hat with h | h
          · simp [Value.ownBlock] at h; omega
          · omega
        have HH := ((HD5.out.highBut hyn hgrow).setAt (cap' := cc) (y := yn) (by rw [dMarks_length]; exact hyn) hl2.1 hl2.2 hggne hrow5.seg)
        rw [hxl] at HH
        have HST := grown_setCell w5 g (yn * 2 + 1) (.slice (some ⟨gg, 0, none⟩) ((mdnth ds yn).2.2.2.length + 1) cc)
        have HG5 := grown_far (grown_far g14 (World.grownBy_alloc w4 (.cells #[.int .i64 1] 2) none) (by simp)) hgrow (by intro k hk; simp [Value.ownBlock] at hk; omega)
        refine ⟨⟨g, c, (dMarks ds).set yn (mid (dMarks ds) yn, (mdnth ds yn).2.2.2 ++ [1]), ?_, ?_⟩, ((c4.alloc _).grown hgrow (by simp [Value.ownBlock]; omega)).grown HST (by simp; omega), grown_far HG5 HST (by intro k hk; cases hk; omega)⟩
        · rw [List.length_set, dMarks_length]; rfl
        · refine ⟨?_, ?_, ?_, set_small HSM.out (by rw [hxl]; omega)⟩
          · rw [List.length_set, dMarks_length]; exact hlen
          · rw [List.length_set, dMarks_length]; exact HN4.out.2.1.cap
          · rw [List.length_set]; exact HH

end Go.Proofs.Ytfbindjacmaeoaa
