/-
  Drawn marks, told by their cells, all in blocks from base on (no function of the program is named here).
  The laws' draws of whatever marks and kinds.
  Blocks that stay between two places (no program is named here).
-/
import Derived.Test.YtfbindjacmaeoaaMRowZz
import Derived.Test.YtfbindjacmaeoaaMCellsZz
import Derived.Test.YtfbindjacmaeoaaMDrawZz
namespace Go.Proofs.Ytfbindjacmaeoaa
open Go Go.RowKit

/-- The place of mark i is told unless i is 'skip'. -/
def MHigh (base : Nat) (w : World) (g : Nat) (ms : List Mk) (skip : Nat) : Prop :=
  base ≤ g ∧ g < w.heap.size ∧ (∀ i, i < ms.length → w.cell? ⟨g, i * 2, none⟩ = some (.int .i64 (mid ms i)) ∧ (∃ v, w.cell? ⟨g, i * 2 + 1, none⟩ = some v)) ∧
  ∀ i, i < ms.length → i ≠ skip → ∃ b cap, w.cell? ⟨g, i * 2 + 1, none⟩ = some (.slice (some ⟨b, 0, none⟩) (mat ms i).length cap) ∧ base ≤ b ∧ b < w.heap.size ∧ b ≠ g ∧ Seg w b 0 (mat ms i)

theorem MHigh.kept {base : Nat} {w w' : World} {g skip : Nat} {ms : List Mk} {r : Option Nat} (h : MHigh base w g ms skip) (hg : w.grownBy w' r) (hr : ∀ q, r = some q → q < base) : MHigh base w' g ms skip := by
  have hne : ∀ k, base ≤ k → some k ≠ r := fun k hk e => by have := hr k e.symm; omega
  obtain ⟨h1, h2, h3, h4⟩ := h
  refine ⟨h1, Nat.lt_of_lt_of_le h2 hg.size, fun i hi => ?_, fun i hi his => ?_⟩
  · rw [cell_grown h2 hg (hne g h1), cell_grown h2 hg (hne g h1)]; exact h3 i hi
  · obtain ⟨b, cap, e, hb, hbs, hbg, hs⟩ := h4 i hi his
    exact ⟨b, cap, by rw [cell_grown h2 hg (hne g h1)]; exact e, hb, Nat.lt_of_lt_of_le hbs hg.size, hbg, seg_grown hs hbs hg (hne b hb)⟩
theorem MHigh.view {base : Nat} {w : World} {g skip : Nat} {ms : List Mk} (h : MHigh base w g ms skip) (hs : ms.length ≤ skip) : MView w (some ⟨g, 0, none⟩) ms :=
  Or.inr ⟨g, 0, rfl, h.2.1, fun i hi => by
    rw [Nat.zero_add]
    obtain ⟨b, cap, e, _, hb, _, hv⟩ := h.2.2.2 i hi (by omega)
    exact ⟨(h.2.2.1 i hi).1, _, cap, e, Or.inr ⟨b, 0, rfl, hb, hv⟩⟩⟩
theorem MHigh.grow {base : Nat} {w : World} {g skip : Nat} {ms : List Mk} (h : MHigh base w g ms ms.length) : MHigh base w g ms skip :=
  ⟨h.1, h.2.1, h.2.2.1, fun i hi _ => h.2.2.2 i hi (by omega)⟩

theorem dMarks_mid (ds : List Dm) (i : Nat) (h : i < ds.length) : mid (dMarks ds) i = (mdnth ds i).1 := by rw [← mnth_1, dMarks_at ds i h]
theorem dMarks_mat (ds : List Dm) (i : Nat) (h : i < ds.length) : mat (dMarks ds) i = (mdnth ds i).2.2.2 := by rw [← mnth_2, dMarks_at ds i h]
theorem DRow.high {base : Nat} {w : World} {g c : Nat} {ds : List Dm} (h : DRow base w g c ds) (skip : Nat) : MHigh base w g (dMarks ds) skip := by
  refine ⟨h.lt.1, h.lt.2, fun i hi => ?_, fun i hi _ => ?_⟩
  · rw [dMarks_length] at hi
    rw [dMarks_mid ds i hi]
    exact ⟨(h.cells i hi).1, _, (h.cells i hi).2⟩
  · rw [dMarks_length] at hi
    rw [dMarks_mat ds i hi]
    obtain ⟨hr, hne⟩ := h.2.1 _ (mdnth_mem ds i hi)
    exact ⟨_, _, (h.cells i hi).2, hr.lt2.1, hr.lt2.2, hne, hr.seg⟩
/-- Behind a step that writes into the place of mark y alone. -/
theorem DRow.highBut {base : Nat} {w w' : World} {g c y : Nat} {ds : List Dm} (h : DRow base w g c ds) (hy : y < ds.length) (hg : w.grownBy w' (some (mdnth ds y).2.1)) : MHigh base w' g (dMarks ds) y := by
  have hgy : some g ≠ some (mdnth ds y).2.1 := fun e => (h.2.1 _ (mdnth_mem ds y hy)).2 (by injection e with e; exact e.symm)
  refine ⟨h.lt.1, Nat.lt_of_lt_of_le h.lt.2 hg.size, fun i hi => ?_, fun i hi his => ?_⟩
  · rw [dMarks_length] at hi
    rw [dMarks_mid ds i hi, cell_grown h.lt.2 hg hgy, cell_grown h.lt.2 hg hgy]
    exact ⟨(h.cells i hi).1, _, (h.cells i hi).2⟩
  · rw [dMarks_length] at hi
    rw [dMarks_mat ds i hi, cell_grown h.lt.2 hg hgy]
    obtain ⟨hr, hne⟩ := h.2.1 _ (mdnth_mem ds i hi)
    refine ⟨_, _, (h.cells i hi).2, hr.lt2.1, Nat.lt_of_lt_of_le hr.lt2.2 hg.size, hne, seg_grown hr.seg hr.lt2.2 hg ?_⟩
    intro e
    injection e with e
    have hp := List.pairwise_iff_getElem.1 h.2.2
    simp only [mdnth, List.getD, List.getElem?_eq_getElem hi, List.getElem?_eq_getElem hy, Option.getD_some] at e
    rcases Nat.lt_or_ge i y with hlt | hge
    · have := hp i y hi hy hlt; omega
    · have := hp y i hy hi (by omega); omega

theorem mid_set (ms : List Mk) (y i : Nat) (m : Mk) (hi : i < ms.length) : mid (ms.set y m) i = if i = y then m.1 else mid ms i := by
  unfold mid
  by_cases h : i = y
  · subst h; simp [List.getD, hi]
  · simp [List.getD, h, Ne.symm h]
theorem mat_set (ms : List Mk) (y i : Nat) (m : Mk) (hi : i < ms.length) : mat (ms.set y m) i = if i = y then m.2 else mat ms i := by
  unfold mat
  by_cases h : i = y
  · subst h; simp [List.getD, hi]
  · simp [List.getD, h, Ne.symm h]
theorem seg_setOther {w : World} {b off : Nat} {xs : List Int} (h : Seg w b off xs) {a : Addr} (ha : b ≠ a.block) (v : Value) : Seg (w.setCell a v) b off xs := fun i hi =>
  (World.cell?_of_block (w := w) (a := ⟨b, off + i, none⟩) (Below.heap_setCell w a v b ha)).trans (h i hi)

theorem MHigh.setId {base : Nat} {w : World} {g skip y : Nat} {ms : List Mk} (h : MHigh base w g ms skip) (hy : y < ms.length) (v : Int) :
    MHigh base (w.setCell ⟨g, y * 2, none⟩ (.int .i64 v)) g (ms.set y (v, mat ms y)) skip := by
  obtain ⟨h1, h2, h3, h4⟩ := h
  refine ⟨h1, by rw [setCell_size]; exact h2, fun i hi => ?_, fun i hi his => ?_⟩
  · rw [List.length_set] at hi
    rw [mid_set ms y i _ hi, cell_setOther _ _ _ _ _ (by omega : y * 2 ≠ i * 2 + 1)]
    refine ⟨?_, (h3 i hi).2⟩
    by_cases e : i = y
    · subst e; rw [if_pos rfl]; exact World.cell?_setCell_same _ _ _ (h3 i hi).1
    · rw [if_neg e, cell_setOther _ _ _ _ _ (by omega)]; exact (h3 i hi).1
  · rw [List.length_set] at hi
    obtain ⟨b, cap, e, hb, hbs, hbg, hs⟩ := h4 i hi his
    have hm : mat (ms.set y (v, mat ms y)) i = mat ms i := by rw [mat_set ms y i _ hi]; split <;> simp_all
    rw [hm, cell_setOther _ _ _ _ _ (by omega : y * 2 ≠ i * 2 + 1)]
    exact ⟨b, cap, e, hb, by rw [setCell_size]; exact hbs, hbg, seg_setOther hs hbg _⟩
theorem MHigh.setAt {base : Nat} {w : World} {g y b' cap' : Nat} {ms : List Mk} {xs : List Int} (h : MHigh base w g ms y) (hy : y < ms.length) (hb' : base ≤ b') (hs' : b' < w.heap.size) (hne : b' ≠ g) (hx : Seg w b' 0 xs) :
    MHigh base (w.setCell ⟨g, y * 2 + 1, none⟩ (.slice (some ⟨b', 0, none⟩) xs.length cap')) g (ms.set y (mid ms y, xs)) ms.length := by
  obtain ⟨h1, h2, h3, h4⟩ := h
  refine ⟨h1, by rw [setCell_size]; exact h2, fun i hi => ?_, fun i hi _ => ?_⟩
  · rw [List.length_set] at hi
    have hm : mid (ms.set y (mid ms y, xs)) i = mid ms i := by rw [mid_set ms y i _ hi]; split <;> simp_all
    rw [hm, cell_setOther _ _ _ _ _ (by omega : y * 2 + 1 ≠ i * 2)]
    refine ⟨(h3 i hi).1, ?_⟩
    by_cases e : i = y
    · subst e
      obtain ⟨v, hv⟩ := (h3 i hi).2
      exact ⟨_, World.cell?_setCell_same _ _ _ hv⟩
    · rw [cell_setOther _ _ _ _ _ (by omega)]; exact (h3 i hi).2
  · rw [List.length_set] at hi
    rw [mat_set ms y i _ hi]
    by_cases e : i = y
    · subst e
      obtain ⟨v, hv⟩ := (h3 i hi).2
      rw [if_pos rfl]
      exact ⟨b', cap', World.cell?_setCell_same _ _ _ hv, hb', by rw [setCell_size]; exact hs', hne, seg_setOther hx hne _⟩
    · obtain ⟨b, cap, e1, hb, hbs, hbg, hs⟩ := h4 i hi e
      rw [if_neg e, cell_setOther _ _ _ _ _ (by omega)]
      exact ⟨b, cap, e1, hb, by rw [setCell_size]; exact hbs, hbg, seg_setOther hs hbg _⟩

/-- What a draw of whatever marks hands back. -/
def MNew (base : Nat) (w : World) (g c : Nat) (ms : List Mk) (most : Int) : Prop := (ms.length : Int) ≤ most ∧ ms.length ≤ c ∧ MHigh base w g ms ms.length ∧ ∀ i, (mat ms i).length ≤ 5
theorem MNew.view {base : Nat} {w : World} {g c : Nat} {ms : List Mk} {most : Int} (h : MNew base w g c ms most) : MView w (some ⟨g, 0, none⟩) ms := h.2.2.1.view (Nat.le_refl _)
theorem MNew.kept {base : Nat} {w w' : World} {g c : Nat} {ms : List Mk} {most : Int} {r : Option Nat} (h : MNew base w g c ms most) (hg : w.grownBy w' r) (hr : ∀ q, r = some q → q < base) : MNew base w' g c ms most :=
  ⟨h.1, h.2.1, h.2.2.1.kept hg hr, h.2.2.2⟩
theorem MNew.small {base : Nat} {w : World} {g c : Nat} {ms : List Mk} {most : Int} (h : MNew base w g c ms most) (hm : most ≤ 60) : MSmall ms := ⟨by have := h.1; omega, fun i => by have := h.2.2.2 i; omega⟩

end Go.Proofs.Ytfbindjacmaeoaa
namespace Go.Proofs.Ytfbindjacmaeoaa
open Go Go.RowKit

theorem three_at (y : Nat) (h : y < 3) : ∃ v, (#[.int .i64 0, .int .i64 4, .int .i64 (-1)] : Array Value)[y]? = some (.int .i64 v) := by
  match y, h with
  | 0, _ => exact ⟨_, rfl⟩
  | 1, _ => exact ⟨_, rfl⟩
  | 2, _ => exact ⟨_, rfl⟩
theorem four_at (y : Nat) (h : y < 4) : ∃ v, (#[.int .i64 0, .int .i64 1, .int .i64 1000000, .int .i64 1000001] : Array Value)[y]? = some (.int .i64 v) := by
  match y, h with
  | 0, _ => exact ⟨_, rfl⟩
  | 1, _ => exact ⟨_, rfl⟩
  | 2, _ => exact ⟨_, rfl⟩
  | 3, _ => exact ⟨_, rfl⟩

set_option maxRecDepth 100000 in
set_option maxHeartbeats 1000000 in
theorem cKind (q : Nat) (ao : Option Addr) (n cap : Nat) (w : World) (hc : Cur w q ao n cap) (hv : CodeV w ao n) (hn : n ≤ 4096) :
    Calls Try.prog 47 #[.pointer (some ⟨q, 0, none⟩)] w fun e w' => (∃ x : Int, e = .returned (.int .i64 x)) ∧ Cur w' q ao n cap ∧ w.grownBy w' (some q) := by
  have hq := hc.lt
  go_enter Try.func47, Try.ntmps47
  go_wp2_with fail
  refine (cOnce q ao n cap 14 _ hc hv hn (by omega) (by omega)).mono ?_
  rintro e w1 ⟨⟨x, rfl⟩, c1, g1⟩
  have v1 := hv.grown hc g1
  have hz1 := g1.size
  cases x with
  | false =>
    go_wp2_with fail
    refine (cBelow q ao n cap 3 _ c1 v1 hn (by omega) (by omega)).mono ?_
    rintro e w2 ⟨⟨y, y0, y1, rfl⟩, c2, g2⟩
    go_wp2_with fail
    go_ret
    exact ⟨⟨_, rfl⟩, c2, grown_trans g1 g2⟩
  | true =>
    have ga := World.grownBy_alloc w1 (.cells #[.int .i64 0, .int .i64 4, .int .i64 (-1)] 2) (some q)
    have HV2 := hidP (v1.grown c1 ga)
    have HG := hidP (grown_trans g1 ga)
    clear ga
    go_wp2_with fail
    refine (cBelow q ao n cap 3 _ (c1.alloc _) HV2.out hn (by omega) (by omega)).mono ?_
    rintro e w2 ⟨⟨y, y0, y1, rfl⟩, c2, g2⟩
    obtain ⟨yn, rfl⟩ := Int.eq_ofNat_of_zero_le y0
    obtain ⟨v, hv3⟩ := three_at yn (by omega)
    have ht : w2.cell? ⟨w1.heap.size, yn, none⟩ = some (.int .i64 v) := g2.cell (by rw [World.cell?_alloc_at _ _ _ _ rfl]; exact hv3) (by simp; omega)
    have hy2 : (yn : Int) < 3 := by omega
    have HG2 := hidP (grown_trans HG.out g2)
    clear g1 g2
    go_wp2_with fail
    go_ret
    exact ⟨⟨_, rfl⟩, c2, HG2.out⟩

theorem dMarks_small {width id : Int} {ds : List Dm} (h : DGood width id ds) (hw : width ≤ 3) (i : Nat) : (mat (dMarks ds) i).length ≤ 3 := by
  rcases Nat.lt_or_ge i ds.length with hi | hi
  · rw [dMarks_mat ds i hi]
    have := (h.1 _ (mdnth_mem ds i hi)).2.2.1
    omega
  · simp [mat, dMarks, List.getD, hi]
theorem set_small {ms : List Mk} {y : Nat} {m : Mk} (h : ∀ i, (mat ms i).length ≤ 5) (hm : m.2.length ≤ 5) (i : Nat) : (mat (ms.set y m) i).length ≤ 5 := by
  rcases Nat.lt_or_ge i ms.length with hi | hi
  · rw [mat_set ms y i m hi]; split
    · exact hm
    · exact h i
  · simp [mat, List.getD, hi]

theorem DNew.any {base : Nat} {w : World} {g c : Nat} {ds : List Dm} {most : Int} (h : DNew base w g c ds most) : MNew base w g c (dMarks ds) most := by
  obtain ⟨h1, h2, width, id, h3, h4, h5, h6⟩ := h
  exact ⟨by rw [dMarks_length]; exact h1, by rw [dMarks_length]; exact h2.cap, h2.high _, fun i => by have := dMarks_small h6 h4 i; omega⟩
theorem DNew.good {base : Nat} {w : World} {g c : Nat} {ds : List Dm} {most : Int} (h : DNew base w g c ds most) (hm : most ≤ 60) : marksB (dMarks ds) = true := by
  obtain ⟨h1, h2, width, id, h3, h4, h5, h6⟩ := h
  exact h6.marks (by omega) h3 (by omega) (by omega)

theorem int3 {y : Int} (h0 : 0 ≤ y) (h1 : y < 3) : y = 0 ∨ y = 1 ∨ y = 2 := by omega

set_option maxRecDepth 100000 in
set_option maxHeartbeats 2000000 in
theorem cMarksAny (q : Nat) (ao : Option Addr) (n cap : Nat) (most : Int) (w : World) (hc : Cur w q ao n cap) (hv : CodeV w ao n) (hn : n ≤ 4096) (hm0 : 0 ≤ most) (hm : most ≤ 60) :
    Calls Try.prog 46 #[.pointer (some ⟨q, 0, none⟩), .int .i64 most] w fun e w' => (∃ g c ms, e = .returned (.slice (some ⟨g, 0, none⟩) ms.length c) ∧ MNew w.heap.size w' g c ms most) ∧ Cur w' q ao n cap ∧ w.grownBy w' (some q) := by
  have hq := hc.lt
  obtain ⟨i0, hi0, hz0, hz1, hz2⟩ := info_parts Try.info2
  go_enter Try.func46, Try.ntmps46
  go_wp2_with fail
  refine (cMarks q ao n cap most _ hc hv hn hm0 hm).mono ?_
  rintro e w1 ⟨⟨g, c, ds, rfl, hnew⟩, c1, g1⟩
  have v1 := hv.grown hc g1
  go_wp2_with fail
  refine (cOnce q ao n cap 14 _ c1 v1 hn (by omega) (by omega)).mono ?_
  rintro e w2 ⟨⟨x, rfl⟩, c2, g2⟩
  have g12 := grown_trans g1 g2
  have v2 := hv.grown hc g12
  have hnew2 : DNew w.heap.size w2 g c ds most := ⟨hnew.1, hnew.2.1.kept g2 (by intro k hk; cases hk; exact hq), hnew.2.2⟩
  have HN := hidP hnew2
  have hlen := hnew.1
  clear c1 v1 g1 g2 hnew hnew2
  have HEND : Hid (∀ w', w' = w2 → (∃ g' c' ms, Ending.returned (.slice (some ⟨g, 0, none⟩) ds.length c) = .returned (.slice (some ⟨g', 0, none⟩) ms.length c') ∧ MNew w.heap.size w' g' c' ms most) ∧ Cur w' q ao n cap ∧ w.grownBy w' (some q)) := by
    rintro w' rfl
    exact ⟨⟨g, c, dMarks ds, by rw [dMarks_length], HN.out.any⟩, c2, g12⟩
  cases x with
  | false =>
    go_wp2_with fail
    go_ret
    exact HEND.out _ rfl
  | true =>
    by_cases h0 : ds.length = 0
    · have h0b : ¬ ((0 : Int) < (ds.length : Int)) := by omega
      have H0 := hidP h0
      clear h0
      go_wp2_with fail
      go_ret
      exact HEND.out _ rfl
    · have h0b : (0 : Int) < (ds.length : Int) := by omega
      clear HEND
      go_wp2_with fail
      refine (cBelow q ao n cap ds.length _ c2 v2 hn (by omega) (by omega)).mono ?_
      rintro e w3 ⟨⟨y, y0, y1, rfl⟩, c3, g3⟩
      obtain ⟨yn, rfl⟩ := Int.eq_ofNat_of_zero_le y0
      have hyn : yn < ds.length := by omega
      have g13 := grown_trans g12 g3
      have v3 := hv.grown hc g13
      have N3 : DNew w.heap.size w3 g c ds most := ⟨HN.out.1, HN.out.2.1.kept g3 (by intro k hk; cases hk; exact hq), HN.out.2.2⟩
      have HN3 := hidP N3
      clear g3 g12 c2 v2 HN N3
      go_wp2_with fail
      refine (cBelow q ao n cap 3 _ c3 v3 hn (by omega) (by omega)).mono ?_
      rintro e w4 ⟨⟨z, z0, z1, rfl⟩, c4, g4⟩
      have g14 := grown_trans g13 g4
      have v4 := hv.grown hc g14
      have N4 : DNew w.heap.size w4 g c ds most := ⟨HN3.out.1, HN3.out.2.1.kept g4 (by intro k hk; cases hk; exact hq), HN3.out.2.2⟩
      have HN4 := hidP N4
      have hgl := N4.2.1.lt
      have hcell := N4.2.1.cells yn hyn
      have hfz := World.ownsRow.frozenAt N4.2.1.1
      obtain ⟨hcell0, hcell1⟩ := hcell
      have hat3 := dMarks_small N4.2.2.choose_spec.choose_spec.2.2.2 N4.2.2.choose_spec.choose_spec.2.1 yn
      rw [dMarks_mat ds yn hyn] at hat3
      have HSM : Hid (∀ i, (mat (dMarks ds) i).length ≤ 5) := N4.any.2.2.2
      have hz4 := g14.size
      clear g4 g13 c3 v3 HN3 N4
      rcases int3 z0 z1 with rfl | rfl | rfl
      · have ga := World.grownBy_alloc w4 (.cells #[.int .i64 0, .int .i64 1, .int .i64 1000000, .int .i64 1000001] 2) (some q)
        have HG5 := hidP (grown_trans g14 ga)
        have HV5 := hidP (hv.grown hc (grown_trans g14 ga))
        have HD5 := hidP (HN4.out.2.1.kept ga (by intro k hk; cases hk; exact hq))
        clear ga hcell0 hcell1 hfz
        go_wp2_with fail
        refine (cBelow q ao n cap 4 _ (c4.alloc _) HV5.out hn (by omega) (by omega)).mono ?_
        rintro e w5 ⟨⟨t, t0, t1, rfl⟩, c5, g5⟩
        obtain ⟨tn, rfl⟩ := Int.eq_ofNat_of_zero_le t0
        obtain ⟨v, hv4⟩ := four_at tn (by omega)
        have ht : w5.cell? ⟨w4.heap.size, tn, none⟩ = some (.int .i64 v) := g5.cell (by rw [World.cell?_alloc_at _ _ _ _ rfl]; exact hv4) (by simp; omega)
        have ht2 : (tn : Int) < 4 := by omega
        have D5 := HD5.out.kept g5 (by intro k hk; cases hk; exact hq)
        have hcell0 := (D5.cells yn hyn).1
        have hfz := World.ownsRow.frozenAt D5.1 (yn * 2)
        have HST := hidP (World.ownsRow.stored D5.1 (yn * 2) (.int .i64 v)).2
        have HH := hidP ((D5.high (dMarks ds).length).setId (y := yn) (by rw [dMarks_length]; exact hyn) v)
        have HG6 := hidP (grown_trans HG5.out g5)
        clear g5 D5 HG5 HV5 HD5 c4 v4 g14
        go_wp2_with fail
        go_ret
        refine ⟨⟨g, c, (dMarks ds).set yn (v, mat (dMarks ds) yn), ?_, ?_⟩, c5.grown HST.out (by simp; omega), grown_far HG6.out HST.out (by intro k hk; cases hk; omega)⟩
        · rw [List.length_set, dMarks_length]; rfl
        · refine ⟨?_, ?_, ?_, set_small HSM.out (HSM.out yn)⟩
          · rw [List.length_set, dMarks_length]; exact hlen
          · rw [List.length_set, dMarks_length]; exact HN4.out.2.1.cap
          · rw [List.length_set]; exact HH.out
      · have HC4 := hidP (cAny q ao n cap (mdnth ds yn).2.2.2.length w4 c4 v4 hn (by omega))
        clear hfz
        go_wp2_with fail
        refine HC4.out.mono ?_
        rintro e w5 ⟨⟨g', c', xs, rfl, hxl, hrow⟩, c5, g5⟩
        have D5 := HN4.out.2.1.kept g5 (by intro k hk; cases hk; exact hq)
        have hfz := World.ownsRow.frozenAt D5.1 (yn * 2 + 1)
        replace hcell1 := (D5.cells yn hyn).2
        have HST := hidP (World.ownsRow.stored D5.1 (yn * 2 + 1) (.slice (some ⟨g', 0, none⟩) xs.length c')).2
        have hl2 := hrow.lt2
        have HH := hidP ((D5.high yn).setAt (cap' := c') (y := yn) (by rw [dMarks_length]; exact hyn) (by omega) hl2.2 (by omega) hrow.seg)
        have HG6 := hidP (grown_trans g14 g5)
        clear g5 D5 HC4 c4 v4 g14 hcell0
        go_wp2_with fail
        go_ret
        refine ⟨⟨g, c, (dMarks ds).set yn (mid (dMarks ds) yn, xs), ?_, ?_⟩, c5.grown HST.out (by simp; omega), grown_far HG6.out HST.out (by intro k hk; cases hk; omega)⟩
        · rw [List.length_set, dMarks_length]; rfl
        · refine ⟨?_, ?_, ?_, set_small HSM.out (by simp; omega)⟩
          · rw [List.length_set, dMarks_length]; exact hlen
          · rw [List.length_set, dMarks_length]; exact HN4.out.2.1.cap
          · rw [List.length_set]; exact HH.out
      · have hrw := HN4.out.2.1.2.1 _ (mdnth_mem ds yn hyn)
        have HRW := hidP hrw
        have hrl := hrw.1.lt2
        have hrn := hrw.2
        have HD5 := hidP (HN4.out.2.1.kept (World.grownBy_alloc w4 (.cells #[.int .i64 1] 2) none) (by intro k hk; cases hk))
        have hgne : some g ≠ some (mdnth ds yn).2.1 := fun e => hrn (by injection e with e; exact e.symm)
        have hgl5 := HD5.out.lt
        clear hfz hrw
        go_wp2_with (at_builtin; refine wpList_append_lies _ rfl (.tmp 53) (.tmp 54) 36 rfl w.heap.size 2 i0 _ 1 8 Try.underlying36 hi0 hz0 hz1 hz2 rfl (by omega) (.slice (some ⟨(mdnth ds yn).2.1, 0, none⟩) (mdnth ds yn).2.2.2.length (mdnth ds yn).2.2.1) (mdnth ds yn).2.2.2.length ((mdnth ds yn).2.2.2.map (Value.int .i64)) rfl (World.ownsRow.alloc HRW.out.1 _) ⟨w4.heap.size, 0, none⟩ 1 1 [.int .i64 1] rfl rfl (World.news_of_block (cs := #[.int .i64 1]) (t := 2) (fr := (0, 0)) (heap_alloc_new w4 _)) (by simp [Value.oneCell']) (by omega) (by unfold maxLen; omega) (by omega) (by simp; omega) (w4.heap.size + 1) (by simp) ?_; intro gg cc w5 hown hgrow hat hlt1; have hst := (cell_grown hgl5.2 hgrow hgne).trans (HD5.out.cells yn hyn).2; have hfz := (frozen_grown hgl5.2 hgrow hgne).trans (World.ownsRow.frozenAt HD5.out.1 (yn * 2 + 1)))
        go_ret
        have hxl : ((mdnth ds yn).2.2.2 ++ [1]).length = (mdnth ds yn).2.2.2.length + 1 := by simp
        have hrow5 : Row w.heap.size w5 gg cc ((mdnth ds yn).2.2.2 ++ [1]) := by unfold Row; rw [hxl, List.map_append]; exact hown
        have hl2 := hrow5.lt2
        have hggne : gg ≠ g := by
          rcases hat with h | h
          · simp [Value.ownBlock] at h; omega
          · omega
        have HH := ((HD5.out.highBut hyn hgrow).setAt (cap' := cc) (y := yn) (by rw [dMarks_length]; exact hyn) hl2.1 hl2.2 hggne hrow5.seg)
        rw [hxl] at HH
        have HST := grown_setCell w5 g (yn * 2 + 1) (.slice (some ⟨gg, 0, none⟩) ((mdnth ds yn).2.2.2.length + 1) cc)
        have HG5 := grown_far (grown_far g14 (World.grownBy_alloc w4 (.cells #[.int .i64 1] 2) none) (by simp)) hgrow (by intro k hk; simp [Value.ownBlock] at hk; omega)
        refine ⟨⟨g, c, (dMarks ds).set yn (mid (dMarks ds) yn, (mdnth ds yn).2.2.2 ++ [1]), ?_, ?_⟩, ((c4.alloc _).grown hgrow (by simp [Value.ownBlock]; omega)).grown HST (by simp; omega), grown_far HG5 HST (by intro k hk; cases hk; omega)⟩
        · rw [List.length_set, dMarks_length]; rfl
        · refine ⟨?_, ?_, ?_, set_small HSM.out (by rw [hxl]; omega)⟩
          · rw [List.length_set, dMarks_length]; exact hlen
          · rw [List.length_set, dMarks_length]; exact HN4.out.2.1.cap
          · rw [List.length_set]; exact HH

end Go.Proofs.Ytfbindjacmaeoaa
namespace Go.Proofs.Ytfbindjacmaeoaa
open Go Go.RowKit

/-- The blocks from lo on and ahead of hi are as they were. -/
def Kin (lo hi : Nat) (w w' : World) : Prop := w.heap.size ≤ w'.heap.size ∧ ∀ i, lo ≤ i → i < hi → w'.heap[i]? = w.heap[i]?
theorem Kin.refl (lo hi : Nat) (w : World) : Kin lo hi w w := ⟨Nat.le_refl _, fun _ _ _ => rfl⟩
theorem Kin.grown {lo hi : Nat} {w w1 w2 : World} {r : Option Nat} (h : Kin lo hi w w1) (hh : hi ≤ w.heap.size) (g : w1.grownBy w2 r) (hr : ∀ k, r = some k → k < lo ∨ hi ≤ k) : Kin lo hi w w2 :=
  ⟨Nat.le_trans h.1 g.size, fun i h1 h2 => (g.block i (by have := h.1; omega) (fun e => by have := hr i e.symm; omega)).trans (h.2 i h1 h2)⟩
theorem MNew.kin {base : Nat} {w w' : World} {g c : Nat} {ms : List Mk} {most : Int} (h : MNew base w g c ms most) (k : Kin base w.heap.size w w') : MNew base w' g c ms most := by
  obtain ⟨h1, h2, ⟨a1, a2, a3, a4⟩, h4⟩ := h
  have hc : ∀ b j, base ≤ b → b < w.heap.size → w'.cell? ⟨b, j, none⟩ = w.cell? ⟨b, j, none⟩ := fun b j hb hl => by simp only [World.cell?, k.2 b hb hl]
  refine ⟨h1, h2, ⟨a1, Nat.lt_of_lt_of_le a2 k.1, fun i hi => ?_, fun i hi his => ?_⟩, h4⟩
  · obtain ⟨c0, v, c1⟩ := a3 i hi
    exact ⟨(hc g _ a1 a2).trans c0, v, (hc g _ a1 a2).trans c1⟩
  · obtain ⟨b, cap, e, hb, hbs, hbg, hs⟩ := a4 i hi his
    exact ⟨b, cap, (hc g _ a1 a2).trans e, hb, Nat.lt_of_lt_of_le hbs k.1, hbg, fun j hj => (hc b _ hb hbs).trans (hs j hj)⟩

end Go.Proofs.Ytfbindjacmaeoaa
