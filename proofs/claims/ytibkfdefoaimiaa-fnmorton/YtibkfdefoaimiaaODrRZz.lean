/-
  The given draw of marks on the line.
  The given DrawRanked, walked.
-/
import Derived.Test.YtibkfdefoaimiaaMAnyZz
import Derived.Test.YtibkfdefoaimiaaLast
import Derived.Test.YtibkfdefoaimiaaODrawZz
namespace Go.Proofs.Ytibkfdefoaimiaa
open Go Go.RowKit

/-- Marks of the shape of ms, whatever their numbers, that may be written over. -/
def FL (base : Nat) (w : World) (g : Nat) (ms : List Mk) : Prop := base ≤ g ∧ g < w.heap.size ∧ ∀ i, i < ms.length → w.cell? ⟨g, i * 2, none⟩ = some (.int .i64 (mid ms i)) ∧
  ∃ b cap, w.cell? ⟨g, i * 2 + 1, none⟩ = some (.slice (some ⟨b, 0, none⟩) (mat ms i).length cap) ∧ base ≤ b ∧ b < w.heap.size ∧ b ≠ g ∧ (∀ t, t < (mat ms i).length → ∃ v, w.cell? ⟨b, t, none⟩ = some (.int .i64 v)) ∧ ∀ t, w.frozen? ⟨b, t, none⟩ = false

theorem FHigh.fl {base : Nat} {w : World} {g : Nat} {ms : List Mk} (h : FHigh base w g ms ms.length) : FL base w g ms :=
  ⟨h.1, h.2.1, fun i hi => ⟨(h.2.2.1 i hi).1, by
    obtain ⟨b, cap, e, h1, h2, h3, h4, h5⟩ := h.2.2.2 i hi (by omega)
    exact ⟨b, cap, e, h1, h2, h3, fun t ht => ⟨_, by have := h4 t ht; rwa [Nat.zero_add] at this⟩, h5⟩⟩⟩
theorem frozen_block {w w' : World} {b t : Nat} (h : w'.heap[b]? = w.heap[b]?) : w'.frozen? ⟨b, t, none⟩ = w.frozen? ⟨b, t, none⟩ := by simp only [World.frozen?]; rw [h]
theorem FL.kept {base : Nat} {w w' : World} {g : Nat} {ms : List Mk} {r : Option Nat} (h : FL base w g ms) (hg : w.grownBy w' r) (hr : ∀ q, r = some q → q < base) : FL base w' g ms := by
  have hne : ∀ k, base ≤ k → some k ≠ r := fun k hk e => by have := hr k e.symm; omega
  obtain ⟨h1, h2, h3⟩ := h
  refine ⟨h1, Nat.lt_of_lt_of_le h2 hg.size, fun i hi => ?_⟩
  obtain ⟨e0, b, cap, e1, b1, b2, b3, b4, b5⟩ := h3 i hi
  refine ⟨by rw [cell_grown h2 hg (hne g h1)]; exact e0, b, cap, by rw [cell_grown h2 hg (hne g h1)]; exact e1, b1, Nat.lt_of_lt_of_le b2 hg.size, b3, fun t ht => ?_, fun t => ?_⟩
  · rw [cell_grown b2 hg (hne b b1)]; exact b4 t ht
  · rw [frozen_block (hg.block b b2 (hne b b1))]; exact b5 t
theorem FL.write {base : Nat} {w : World} {g : Nat} {ms : List Mk} (h : FL base w g ms) {b' t' : Nat} (hb : b' ≠ g) {u : Value} (hu : w.cell? ⟨b', t', none⟩ = some u) (v : Int) : FL base (w.setCell ⟨b', t', none⟩ (.int .i64 v)) g ms := by
  obtain ⟨h1, h2, h3⟩ := h
  have hsz : (w.setCell ⟨b', t', none⟩ (.int .i64 v)).heap.size = w.heap.size := setCell_size _ _ _
  have hgc : ∀ o, (w.setCell ⟨b', t', none⟩ (.int .i64 v)).cell? ⟨g, o, none⟩ = w.cell? ⟨g, o, none⟩ := fun o => World.cell?_of_block (Below.heap_setCell w ⟨b', t', none⟩ _ g (Ne.symm hb))
  refine ⟨h1, by rw [hsz]; exact h2, fun i hi => ?_⟩
  obtain ⟨e0, b, cap, e1, b1, b2, b3, b4, b5⟩ := h3 i hi
  refine ⟨by rw [hgc]; exact e0, b, cap, by rw [hgc]; exact e1, b1, by rw [hsz]; exact b2, b3, fun t ht => ?_, fun t => by rw [World.frozen?_setCell]; exact b5 t⟩
  by_cases e : b = b'
  · subst e
    by_cases et : t = t'
    · subst et; exact ⟨v, World.cell?_setCell_same _ _ _ hu⟩
    · rw [cell_setOther _ _ _ _ _ (by omega)]; exact b4 t ht
  · rw [World.cell?_of_block (Below.heap_setCell w ⟨b', t', none⟩ _ b e)]; exact b4 t ht
theorem FL.marks {base : Nat} {w : World} {g : Nat} {ms : List Mk} (h : FL base w g ms) (hs : ∀ i, (mat ms i).length ≤ 5) (hl : ms.length ≤ 60) : ∃ ns : List Mk, ns.length = ms.length ∧ MView w (some ⟨g, 0, none⟩) ns ∧ MSmall ns := by
  obtain ⟨h1, h2, h3⟩ := h
  have hx : ∀ i, i < ms.length → ∃ xs : List Int, xs.length = (mat ms i).length ∧ ∃ b cap, w.cell? ⟨g, i * 2 + 1, none⟩ = some (.slice (some ⟨b, 0, none⟩) xs.length cap) ∧ b < w.heap.size ∧ Seg w b 0 xs := fun i hi => by
    obtain ⟨e0, b, cap, e1, b1, b2, b3, b4, b5⟩ := h3 i hi
    refine ⟨tabL (fun t => if ht : t < (mat ms i).length then (b4 t ht).choose else 0) (mat ms i).length, by rw [tabL_length], b, cap, by rw [tabL_length]; exact e1, b2, fun t ht => ?_⟩
    rw [tabL_length] at ht
    have := (b4 t ht).choose_spec
    rw [Nat.zero_add, this]
    simp [nth, tabL, ht]
  refine ⟨(List.range ms.length).map (fun i => if hi : i < ms.length then (mid ms i, (hx i hi).choose) else (0, [])), by simp, ?_, ?_⟩
  · refine Or.inr ⟨g, 0, rfl, h2, fun i hi => ?_⟩
    have hi' : i < ms.length := by simpa using hi
    have em : mnth ((List.range ms.length).map (fun i => if hi : i < ms.length then (mid ms i, (hx i hi).choose) else (0, []))) i = (mid ms i, (hx i hi').choose) := by simp [mnth, hi']
    obtain ⟨_, b, cap, e1, b2, s⟩ := (hx i hi').choose_spec
    rw [Nat.zero_add, em]
    exact ⟨(h3 i hi').1, _, cap, e1, Or.inr ⟨b, 0, rfl, b2, s⟩⟩
  · refine ⟨by simp; omega, fun i => ?_⟩
    by_cases hi' : i < ms.length
    · have em : mat ((List.range ms.length).map (fun i => if hi : i < ms.length then (mid ms i, (hx i hi).choose) else (0, []))) i = (hx i hi').choose := by simp [mat, hi']
      rw [em, (hx i hi').choose_spec.1]
      have := hs i
      omega
    · simp [mat, hi']
end Go.Proofs.Ytibkfdefoaimiaa
namespace Go.Proofs.Ytibkfdefoaimiaa
open Go Go.RowKit

set_option maxRecDepth 100000 in
set_option maxHeartbeats 4000000 in
theorem cRankedD (ao : Option Addr) (n cap : Nat) (w : World) (hv : CodeV w ao n) (hn : n ≤ 4096) :
    Calls Try.prog 16 #[.slice ao n cap] w fun e w' => (∃ g c ns, e = .returned (.slice (some ⟨g, 0, none⟩) ns.length c) ∧ MView w' (some ⟨g, 0, none⟩) ns ∧ MSmall ns ∧ ns.length ≤ 60) ∧ Below w.heap.size w w' := by
  go_enter Try.func16, Try.ntmps16
  go_wp2_with fail
  refine (cNew ao n cap _ hv hn).mono ?_
  rintro e w1 ⟨rfl, c1, L1⟩
  have hv1 := hv.below (Nat.le_refl _) L1
  go_wp2_with fail
  refine (cMarksAnyF _ ao n cap 8 _ c1 hv1 hn (by omega) (by omega)).mono ?_
  rintro e w2 ⟨⟨g, c, ms, rfl, hf1, hf2, hf3, hf4, hf5⟩, c2, g2⟩
  have L2 : Below w.heap.size w w2 := L1.grown g2 L1.size (by intro k hk; cases hk; exact Nat.le_refl _)
  have hq1 := c1.lt
  have f2 := hf3.fl
  have H4 := hidP hf4
  have H5 := hidP hf5
  have hlen : ms.length ≤ 8 := by omega
  obtain ⟨Bs, hBs⟩ : ∃ Bs, w1.heap.size = Bs := ⟨_, rfl⟩
  rw [hBs] at f2 hq1
  clear hv1 c1 g2 L1 hf3 hf4 hf5 hf1 hBs
  go_wp2_with fail
  go_loopw [5] (fun i wr => ∃ k : Nat, k ≤ ms.length ∧ i = .int .i64 k ∧ FL Bs wr g ms ∧ Cur wr w.heap.size ao n cap ∧ Below w.heap.size w wr) (fun i _ => ms.length - (intOf i).toNat)
  case atStart => exact ⟨0, Nat.zero_le _, rfl, f2, c2, L2⟩
  case round =>
    obtain ⟨k, hk, rfl, f, cc, L⟩ := hrel
    clear f2 c2 L2
    by_cases hlt : k < ms.length
    · have hat5 := H4.out k
      have HL := hidP L
      have HC := hidP cc
      have HF := hidP f
      obtain ⟨N, hN⟩ : ∃ N, (mat ms k).length = N := ⟨_, rfl⟩
      have HN := hidP hN
      rw [hN] at hat5
      clear L cc f hN
      go_wp2_with fail
      go_loopw [6] (fun i wq => ∃ t : Nat, t ≤ N ∧ i = .int .i64 t ∧ FL Bs wq g ms ∧ Cur wq w.heap.size ao n cap ∧ Below w.heap.size w wq) (fun i _ => N - (intOf i).toNat)
      case atStart => exact ⟨0, Nat.zero_le _, rfl, HF.out, HC.out, HL.out⟩
      case round =>
        obtain ⟨t, ht, rfl, f, cc, L⟩ := hrel
        clear HL HC HF
        obtain ⟨f1, f2, f3⟩ := id f
        obtain ⟨e0, b, cb, e1, b1, b2, b3, b4, b5⟩ := f3 k hlt
        rw [HN.out] at e1 b4
        have hk0 : (0 : Int) ≤ (k : Int) := Int.natCast_nonneg _
        have hkl : (k : Int) < (ms.length : Int) := by omega
        by_cases htn : t < N
        · obtain ⟨v, hv4⟩ := b4 t htn
          have hfz := b5 t
          have ht0 : (0 : Int) ≤ (t : Int) := Int.natCast_nonneg _
          have htl : (t : Int) < (N : Int) := by omega
          have HF := hidP f
          have HC := hidP cc
          have HL := hidP L
          clear f cc L f1 f2 f3 e0 b4 b5
          go_wp2_with fail
          refine wp_region_calm (S := fun V' => V'.cell? ⟨g, k * 2 + 1, none⟩ = some (.slice (some ⟨b, 0, none⟩) N cb) ∧ V'.cell? ⟨b, t, none⟩ = some (.int .i64 v)) (fuel := 0)
            [0, 1, 2, 3, 4, 5, 6, 7, 8, 9, 10, 11, 12, 13, 14, 15] _ rfl (by kernel_rfl) (by kernel_rfl) (by kernel_rfl) (by kernel_rfl) (by kernel_rfl) (by kernel_rfl) (by kernel_rfl) ⟨e1, hv4⟩ (fun hS => ?_)
          simp only [List.pop_toArray, List.dropLast]
          iterate 16
            refine ⟨_, rfl, ?_⟩
            apply Exists.intro
            refine ⟨Or.inl ⟨by rfl, fun w' hw' => ?_⟩, ?_⟩
            · first
              | (go_simp; done)
              | (go_simp; with_reducible rfl)
            simp only [Act.put, List.getElem_toArray, List.getElem_cons_succ, List.getElem_cons_zero, List.setIfInBounds_toArray, List.set_cons_zero, List.set_cons_succ]
          refine wpAnyH_done (by kernel_rfl) ?_ _
          simp only [Exit.then]
          go_wp2_with fail
          refine NoPanic.normal ?_
          have HW := hidP (fun z => HF.out.write b3 hv4 z)
          have HG := hidP (grown_setCell wr b t)
          clear e1 hv4 hfz hS
          go_wp2_with fail
          go_roundw
          case rel =>
            refine ⟨t + 1, by omega, by go_num, HW.out _, ?_, ?_⟩
            · exact (HC.out.grown (HG.out _) (by simp; omega)).drew
            · exact (HL.out.grown (HG.out _) HL.out.size (by intro q hq; cases hq; omega)).drew
          case measure => simp [intOf]; omega
        · have htb : ¬ ((t : Int) < (N : Int)) := by omega
          have HF := hidP f
          have HC := hidP cc
          have HL := hidP L
          clear f cc L f1 f2 f3 b4 b5
          go_wp2_with fail
          go_roundw
          case rel => exact ⟨k + 1, by omega, by go_num, HF.out, HC.out, HL.out⟩
          case measure => simp [intOf]; omega
    · have hv3 := hv.below (Nat.le_refl _) L
      go_wp2_with fail
      refine (cOnce _ ao n cap 12 _ cc hv3 hn (by omega) (by omega)).mono ?_
      rintro e w5 ⟨⟨x, rfl⟩, c5, g5⟩
      have L5 : Below w.heap.size w w5 := L.grown g5 L.size (by intro k hk; cases hk; exact Nat.le_refl _)
      have f5 := f.kept g5 (by intro q hq; cases hq; exact hq1)
      clear f cc L g5 hv3
      have HEND : Hid (∀ W, FL Bs W g ms → Below w.heap.size w W → (∃ g' c' ns, Ending.returned (.slice (some ⟨g, 0, none⟩) ms.length c) = .returned (.slice (some ⟨g', 0, none⟩) ns.length c') ∧ MView W (some ⟨g', 0, none⟩) ns ∧ MSmall ns ∧ ns.length ≤ 60) ∧ Below w.heap.size w W) := fun W hf hb => by
        obtain ⟨ns, h1, h2, h3⟩ := hf.marks H4.out (by omega)
        exact ⟨⟨g, c, ns, by rw [h1], h2, h3, by omega⟩, hb⟩
      cases x with
      | false =>
        go_wp2_with fail
        go_ret
        exact HEND.out _ f5 L5
      | true =>
        by_cases h0 : ms.length = 0
        · have h0b : ¬ ((0 : Int) < (ms.length : Int)) := by omega
          have H0 := hidP h0
          clear h0
          go_wp2_with fail
          go_ret
          exact HEND.out _ f5 L5
        · have h0b : (0 : Int) < (ms.length : Int) := by omega
          have hp1 := H5.out 0 (by omega)
          obtain ⟨f1, f2, f3⟩ := id f5
          obtain ⟨e0, b, cb, e1, b1, b2, b3, b4, b5⟩ := f3 0 (by omega)
          obtain ⟨v, hv4⟩ := b4 0 (by omega)
          have hfz := b5 0
          have hpl : (0 : Int) < ((mat ms 0).length : Int) := by omega
          simp only [Nat.zero_mul, Nat.zero_add] at e1
          have HW := hidP (f5.write b3 hv4 (-1))
          have HB := hidP (L5.grown (grown_setCell w5 b 0 (.int .i64 (-1))) L5.size (by intro q hq; cases hq; have := L5.size; omega))
          clear f1 f2 f3 b4 b5 e0 f5 L5
          go_wp2_with fail
          go_ret
          exact HEND.out _ HW.out HB.out
end Go.Proofs.Ytibkfdefoaimiaa
