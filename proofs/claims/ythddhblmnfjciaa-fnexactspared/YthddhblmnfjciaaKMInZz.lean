/-
  The program's marksIn: the marks of some knots, by number; sameKnot; slices.EqualFunc.
-/
import Derived.Test.YthddhblmnfjciaaKTopZz
import Derived.Test.YthddhblmnfjciaaKImpZz
import Derived.Shelf.SlSortCmp.NoneTotal
namespace Go.Proofs.Ythddhblmnfjciaa
open Go Go.RowKit

/-- A row of n marks that a loop fills, the first k of them in. -/
def SFill (w : World) (b k n : Nat) (ds : List Sm) : Prop := ∃ R, w.heap[b]? = some (.cells R 93 (0, 0)) ∧ R.size = n * 2 ∧ ∀ i, i < k → R[i * 2]? = some (.int .i64 (snth ds i).1) ∧ R[i * 2 + 1]? = some (.slice (snth ds i).2.1 (snth ds i).2.2.2.length (snth ds i).2.2.1)
theorem SFill.lt {w : World} {b k n : Nat} {ds : List Sm} (h : SFill w b k n ds) : b < w.heap.size := by
  obtain ⟨R, h1, _⟩ := h
  rcases Nat.lt_or_ge b w.heap.size with h2 | h2
  · exact h2
  · rw [Array.getElem?_eq_none h2] at h1; cases h1
theorem SFill.below {w w' : World} {b k n : Nat} {ds : List Sm} (h : SFill w b k n ds) (hw : Below w.heap.size w w') : SFill w' b k n ds := by
  have hl := h.lt
  obtain ⟨R, h1, h2⟩ := h
  exact ⟨R, (hw.block b hl).trans h1, h2⟩
theorem SFill.spare {w : World} {b k n : Nat} {ds : List Sm} (h : SFill w b k n ds) (j : Nat) (hj : j < n * 2) : (∃ v, w.cell? ⟨b, j, none⟩ = some v) ∧ w.frozen? ⟨b, j, none⟩ = false := by
  obtain ⟨R, h1, h2, _⟩ := h
  exact ⟨⟨R[j]'(by omega), by simp [World.cell?, h1]⟩, by simp [World.frozen?, h1]⟩
theorem SFill.step {w : World} {b k n : Nat} {ds : List Sm} (h : SFill w b k n ds) (hk : k < n) : SFill ((w.setCell ⟨b, k * 2, none⟩ (.int .i64 (snth ds k).1)).setCell ⟨b, k * 2 + 1, none⟩ (.slice (snth ds k).2.1 (snth ds k).2.2.2.length (snth ds k).2.2.1)) b (k + 1) n ds := by
  obtain ⟨R, h1, h2, h3⟩ := h
  refine ⟨(R.setIfInBounds (k * 2) (.int .i64 (snth ds k).1)).setIfInBounds (k * 2 + 1) (.slice (snth ds k).2.1 (snth ds k).2.2.2.length (snth ds k).2.2.1), ?_, by simp [h2], fun i hi => ?_⟩
  · unfold World.setCell
    simp only [Array.getElem?_modify, if_true, h1]
    rfl
  · rcases Nat.lt_or_ge i k with hik | hik
    · obtain ⟨a, b'⟩ := h3 i hik
      constructor
      · rw [Array.getElem?_setIfInBounds, if_neg (by omega), Array.getElem?_setIfInBounds, if_neg (by omega)]; exact a
      · rw [Array.getElem?_setIfInBounds, if_neg (by omega), Array.getElem?_setIfInBounds, if_neg (by omega)]; exact b'
    · obtain rfl : i = k := by omega
      constructor
      · rw [Array.getElem?_setIfInBounds, if_neg (by omega), Array.getElem?_setIfInBounds, if_pos rfl, if_pos (by omega)]
      · rw [Array.getElem?_setIfInBounds, if_pos rfl, if_pos (by simp; omega)]
theorem SFill.view {w : World} {b : Nat} {ds : List Sm} (h : SFill w b ds.length ds.length ds) : SView w (some ⟨b, 0, none⟩) ds := by
  refine Or.inr ⟨b, 0, rfl, h.lt, fun i hi => ?_⟩
  obtain ⟨R, h1, h2, h3⟩ := h
  obtain ⟨a, c⟩ := h3 i hi
  rw [Nat.zero_add]
  exact ⟨by simp [World.cell?, h1]; exact a, by simp [World.cell?, h1]; exact c⟩

set_option maxHeartbeats 400000 in
theorem iKMark (d : Sm) (x y z : Int) (w : World) :
    Calls Try.prog 206 #[.agg #[.int .i64 d.1, .slice d.2.1 d.2.2.2.length d.2.2.1, .int .i64 x, .int .i64 y, .int .i64 z]] w fun e w' => e = .returned (.agg #[.int .i64 d.1, .slice d.2.1 d.2.2.2.length d.2.2.1]) ∧ Below w.heap.size w w' := by
  have L0 : Hid (Below w.heap.size w ((w.alloc (.cells #[.int .i64 d.1, .slice d.2.1 d.2.2.2.length d.2.2.1, .int .i64 x, .int .i64 y, .int .i64 z] 95)).alloc (.cells #[.int .i64 d.1, .slice d.2.1 d.2.2.2.length d.2.2.1] 93))) := ((Below.refl _ _).alloc (Nat.le_refl _) _).alloc (by simp) _
  go_enter Try.func206, Try.ntmps206
  go_wp2
  refine bodyPost_ret (v := .agg #[.int .i64 d.1, .slice d.2.1 d.2.2.2.length d.2.2.1]) (by simp [results, Try.results206, go_sem]) rfl ?_
  exact ⟨rfl, L0.out⟩

set_option maxRecDepth 100000 in
set_option maxHeartbeats 1000000 in
theorem iMarksIn (b off cap : Nat) (ks : List Kn) (ds : List Sm) (w : World) (h0 : 0 < ks.length) (hn : ks.length ≤ 1048576) (hb : b < w.heap.size) (hk : KSeg w b off ks) (hs : SSeg5 w b off ds) (hl : ds.length = ks.length) :
    Calls Try.prog 74 #[.slice (some ⟨b, off, none⟩) ks.length cap] w fun e w' => ∃ g ds', e = .returned (.slice (some ⟨g, 0, none⟩) ks.length ks.length) ∧ ds'.Perm ds ∧ SortedBy smid ds' ∧ SSeg w' g 0 ds' ∧ g < w'.heap.size ∧ Below w.heap.size w w' := by
  have hmk := run_make_rows (P := Try.prog) 34 93 (.agg #[.int .i64 0, .slice none 0 0]) 2 32 Try.underlying34 Try.info93 .i64 .i64 ks.length (by omega) (by omega)
  have HK := hidP hk
  have HS := hidP hs
  clear hk hs
  go_enter Try.func74, Try.ntmps74
  go_wp2
  clear hmk
  go_loopw [11] (fun i wr => ∃ k : Nat, k ≤ ks.length ∧ i = .int .i64 k ∧ SFill wr w.heap.size k ks.length ds ∧ Below w.heap.size w wr) (fun i _ => ks.length - (intOf i).toNat)
  case atStart => exact ⟨0, Nat.zero_le _, rfl, ⟨_, heap_alloc_new w _, by rw [size_madeCells], fun i hi => by omega⟩, (Below.refl _ _).alloc (Nat.le_refl _) _⟩
  case round =>
    obtain ⟨k, hk, rfl, hf, L⟩ := hrel
    by_cases hlt : k < ks.length
    · obtain ⟨c0, ⟨ao, ca, c1, hv⟩, c2, c3, c4⟩ := (HK.out k hlt).below hb L
      obtain ⟨d0, d1⟩ := HS.out k (by omega)
      have d1' := (L.cell (p := ⟨b, off + k * 5 + 1, none⟩) hb).trans d1
      have d0' := (L.cell (p := ⟨b, off + k * 5, none⟩) hb).trans d0
      clear c0 c1 hv d0 d1
      generalize knth ks k = kn at *
      have hz := L.size
      have hi0 : (0 : Int) ≤ (k : Int) := Int.natCast_nonneg _
      have hi1 : (k : Int) < (ks.length : Int) := by omega
      obtain ⟨W1, hW1⟩ : ∃ W1, W1 = wr.alloc (.cells #[.int .i64 (snth ds k).1, .slice (snth ds k).2.1 (snth ds k).2.2.2.length (snth ds k).2.2.1, .int .i64 kn.2.1, .int .i64 kn.2.2.1, .int .i64 kn.2.2.2] 95) := ⟨_, rfl⟩
      have L1 : Below wr.heap.size wr W1 := by rw [hW1]; exact alloc_below wr _
      have x0 : W1.cell? ⟨wr.heap.size, 0, none⟩ = some (.int .i64 (snth ds k).1) := by rw [hW1]; go_simp
      have x1 : W1.cell? ⟨wr.heap.size, 1, none⟩ = some (.slice (snth ds k).2.1 (snth ds k).2.2.2.length (snth ds k).2.2.1) := by rw [hW1]; go_simp
      have x2 : W1.cell? ⟨wr.heap.size, 2, none⟩ = some (.int .i64 kn.2.1) := by rw [hW1]; go_simp
      have x3 : W1.cell? ⟨wr.heap.size, 3, none⟩ = some (.int .i64 kn.2.2.1) := by rw [hW1]; go_simp
      have x4 : W1.cell? ⟨wr.heap.size, 4, none⟩ = some (.int .i64 kn.2.2.2) := by rw [hW1]; go_simp
      have HF1 := hidP (And.intro (hf.below L1) (chain L L1))
      have hz1 := L1.size
      generalize hdv : snth ds k = d at *
      have HDV := hidP hdv
      clear hf L L1 hdv
      go_upto_region 5 with fail
      rw [← hW1]
      clear hW1 c2 c3 c4 d0' d1'
      go_wp2_with fail
      refine (iKMark d _ _ _ W1).mono ?_
      rintro e w2 ⟨rfl, L2⟩
      have hf2 := HF1.out.1.below L2
      obtain ⟨⟨v0, e0⟩, f0⟩ := hf2.spare (k * 2) (by omega)
      obtain ⟨⟨v1, e1⟩, f1⟩ := hf2.spare (k * 2 + 1) (by omega)
      have HE : Hid (SFill ((w2.setCell ⟨w.heap.size, k * 2, none⟩ (.int .i64 d.1)).setCell ⟨w.heap.size, k * 2 + 1, none⟩ (.slice d.2.1 d.2.2.2.length d.2.2.1)) w.heap.size (k + 1) ks.length ds ∧ Below w.heap.size w ((w2.setCell ⟨w.heap.size, k * 2, none⟩ (.int .i64 d.1)).setCell ⟨w.heap.size, k * 2 + 1, none⟩ (.slice d.2.1 d.2.2.2.length d.2.2.1))) := by
        rw [← HDV.out]
        exact ⟨hf2.step hlt, set_below (set_below (chain HF1.out.2 L2) (Nat.le_refl _) _) (Nat.le_refl _) _⟩
      clear hf2 L2 HF1 x0 x1 x2 x3 x4
      go_wp2_with fail
      go_roundw
      case rel => exact ⟨k + 1, by omega, by go_num, HE.out.1, HE.out.2⟩
      case measure => simp [intOf]; omega
    · obtain rfl : k = ks.length := by omega
      have hf2 : SFill wr w.heap.size ds.length ds.length ds := by rw [hl]; exact hf
      have HC := hidP (iSortId (some ⟨w.heap.size, 0, none⟩) ks.length ds wr (by omega) (by omega) hf2.view)
      rw [hl] at HC
      have HL := hidP L
      clear hf hf2 L
      go_wp2_with fail
      refine HC.out.mono ?_
      rintro e w2 ⟨g, ds', rfl, hp, hso, hsg, hg1, hg2, L2⟩
      have HE : Hid (ds'.Perm ds ∧ SortedBy smid ds' ∧ SSeg w2 g 0 ds' ∧ g < w2.heap.size ∧ Below w.heap.size w w2) := ⟨hp, hso, hsg, hg2, chain HL.out L2⟩
      clear hp hso hsg hg1 hg2 L2 HC HL
      go_wp2_with fail
      go_ret
      exact ⟨g, ds', rfl, HE.out⟩

end Go.Proofs.Ythddhblmnfjciaa
