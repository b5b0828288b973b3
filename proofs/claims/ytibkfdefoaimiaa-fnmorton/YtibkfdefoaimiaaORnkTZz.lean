/-
  The given Ranked at every list of marks.
-/
import Derived.Test.YtibkfdefoaimiaaORnkSZz
import Derived.Test.YtibkfdefoaimiaaMMarkZz
namespace Go.Proofs.Ytibkfdefoaimiaa
open Go Go.RowKit

theorem ranks_marks {ds : List Sm} (h : marksB (smMarks ds) = true) : ranksS ds = rankL (smMarks ds) := by
  unfold ranksS rankL rankB
  rw [h, Bool.true_and, ← allLine_marks, pairs_marks]

theorem rises8 {ms : List Mk} (h : marksB ms = true) {i j : Nat} (hij : i < j) (hj : j < ms.length) : mid ms i < mid ms j := by
  induction j with
  | zero => omega
  | succ j ih =>
    have h1 := ((mOkAt_iff ms (j + 1)).1 (marksB_at h hj)).2.2.2.2
    simp at h1
    rcases Nat.lt_or_ge i j with h2 | h2
    · have := ih h2 (by omega); omega
    · rw [show i = j by omega]; exact h1

set_option maxRecDepth 100000 in
set_option maxHeartbeats 1000000 in
theorem sRanked (ao : Option Addr) (cap : Nat) (ms : List Mk) (w : World) (hv : MView w ao ms) (hsm : MSmall ms) :
    Calls Try.prog 23 #[.slice ao ms.length cap] w fun e w' => ∃ g c, e = .returned (.slice (some ⟨g, 0, none⟩) (rankL ms).length c) ∧ NRow w.heap.size w' g c (rankL ms) ∧ Below w.heap.size w w' := by
  have HM : Hid (∀ W, Below w.heap.size w W → Calls Try.prog 56 #[.slice ao ms.length cap] W fun e w' => e = .returned (.bool (marksB ms)) ∧ ∃ n, w' = W.drewN n) := fun W L => sMarks ao cap ms W (hv.below (Nat.le_refl _) L) hsm
  have LA := alloc_belowK w (.cells #[] 2)
  rcases hb : marksB ms with _ | _
  · have HR := hidP (rankL_out (ms := ms) (by simp [rankB, hb]))
    rw [hb] at HM
    have HN := hidP (NRow.start w w.heap.size (Nat.le_refl _))
    have HLA := hidP LA
    clear hb hv
    go_enter Try.func23, Try.ntmps23
    go_wp2_with (go_at_call 56; refine (HM.out _ HLA.out).mono ?_; rintro e w1 ⟨rfl, n1, rfl⟩)
    go_ret
    exact ⟨_, 0, by rw [HR.out]; rfl, by rw [HR.out]; exact HN.out.below (Nat.le_refl _) (below_drewN (Below.refl _ _) n1), below_drewN HLA.out n1⟩
  by_cases h0 : 0 < ms.length
  · obtain ⟨ds, hds, hsv, hsl⟩ := hv.sview
    have hlen : ds.length = ms.length := by rw [← hds]; simp [smMarks]
    have hsd : ∀ d ∈ ds, d.2.2.2.length ≤ 1048576 := fun d hd => by
      obtain ⟨i, hi, rfl⟩ := List.getElem_of_mem hd
      have h := hsm.2 i
      have e : mat ms i = ds[i].2.2.2 := by rw [← hds]; simp [mat, smMarks, smMark, hi]
      rwa [e] at h
    obtain ⟨b, off, rfl, hbl, hsg⟩ := hsv.seg (by omega)
    have h := sRanked_in b off cap ds w hbl hsg hsl (by rw [hlen]; exact marksB_len hb) hsd (fun W L => by have := HM.out W L; rw [hb] at this; rwa [hlen]) (fun i j hij hj => by
      have hr := rises8 hb hij (by omega)
      have e1 : mid ms i = (snth ds i).1 := by rw [← hds, snth_get (by omega)]; simp [mid, smMarks, smMark, show i < ds.length by omega]
      have e2 : mid ms j = (snth ds j).1 := by rw [← hds, snth_get hj]; simp [mid, smMarks, smMark, hj]
      rwa [e1, e2] at hr)
    rw [hlen, ranks_marks (by rw [hds]; exact hb), hds] at h
    exact h
  · obtain rfl : ms = [] := List.length_eq_zero_iff.1 (by omega)
    rw [hb] at HM
    have HLA := hidP LA
    have HN := hidP (NRow.start w w.heap.size (Nat.le_refl _))
    clear hb hv h0
    go_enter Try.func23, Try.ntmps23
    go_wp2_with (go_at_call 56; refine (HM.out _ HLA.out).mono ?_; rintro e w1 ⟨rfl, n1, rfl⟩)
    refine wp_loop_rounds 1 ?_
    rw [rounds_succ]
    go_wp2
    go_ret
    have LB : Below w.heap.size w (((w.alloc (.cells #[] 2)).drewN n1).alloc (.cells #[] 2)) := (below_drewN HLA.out n1).alloc (by simp) _
    exact ⟨_, 0, rfl, HN.out.below (Nat.le_refl _) ((below_drewN (Below.refl _ _) n1).alloc (by simp) _), LB⟩

theorem rank_short (ms : List Mk) : (rankL ms).length ≤ 60 := by
  rcases h : rankB ms with _ | _
  · rw [rankL_out h]; simp
  · rw [rankL_len h]
    simp only [rankB, Bool.and_eq_true] at h
    exact marksB_len h.1
theorem NRow.view {base : Nat} {w : World} {g c : Nat} {xs : List Int} (h : NRow base w g c xs) : View w (some ⟨g, 0, none⟩) xs := Or.inr ⟨g, 0, rfl, h.lt.2, h.seg⟩
theorem OwnV.thru {base lo hi : Nat} {w w' : World} {ao : Option Addr} {xs : List Int} (h : OwnV base w ao xs) (hb : hi ≤ base) (hg : GIn lo hi w w') : OwnV base w' ao xs := by
  rcases h with h | ⟨b, e, h1, h2⟩
  · exact Or.inl h
  · exact Or.inr ⟨b, e, h1, (hg.2.2.2.2 b h2.lt (Or.inr (by omega))).trans h2⟩
theorem View.thru {lo hi : Nat} {w w' : World} {g : Nat} {xs : List Int} (h : Seg w g 0 xs) (hl : g < lo) (hlo : lo ≤ w.heap.size) (hg : GIn lo hi w w') : Seg w' g 0 xs := fun i hi => by
  rw [World.cell?_of_block (hg.2.2.2.2 g (by omega) (Or.inl hl))]
  exact h i hi
end Go.Proofs.Ytibkfdefoaimiaa
