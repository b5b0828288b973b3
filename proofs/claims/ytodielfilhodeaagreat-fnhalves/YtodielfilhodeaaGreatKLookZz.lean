/-
  The given l5Looked: how many knots are looked at, and the least till then, in a block of two cells.
  The given Looked.
  The law of Looked, plain part.
-/
import Derived.Test.YtodielfilhodeaaGreatKTallZz
import Derived.Test.YtodielfilhodeaaGreatKCellsZz
import Derived.Test.YtodielfilhodeaaGreatKLeadZz
import Derived.Test.YtodielfilhodeaaGreatKTopZz
namespace Go.Proofs.YtodielfilhodeaaGreat
open Go Go.RowKit

theorem far_le (a b : List Int) : -1 ≤ farV a b ∧ farV a b ≤ 16000000 := by
  unfold farV
  split
  · rename_i h
    obtain ⟨ha, hb, _⟩ := twoB_of h
    have h4 := okB_len ha
    have := sumTo_le (sqF a b) 0 4000000 (sqF_bd ha hb) a.length
    omega
  · omega

end Go.Proofs.YtodielfilhodeaaGreat
namespace Go.Proofs.YtodielfilhodeaaGreat
open Go Go.RowKit

end Go.Proofs.YtodielfilhodeaaGreat
namespace Go.Proofs.YtodielfilhodeaaGreat
open Go Go.RowKit

theorem ks_small {ks : List Kn} (h : ks.length ≤ 60) (hat : ∀ k ∈ ks, k.1.2.length ≤ 4) : KSmall ks := by
  refine ⟨by omega, fun i => ?_⟩
  rcases Nat.lt_or_ge i ks.length with h1 | h1
  · have : knth ks i ∈ ks := by simp [knth, List.getD, h1]
    have := hat _ this
    omega
  · simp [knth, List.getD, h1]
theorem look_val {ks : List Kn} {q : List Int} (h1 : knotsB ks = true) (h2 : toldB (knotMs ks) q = true) : lookedV ks q ≤ ks.length ∧ (ks.length ≠ 0 → 1 ≤ lookedV ks q) ∧ (ks.length = 0 → lookedV ks q = 0) := by
  have e : lookedV ks q = (lookT q (treeF 60 (knotMs ks) 0) (-1, 0)).2 := by unfold lookedV; rw [if_pos ⟨h1, h2⟩]
  have hz := (knots_tree h1).2.2
  have hc := look_count q (treeF 60 (knotMs ks) 0) (-1, 0)
  simp only at hc
  rw [e]
  exact ⟨by omega, fun h => by have := hc.2.2 (by omega); omega, fun h => by omega⟩
theorem look_facts {ks : List Kn} {q : List Int} (h : 0 ≤ lookedV ks q) : knotsB ks = true ∧ lookedV ks q ≤ ks.length ∧ (ks.length ≠ 0 → 1 ≤ lookedV ks q) ∧ (ks.length = 0 → lookedV ks q = 0) := by
  by_cases hk : knotsB ks = true ∧ toldB (knotMs ks) q = true
  · exact ⟨hk.1, look_val hk.1 hk.2⟩
  · unfold lookedV at h
    rw [if_neg hk] at h
    omega
theorem look_root {ks : List Kn} (hk : knotsB ks = true) (h0 : 0 < ks.length) : 1 ≤ lookedV ks (knth ks 0).1.2 ∧ lookedV ks (knth ks 0).1.2 ≤ ks.length := by
  obtain ⟨hm, _, hz⟩ := knots_tree hk
  have hpm : (knotMs ks).Perm (ks.map (·.1)) := sortBy_perm idlt _
  have hml : (knotMs ks).length = ks.length := by rw [hpm.length_eq, List.length_map]
  have hmem : (knth ks 0).1 ∈ knotMs ks := hpm.mem_iff.2 (List.mem_map_of_mem (by simp [knth, List.getD, h0]))
  obtain ⟨j, hj, ej⟩ := List.getElem_of_mem hmem
  have e2 : mat (knotMs ks) j = (knth ks 0).1.2 := by rw [← ej]; simp [mat, List.getD, hj]
  have h2 := marks_two hm (i := 0) (j := j) (by omega) hj
  rw [e2] at h2
  obtain ⟨_, ho, hl⟩ := twoB_of h2
  have ht : toldB (knotMs ks) (knth ks 0).1.2 = true := by simp [toldB, hm, ho, hl]
  have := look_val hk ht
  exact ⟨this.2.1 (by omega), this.1⟩

end Go.Proofs.YtodielfilhodeaaGreat
