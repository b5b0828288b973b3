/-
  Plain mathematics for the law of the nearest (no program is named here).
-/
import Derived.Test.YtlhnglhoecpgfaaMathZz
import Derived.Test.YtlhnglhoecpgfaaNearZz
namespace Go.Proofs.Ytlhnglhoecpgfaa

theorem truly_of {ms : List Mk} {q : List Int} (ht : toldB ms q = true) {hs : List Ht} (h : ∀ x ∈ hs, x ∈ hitsL ms q) : ∀ i, i < hs.length → ∃ n, n < ms.length ∧ mid ms n = (hnth hs i).1 ∧ farV (mat ms n) q = (hnth hs i).2 := fun i hi => by
  obtain ⟨_, _, n, hn, e⟩ := hit_good ht (h _ (hnth_mem hi))
  exact ⟨n, hn, by rw [e], by rw [e]⟩
theorem near_truly (ms : List Mk) (q : List Int) (k : Int) : ∀ i, i < (nearL ms q k).length → ∃ n, n < ms.length ∧ mid ms n = (hnth (nearL ms q k) i).1 ∧ farV (mat ms n) q = (hnth (nearL ms q k) i).2 := fun i hi =>
  truly_of (near_mem (hnth_mem hi)).1 (fun _ hx => (near_mem hx).2) i hi
theorem within_truly (ms : List Mk) (q : List Int) (most : Int) : ∀ i, i < (withinL ms q most).length → ∃ n, n < ms.length ∧ mid ms n = (hnth (withinL ms q most) i).1 ∧ farV (mat ms n) q = (hnth (withinL ms q most) i).2 := fun i hi =>
  truly_of (within_mem (hnth_mem hi)).1 (fun _ hx => (within_mem hx).2.1) i hi
theorem within_far (ms : List Mk) (q : List Int) (most : Int) (i : Nat) (hi : i < (withinL ms q most).length) : (hnth (withinL ms q most) i).2 ≤ most := (within_mem (hnth_mem hi)).2.2
/-- So many are up to the last of the nearest as there are nearest; and these are k, or all. -/
theorem near_last {ms : List Mk} {q : List Int} {k : Int} {m : Nat} (hm : (nearL ms q k).length = m + 1) : (hitsL ms q).countP (uptoB (hnth (nearL ms q k) m)) = m + 1 ∧ (((m + 1 : Nat) : Int) = k ∨ m + 1 = ms.length) := by
  obtain ⟨ht, _⟩ := near_mem (hnth_mem (i := 0) (by omega) : hnth (nearL ms q k) 0 ∈ nearL ms q k)
  have hk : countB k = true := by
    rcases hc : countB k with _ | _
    · have : nearL ms q k = [] := by simp [nearL, hc]
      rw [this] at hm; cases hm
    · rfl
  have e : nearL ms q k = (sortL (hitsL ms q)).take k.toNat := by simp [nearL, ht, hk]
  have hk1 : 1 ≤ k := by simp [countB] at hk; omega
  rw [e] at hm ⊢
  have hl : (sortL (hitsL ms q)).length = ms.length := by rw [sortL_length, hitsL_length]
  rw [List.length_take, hl] at hm
  rw [hnth_take _ _ _ (by omega)]
  refine ⟨?_, by omega⟩
  rw [← (sortL_perm (hitsL ms q)).countP_eq]
  exact count_take (all_ahead ht) m (by omega)
def cntL (ms : List Mk) (q : List Int) (l : Ht) (j : Nat) : Nat := ((hitsL ms q).take j).countP (uptoB l)
theorem cntL_zero (ms : List Mk) (q : List Int) (l : Ht) : cntL ms q l 0 = 0 := by simp [cntL]
theorem cntL_all (ms : List Mk) (q : List Int) (l : Ht) : cntL ms q l ms.length = (hitsL ms q).countP (uptoB l) := by
  unfold cntL
  rw [List.take_of_length_le (by rw [hitsL_length]; exact Nat.le_refl _)]
theorem cntL_le (ms : List Mk) (q : List Int) (l : Ht) (j : Nat) : cntL ms q l j ≤ j := by
  unfold cntL
  refine Nat.le_trans List.countP_le_length ?_
  rw [List.length_take]; omega
theorem cntL_succ (ms : List Mk) (q : List Int) (l : Ht) (j : Nat) (hj : j < ms.length) : cntL ms q l (j + 1) = cntL ms q l j + if uptoB l (mid ms j, farV (mat ms j) q) = true then 1 else 0 := by
  unfold cntL
  have : (hitsL ms q).take (j + 1) = (hitsL ms q).take j ++ [(mid ms j, farV (mat ms j) q)] := by
    rw [List.take_add_one]
    congr 1
    simp [hitsL, hj, hitF, mid, mat, List.getD]
  rw [this, List.countP_append]
  simp [List.countP_cons]

end Go.Proofs.Ytlhnglhoecpgfaa
