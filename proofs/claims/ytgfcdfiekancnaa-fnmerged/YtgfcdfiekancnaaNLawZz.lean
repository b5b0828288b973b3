/-
  Plain mathematics for the law of the nearest (no program is named here).
  Plain mathematics for the law of merging (no program is named here): parts of marks, and their nearest.
-/
import Derived.Test.YtgfcdfiekancnaaMathZz
import Derived.Test.YtgfcdfiekancnaaNearZz
namespace Go.Proofs.Ytgfcdfiekancnaa

theorem truly_of {ms : List Mk} {q : List Int} (ht : toldB ms q = true) {hs : List Ht} (h : ∀ x ∈ hs, x ∈ hitsL ms q) : ∀ i, i < hs.length → ∃ n, n < ms.length ∧ mid ms n = (hnth hs i).1 ∧ farV (mat ms n) q = (hnth hs i).2 := fun i hi => by
  obtain ⟨_, _, n, hn, e⟩ := hit_good ht (h _ (hnth_mem hi))
  exact ⟨n, hn, by rw [e], by rw [e]⟩
theorem near_truly (ms : List Mk) (q : List Int) (k : Int) : ∀ i, i < (nearL ms q k).length → ∃ n, n < ms.length ∧ mid ms n = (hnth (nearL ms q k) i).1 ∧ farV (mat ms n) q = (hnth (nearL ms q k) i).2 := fun i hi =>
  truly_of (near_mem (hnth_mem hi)).1 (fun _ hx => (near_mem hx).2) i hi
theorem within_truly (ms : List Mk) (q : List Int) (most : Int) : ∀ i, i < (withinL ms q most).length → ∃ n, n < ms.length ∧ mid ms n = (hnth (withinL ms q most) i).1 ∧ farV (mat ms n) q = (hnth (withinL ms q most) i).2 := fun i hi =>
  truly_of (within_mem (hnth_mem hi)).1 (fun _ hx => (within_mem hx).2.1) i hi
theorem within_far (ms : List Mk) (q : List Int) (most : Int) (i : Nat) (hi : i < (withinL ms q most).length) : (hnth (withinL ms q most) i).2 ≤ most := (within_mem (hnth_mem hi)).2.2
/-- So many are up to the last of the nearest as there are nearest; and these are k, or all. -/
theorem near_last {ms : List Mk} {q : List Int} {k : Int} {m : Nat} (hm : (nearL ms q k).length = m + 1) : (hitsL ms q).countP (uptoB (hnth (nearL ms q k) m)) = m + 1 ∧ (((m + 1 : Nat) : Int) = k ∨ m + 1 = ms.length) := by
  obtain ⟨ht, _⟩ := near_mem (hnth_mem (i := 0) (by omega) : hnth (nearL ms q k) 0 ∈ nearL ms q k)
  have hk : countB k = true := by
    rcases hc : countB k with _ | _
    · have : nearL ms q k = [] := by simp [nearL, hc]
      rw [this] at hm; cases hm
    · rfl
  have e : nearL ms q k = (sortL (hitsL ms q)).take k.toNat := by simp [nearL, ht, hk]
  have hk1 : 1 ≤ k := by simp [countB] at hk; omega
  rw [e] at hm ⊢
  have hl : (sortL (hitsL ms q)).length = ms.length := by rw [sortL_length, hitsL_length]
  rw [List.length_take, hl] at hm
  rw [hnth_take _ _ _ (by omega)]
  refine ⟨?_, by omega⟩
  rw [← (sortL_perm (hitsL ms q)).countP_eq]
  exact count_take (all_ahead ht) m (by omega)
def cntL (ms : List Mk) (q : List Int) (l : Ht) (j : Nat) : Nat := ((hitsL ms q).take j).countP (uptoB l)
theorem cntL_zero (ms : List Mk) (q : List Int) (l : Ht) : cntL ms q l 0 = 0 := by simp [cntL]
theorem cntL_all (ms : List Mk) (q : List Int) (l : Ht) : cntL ms q l ms.length = (hitsL ms q).countP (uptoB l) := by
  unfold cntL
  rw [List.take_of_length_le (by rw [hitsL_length]; exact Nat.le_refl _)]
theorem cntL_le (ms : List Mk) (q : List Int) (l : Ht) (j : Nat) : cntL ms q l j ≤ j := by
  unfold cntL
  refine Nat.le_trans List.countP_le_length ?_
  rw [List.length_take]; omega
theorem cntL_succ (ms : List Mk) (q : List Int) (l : Ht) (j : Nat) (hj : j < ms.length) : cntL ms q l (j + 1) = cntL ms q l j + if uptoB l (mid ms j, farV (mat ms j) q) = true then 1 else 0 := by
  unfold cntL
  have : (hitsL ms q).take (j + 1) = (hitsL ms q).take j ++ [(mid ms j, farV (mat ms j) q)] := by
    rw [List.take_add_one]
    congr 1
    simp [hitsL, hj, hitF, mid, mat, List.getD]
  rw [this, List.countP_append]
  simp [List.countP_cons]

end Go.Proofs.Ytgfcdfiekancnaa
namespace Go.Proofs.Ytgfcdfiekancnaa

def RiseM (a b : Mk) : Prop := a.1 < b.1 ∧ a.2.length = b.2.length
theorem mat_get {ms : List Mk} {i : Nat} (hi : i < ms.length) : mat ms i = ms[i].2 := by simp [mat, List.getD, hi]
theorem mid_get {ms : List Mk} {i : Nat} (hi : i < ms.length) : mid ms i = ms[i].1 := by simp [mid, List.getD, hi]
theorem marks_each {ms : List Mk} (h : marksB ms = true) : ∀ m ∈ ms, 1 ≤ m.1 ∧ m.1 ≤ 1000000 ∧ okB m.2 = true := fun m hm => by
  obtain ⟨i, hi, rfl⟩ := List.getElem_of_mem hm
  have := (mOkAt_iff ms i).1 (marksB_at h hi)
  rw [mat_get hi, mid_get hi] at this
  exact ⟨by omega, by omega, this.2.2.1⟩
theorem marks_rise {ms : List Mk} (h : marksB ms = true) : ms.Pairwise RiseM := by
  rw [List.pairwise_iff_getElem]
  intro i j hi hj hij
  have hr : mid ms i < mid ms j := by
    clear hi
    induction j with
    | zero => omega
    | succ j ih =>
      have h1 := ((mOkAt_iff ms (j + 1)).1 (marksB_at h hj)).2.2.2.2
      simp at h1
      rcases Nat.lt_or_ge i j with h2 | h2
      · have := ih (by omega) h2; omega
      · rw [show i = j by omega]; exact h1
  have h1 := (mOkAt_iff ms i).1 (marksB_at h hi)
  have h2 := (mOkAt_iff ms j).1 (marksB_at h hj)
  rw [mid_get hi, mid_get hj] at hr
  rw [mat_get hi] at h1
  rw [mat_get hj] at h2
  exact ⟨hr, by omega⟩
theorem marks_of {ms : List Mk} (hl : ms.length ≤ 60) (he : ∀ m ∈ ms, 1 ≤ m.1 ∧ m.1 ≤ 1000000 ∧ okB m.2 = true) (hr : ms.Pairwise RiseM) : marksB ms = true := by
  refine marksB_mk hl fun i hi => (mOkAt_iff ms i).2 ?_
  have h1 := he ms[i] (List.getElem_mem hi)
  rw [List.pairwise_iff_getElem] at hr
  have h0 : (mat ms i).length = (mat ms 0).length := by
    rcases Nat.eq_zero_or_pos i with h | h
    · rw [h]
    · have := hr 0 i (by omega) hi h
      rw [mat_get hi, mat_get (show 0 < ms.length by omega)]
      exact this.2.symm
  have h2 : i = 0 ∨ mid ms (i - 1) < mid ms i := by
    rcases Nat.eq_zero_or_pos i with h | h
    · exact Or.inl h
    · have := hr (i - 1) i (by omega) hi (by omega)
      rw [mid_get hi, mid_get (show i - 1 < ms.length by omega)]
      exact Or.inr this.1
  rw [← mid_get hi, ← mat_get hi] at h1
  exact ⟨h1.1, h1.2.1, h1.2.2, h0, h2⟩
theorem marks_sub {ms l : List Mk} (h : marksB ms = true) (hs : l.Sublist ms) : marksB l = true :=
  marks_of (Nat.le_trans hs.length_le (marksB_len h)) (fun m hm => marks_each h m (hs.subset hm)) (List.Pairwise.sublist hs (marks_rise h))
theorem told_each {ms : List Mk} {q : List Int} (h : toldB ms q = true) : ∀ m ∈ ms, m.2.length = q.length := fun m hm => by
  obtain ⟨i, hi, rfl⟩ := List.getElem_of_mem hm
  have h1 := (twoB_of (told_two h hi)).2.2
  rw [mat_get hi] at h1
  exact h1
theorem told_sub {ms l : List Mk} {q : List Int} (h : toldB ms q = true) (hs : l.Sublist ms) : toldB l q = true := by
  have hm := marks_sub (told_marks h) hs
  have hq : okB q = true := by simp [toldB] at h; exact h.1.2
  cases l with
  | nil => exact toldB_nil hm hq rfl
  | cons m l => exact toldB_yes hm hq (told_each h m (hs.subset (List.mem_cons_self ..)))
theorem near_take {ms : List Mk} {q : List Int} {k : Int} (ht : toldB ms q = true) (hk : countB k = true) : nearL ms q k = (sortL (hitsL ms q)).take k.toNat := by simp [nearL, ht, hk]
theorem near_some {ms : List Mk} {q : List Int} {k : Int} (h : nearL ms q k ≠ []) : toldB ms q = true ∧ countB k = true := by
  unfold nearL at h
  split at h
  · assumption
  · exact absurd rfl h
theorem hits_sub {ms l : List Mk} {q : List Int} (hs : l.Sublist ms) {x : Ht} (hx : x ∈ sortL (hitsL l q)) : x ∈ sortL (hitsL ms q) := by
  rw [(sortL_perm _).mem_iff] at hx ⊢
  obtain ⟨m, hm, rfl⟩ := List.mem_map.1 hx
  exact List.mem_map_of_mem (hs.subset hm)
/-- The nearest of all are those of two parts, merged. -/
theorem near_parts {ms a b : List Mk} {q : List Int} {k : Int} (h : nearL ms q k ≠ []) (ha : a.Sublist ms) (hb : b.Sublist ms) (hall : ∀ m ∈ ms, m ∈ a ∨ m ∈ b) : mergedL (nearL a q k) (nearL b q k) k = nearL ms q k := by
  obtain ⟨ht, hk⟩ := near_some h
  have ta := told_sub ht ha
  have tb := told_sub ht hb
  have e : mergedL (nearL a q k) (nearL b q k) k = (onceL (sortL (nearL a q k ++ nearL b q k))).take k.toNat := by simp [mergedL, hk]
  rw [e, near_take ht hk]
  refine merged_part (all_ahead ht) (perm_distinct (sortL_perm _).symm (marks_distinct (told_marks ht) q)) (fun x hx => ?_) k.toNat (fun x hx => ?_)
  · rcases List.mem_append.1 hx with hx | hx
    · rw [near_take ta hk] at hx
      exact hits_sub ha (List.mem_of_mem_take hx)
    · rw [near_take tb hk] at hx
      exact hits_sub hb (List.mem_of_mem_take hx)
  · have hx2 := (sortL_perm _).mem_iff.1 (List.mem_of_mem_take hx)
    obtain ⟨m, hm, e⟩ := List.mem_map.1 hx2
    refine List.mem_append.2 ((hall m hm).imp (fun hm => ?_) (fun hm => ?_))
    · rw [near_take ta hk]
      exact first_part (all_ahead ht) (all_ahead ta) (fun y hy => hits_sub ha hy) k.toNat hx ((sortL_perm _).mem_iff.2 (by rw [← e]; exact List.mem_map_of_mem hm))
    · rw [near_take tb hk]
      exact first_part (all_ahead ht) (all_ahead tb) (fun y hy => hits_sub hb hy) k.toNat hx ((sortL_perm _).mem_iff.2 (by rw [← e]; exact List.mem_map_of_mem hm))
theorem near_again {ms a : List Mk} {q : List Int} {k : Int} (h : nearL ms q k ≠ []) (ha : a.Sublist ms) : mergedL (nearL ms q k) (nearL a q k) k = nearL ms q k := by
  obtain ⟨ht, hk⟩ := near_some h
  have ta := told_sub ht ha
  have e : mergedL (nearL ms q k) (nearL a q k) k = (onceL (sortL (nearL ms q k ++ nearL a q k))).take k.toNat := by simp [mergedL, hk]
  have e2 := near_take ht hk
  rw [e]
  conv => rhs; rw [e2]
  refine merged_part (all_ahead ht) (perm_distinct (sortL_perm _).symm (marks_distinct (told_marks ht) q)) (fun x hx => ?_) k.toNat (fun x hx => ?_)
  · rcases List.mem_append.1 hx with hx | hx
    · rw [e2] at hx
      exact List.mem_of_mem_take hx
    · rw [near_take ta hk] at hx
      exact hits_sub ha (List.mem_of_mem_take hx)
  · exact List.mem_append.2 (Or.inl (by rw [e2]; exact hx))
/-- Two parts of the first j. -/
def PartsOf (ms : List Mk) (j : Nat) (a b : List Mk) : Prop := a.Sublist (ms.take j) ∧ b.Sublist (ms.take j) ∧ ∀ m ∈ ms.take j, m ∈ a ∨ m ∈ b
theorem parts_zero (ms : List Mk) : PartsOf ms 0 [] [] := ⟨List.nil_sublist _, List.nil_sublist _, fun m hm => by simp at hm⟩
theorem take_mark {ms : List Mk} {j : Nat} (hj : j < ms.length) : ms.take (j + 1) = ms.take j ++ [(mid ms j, mat ms j)] := by
  rw [mid_get hj, mat_get hj, List.take_append_getElem]
theorem parts_left {ms a b : List Mk} {j : Nat} (hj : j < ms.length) (h : PartsOf ms j a b) : PartsOf ms (j + 1) (a ++ [(mid ms j, mat ms j)]) b := by
  obtain ⟨h1, h2, h3⟩ := h
  unfold PartsOf
  rw [take_mark hj]
  refine ⟨h1.append (List.Sublist.refl _), h2.trans (List.sublist_append_left _ _), fun m hm => ?_⟩
  rcases List.mem_append.1 hm with hm | hm
  · exact (h3 m hm).imp (fun h => List.mem_append.2 (Or.inl h)) id
  · exact Or.inl (List.mem_append.2 (Or.inr hm))
theorem parts_right {ms a b : List Mk} {j : Nat} (hj : j < ms.length) (h : PartsOf ms j a b) : PartsOf ms (j + 1) a (b ++ [(mid ms j, mat ms j)]) := by
  obtain ⟨h1, h2, h3⟩ := parts_left hj (⟨h.2.1, h.1, fun m hm => (h.2.2 m hm).symm⟩ : PartsOf ms j b a)
  exact ⟨h2, h1, fun m hm => (h3 m hm).symm⟩
theorem parts_all {ms a b : List Mk} (h : PartsOf ms ms.length a b) : a.Sublist ms ∧ b.Sublist ms ∧ ∀ m ∈ ms, m ∈ a ∨ m ∈ b := by
  unfold PartsOf at h
  rw [List.take_length] at h
  exact h

end Go.Proofs.Ytgfcdfiekancnaa
