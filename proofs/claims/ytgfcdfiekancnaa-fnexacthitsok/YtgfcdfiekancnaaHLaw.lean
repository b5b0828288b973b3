/-
  Plain mathematics for the laws of the nearest (no program is named here).
-/
import Derived.Test.YtgfcdfiekancnaaHits
namespace Go.Proofs.Ytgfcdfiekancnaa

def AheadAll (l : List Ht) : Prop := l.Pairwise (fun a b => aheadB a b = true)
theorem ahead_of_le {a b : Ht} (h : leH a b) (hne : a.1 ≠ b.1) : aheadB a b = true := by rw [aheadB_iff]; unfold leH at h; omega
theorem sorted_ahead {l : List Ht} (hs : SortedH l) (hd : l.Pairwise (fun a b => a.1 ≠ b.1)) : AheadAll l := by
  unfold SortedH at hs; unfold AheadAll
  induction l with
  | nil => exact List.Pairwise.nil
  | cons x xs ih =>
    rw [List.pairwise_cons] at *
    exact ⟨fun y hy => ahead_of_le (hs.1 y hy) (hd.1 y hy), ih hs.2 hd.2⟩
theorem perm_distinct {l m : List Ht} (hp : l.Perm m) (h : l.Pairwise (fun a b => a.1 ≠ b.1)) : m.Pairwise (fun a b => a.1 ≠ b.1) :=
  (hp.pairwise_iff (fun h e => h e.symm)).1 h
theorem marks_distinct {ms : List Mk} (hm : marksB ms = true) (q : List Int) : (hitsL ms q).Pairwise (fun a b => a.1 ≠ b.1) := by
  rw [List.pairwise_iff_getElem]
  intro i j hi hj hij
  simp only [hitsL, List.length_map] at hi hj
  have hr : mid ms i < mid ms j := by
    clear hi
    induction j with
    | zero => omega
    | succ j ih =>
      have h1 := ((mOkAt_iff ms (j + 1)).1 (marksB_at hm hj)).2.2.2.2
      simp at h1
      rcases Nat.lt_or_ge i j with h2 | h2
      · have := ih (by omega) h2; omega
      · rw [show i = j by omega]; exact h1
  simp only [hitsL, List.getElem_map, hitF]
  simp only [mid, List.getD, List.getElem?_eq_getElem hi, List.getElem?_eq_getElem hj, Option.getD_some] at hr
  omega
theorem told_two {ms : List Mk} {q : List Int} (ht : toldB ms q = true) {i : Nat} (hi : i < ms.length) : twoB (mat ms i) q = true := by
  simp [toldB] at ht
  obtain ⟨⟨hm, hq⟩, hl⟩ := ht
  have h1 := (mOkAt_iff ms i).1 (marksB_at hm hi)
  have h0 : (mat ms 0).length = q.length := by
    rcases hl with h | h
    · subst h; simp at hi
    · exact h
  exact twoB_true h1.2.2.1 hq (by omega)
theorem told_marks {ms : List Mk} {q : List Int} (ht : toldB ms q = true) : marksB ms = true := by
  simp [toldB] at ht; exact ht.1.1
theorem farV_nonneg {a b : List Int} (h : twoB a b = true) : 0 ≤ farV a b := by
  have hb := (twoB_of h)
  have := sumTo_le (sqF a b) 0 4000000 (sqF_bd hb.1 hb.2.1) a.length
  simp [farV, h]; omega
theorem hit_good {ms : List Mk} {q : List Int} (ht : toldB ms q = true) {x : Ht} (hx : x ∈ hitsL ms q) : 1 ≤ x.1 ∧ 0 ≤ x.2 ∧ ∃ i, i < ms.length ∧ x = (mid ms i, farV (mat ms i) q) := by
  obtain ⟨m, hm, rfl⟩ := List.mem_map.1 hx
  obtain ⟨i, hi, rfl⟩ := List.getElem_of_mem hm
  have e1 : mid ms i = ms[i].1 := by simp [mid, List.getD, hi]
  have e2 : mat ms i = ms[i].2 := by simp [mat, List.getD, hi]
  have h1 := (mOkAt_iff ms i).1 (marksB_at (told_marks ht) hi)
  refine ⟨by unfold hitF; omega, ?_, i, hi, by unfold hitF; rw [e1, e2]⟩
  have := farV_nonneg (told_two ht hi)
  rw [e2] at this
  exact this
theorem hitsB_of {l : List Ht} (hs : AheadAll l) (hg : ∀ x ∈ l, 1 ≤ x.1 ∧ 0 ≤ x.2) : hitsB l = true := by
  refine hitsB_mk fun i hi => ?_
  have hm : hnth l i ∈ l := by simp [hnth, List.getD, hi]
  have := hg _ hm
  simp only [hitOkAt, Bool.and_eq_true, decide_eq_true_eq, Bool.or_eq_true]
  refine ⟨⟨this.1, this.2⟩, ?_⟩
  rcases Nat.eq_zero_or_pos i with h0 | h0
  · exact Or.inl h0
  · right
    have := (List.pairwise_iff_getElem.1 hs) (i - 1) i (by omega) hi (by omega)
    simpa [hnth, List.getD, hi, show i - 1 < l.length by omega] using this
theorem all_ahead {ms : List Mk} {q : List Int} (ht : toldB ms q = true) : AheadAll (sortL (hitsL ms q)) :=
  sorted_ahead (sortL_sorted _) (perm_distinct (sortL_perm _).symm (marks_distinct (told_marks ht) q))
theorem AheadAll.take {l : List Ht} (h : AheadAll l) (k : Nat) : AheadAll (l.take k) := List.Pairwise.sublist (List.take_sublist k l) h
theorem AheadAll.filter {l : List Ht} (h : AheadAll l) (p : Ht → Bool) : AheadAll (l.filter p) := List.Pairwise.sublist List.filter_sublist h
theorem near_mem {ms : List Mk} {q : List Int} {k : Int} {x : Ht} (h : x ∈ nearL ms q k) : toldB ms q = true ∧ x ∈ hitsL ms q := by
  unfold nearL at h
  split at h
  · rename_i hc; exact ⟨hc.1, (sortL_perm _).mem_iff.1 (List.mem_of_mem_take h)⟩
  · cases h
theorem within_mem {ms : List Mk} {q : List Int} {most : Int} {x : Ht} (h : x ∈ withinL ms q most) : toldB ms q = true ∧ x ∈ hitsL ms q ∧ x.2 ≤ most := by
  unfold withinL at h
  split at h
  · rename_i hc
    have := List.mem_filter.1 h
    exact ⟨hc.1, (sortL_perm _).mem_iff.1 this.1, by simpa using this.2⟩
  · cases h
theorem near_ok (ms : List Mk) (q : List Int) (k : Int) : hitsB (nearL ms q k) = true := by
  refine hitsB_of ?_ (fun x hx => by have h := near_mem hx; have := hit_good h.1 h.2; exact ⟨this.1, this.2.1⟩)
  unfold nearL
  split
  · rename_i hc; exact (all_ahead hc.1).take _
  · exact List.Pairwise.nil
theorem within_ok (ms : List Mk) (q : List Int) (most : Int) : hitsB (withinL ms q most) = true := by
  refine hitsB_of ?_ (fun x hx => by have h := within_mem hx; have := hit_good h.1 h.2.1; exact ⟨this.1, this.2.1⟩)
  unfold withinL
  split
  · rename_i hc; exact (all_ahead hc.1).filter _
  · exact List.Pairwise.nil

/-- At or ahead of the last. -/
def uptoB (l x : Ht) : Bool := decide (x.2 < l.2) || (decide (x.2 = l.2) && decide (x.1 ≤ l.1))
theorem upto_le (l x : Ht) : uptoB l x = true ↔ leH x l := by unfold uptoB leH; simp
theorem count_take {ss : List Ht} (hs : AheadAll ss) (m : Nat) (hm : m < ss.length) : ss.countP (uptoB (hnth ss m)) = m + 1 := by
  have hsplit : ss = ss.take (m + 1) ++ ss.drop (m + 1) := (List.take_append_drop _ _).symm
  have hat : ∀ i, i < ss.length → hnth ss i = ss[i]! := fun i hi => by simp [hnth, List.getD, hi]
  have h1 : (ss.take (m + 1)).countP (uptoB (hnth ss m)) = m + 1 := by
    have : (ss.take (m + 1)).countP (uptoB (hnth ss m)) = (ss.take (m + 1)).length := by
      rw [List.countP_eq_length]
      intro x hx
      obtain ⟨i, hi, rfl⟩ := List.getElem_of_mem hx
      have hi2 : i < m + 1 ∧ i < ss.length := by simp at hi; omega
      rw [upto_le]
      have e : hnth ss m = ss[m] := by simp [hnth, List.getD, hm]
      rw [e, List.getElem_take]
      rcases Nat.lt_or_ge i m with h | h
      · exact leH_of_ahead ((List.pairwise_iff_getElem.1 hs) i m hi2.2 hm h)
      · have : i = m := by omega
        subst this; exact leH_refl _
    rw [this]; simp; omega
  have h2 : (ss.drop (m + 1)).countP (uptoB (hnth ss m)) = 0 := by
    rw [List.countP_eq_zero]
    intro x hx
    obtain ⟨i, hi, rfl⟩ := List.getElem_of_mem hx
    have hi2 : m + 1 + i < ss.length := by simp at hi; omega
    rw [List.getElem_drop]
    intro hc
    rw [upto_le] at hc
    have e : hnth ss m = ss[m] := by simp [hnth, List.getD, hm]
    rw [e] at hc
    have := (List.pairwise_iff_getElem.1 hs) m (m + 1 + i) hm hi2 (by omega)
    rw [aheadB_iff] at this
    unfold leH at hc
    omega
  rw [hsplit, List.countP_append, ← hsplit, h1, h2]

end Go.Proofs.Ytgfcdfiekancnaa
