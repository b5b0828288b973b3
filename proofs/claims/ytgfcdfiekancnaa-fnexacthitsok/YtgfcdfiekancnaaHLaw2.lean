/-
  Plain mathematics for the law of merging (no program is named here).
-/
import Derived.Test.YtgfcdfiekancnaaHLaw
namespace Go.Proofs.Ytgfcdfiekancnaa

/-- Two lists in strict order with the same hits are one. -/
theorem ahead_unique {l m : List Ht} (hl : AheadAll l) (hm : AheadAll m) (h : ∀ x, x ∈ l ↔ x ∈ m) : l = m := by
  unfold AheadAll at *
  induction l generalizing m with
  | nil =>
    cases m with
    | nil => rfl
    | cons y ys => exact absurd ((h y).2 (List.mem_cons_self ..)) (by simp)
  | cons x xs ih =>
    cases m with
    | nil => exact absurd ((h x).1 (List.mem_cons_self ..)) (by simp)
    | cons y ys =>
      rw [List.pairwise_cons] at hl hm
      have irr : ∀ a b : Ht, aheadB a b = true → aheadB b a = true → False := fun a b h1 h2 => by rw [aheadB_iff] at h1 h2; omega
      have hxy : x = y := by
        rcases List.mem_cons.1 ((h x).1 (List.mem_cons_self ..)) with e | e
        · exact e
        · rcases List.mem_cons.1 ((h y).2 (List.mem_cons_self ..)) with e2 | e2
          · exact e2.symm
          · exact absurd (hm.1 x e) (fun h1 => irr _ _ h1 (hl.1 y e2))
      subst hxy
      rw [ih hl.2 hm.2 (fun z => by
        have hz := h z
        simp only [List.mem_cons] at hz
        constructor
        · intro hzx
          rcases hz.1 (Or.inr hzx) with e | e
          · subst e; exact absurd (hl.1 z hzx) (fun h1 => irr _ _ h1 h1)
          · exact e
        · intro hzy
          rcases hz.2 (Or.inr hzy) with e | e
          · subst e; exact absurd (hm.1 z hzy) (fun h1 => irr _ _ h1 h1)
          · exact e)]
theorem onceG_sub (ids : List Int) (l : List Ht) : (onceG ids l).Sublist l := by
  induction l generalizing ids with
  | nil => exact List.Sublist.refl _
  | cons x xs ih =>
    unfold onceG
    split
    · exact (ih ids).cons x
    · exact (ih _).cons_cons x
theorem onceG_new (ids : List Int) (l : List Ht) : ∀ x ∈ onceG ids l, x.1 ∉ ids := by
  induction l generalizing ids with
  | nil => intro x hx; cases hx
  | cons y ys ih =>
    intro x hx
    unfold onceG at hx
    split at hx
    · exact ih ids x hx
    · rename_i hb
      rcases List.mem_cons.1 hx with e | e
      · subst e; intro hc; exact hb (by simpa [hasB] using hc)
      · intro hc; exact ih _ x e (List.mem_append_left _ hc)
theorem onceG_distinct (ids : List Int) (l : List Ht) : (onceG ids l).Pairwise (fun a b => a.1 ≠ b.1) := by
  induction l generalizing ids with
  | nil => exact List.Pairwise.nil
  | cons y ys ih =>
    unfold onceG
    split
    · exact ih ids
    · refine List.pairwise_cons.2 ⟨fun z hz e => ?_, ih _⟩
      exact onceG_new _ ys z hz (by rw [← e]; exact List.mem_append_right _ (List.mem_singleton.2 rfl))
theorem onceG_has (ids : List Int) (l : List Ht) (x : Ht) (hx : x ∈ l) : x.1 ∈ ids ∨ ∃ y ∈ onceG ids l, y.1 = x.1 := by
  induction l generalizing ids with
  | nil => cases hx
  | cons y ys ih =>
    unfold onceG
    split
    · rename_i hb
      rcases List.mem_cons.1 hx with e | e
      · subst e; left; simpa [hasB] using hb
      · exact ih ids e
    · rcases List.mem_cons.1 hx with e | e
      · subst e; exact Or.inr ⟨x, List.mem_cons_self .., rfl⟩
      · rcases ih (ids ++ [y.1]) e with h | ⟨z, hz, ez⟩
        · rcases List.mem_append.1 h with h | h
          · exact Or.inl h
          · exact Or.inr ⟨y, List.mem_cons_self .., (List.mem_singleton.1 h).symm⟩
        · exact Or.inr ⟨z, List.mem_cons_of_mem _ hz, ez⟩
/-- A strict order's part that has its first ones has them first. -/
theorem take_part {S U : List Ht} (hS : AheadAll S) (hU : AheadAll U) (hsub : ∀ x ∈ U, x ∈ S) (k : Nat) (hfst : ∀ x ∈ S.take k, x ∈ U) : U.take k = S.take k := by
  have e : U = S.filter (fun x => decide (x ∈ U)) := ahead_unique hU (hS.filter _) (fun x => by
    simp only [List.mem_filter, decide_eq_true_eq]
    exact ⟨fun h => ⟨hsub x h, h⟩, fun h => h.2⟩)
  have e2 : S.filter (fun x => decide (x ∈ U)) = S.take k ++ (S.drop k).filter (fun x => decide (x ∈ U)) := by
    conv => lhs; rw [← List.take_append_drop k S, List.filter_append]
    congr 1
    rw [List.filter_eq_self]
    intro x hx
    simpa using hfst x hx
  rcases Nat.lt_or_ge S.length k with h | h
  · have eS : S.take k = S := List.take_of_length_le (by omega)
    rw [eS] at hfst
    have : U = S := ahead_unique hU hS (fun x => ⟨hsub x, hfst x⟩)
    rw [this]
  · conv => lhs; rw [e, e2]
    rw [List.take_append_of_le_length (by simp; omega), List.take_of_length_le (by simp; omega)]
theorem merged_part {S P : List Ht} (hS : AheadAll S) (hd : S.Pairwise (fun a b => a.1 ≠ b.1)) (hsub : ∀ x ∈ P, x ∈ S) (k : Nat) (hfst : ∀ x ∈ S.take k, x ∈ P) : (onceL (sortL P)).take k = S.take k := by
  have hsame : ∀ a ∈ S, ∀ b ∈ S, a.1 = b.1 → a = b := fun a ha b hb e => by
    obtain ⟨i, hi, rfl⟩ := List.getElem_of_mem ha
    obtain ⟨j, hj, rfl⟩ := List.getElem_of_mem hb
    rcases Nat.lt_trichotomy i j with h | h | h
    · exact absurd e ((List.pairwise_iff_getElem.1 hd) i j hi hj h)
    · subst h; rfl
    · exact absurd e.symm ((List.pairwise_iff_getElem.1 hd) j i hj hi h)
  have hin : ∀ x ∈ onceL (sortL P), x ∈ P := fun x hx => (sortL_perm P).mem_iff.1 ((onceG_sub [] _).subset hx)
  refine take_part hS ?_ (fun x hx => hsub x (hin x hx)) k (fun x hx => ?_)
  · refine sorted_ahead ?_ (onceG_distinct [] _)
    exact List.Pairwise.sublist (onceG_sub [] _) (sortL_sorted P)
  · have hxP := hfst x hx
    rcases onceG_has [] (sortL P) x ((sortL_perm P).mem_iff.2 hxP) with h | ⟨y, hy, e⟩
    · cases h
    · have : y = x := hsame y (hsub y (hin y hy)) x (hsub x hxP) e
      rw [← this]; exact hy
/-- The first of all that are of a part are among the first of the part. -/
theorem first_part {S T : List Ht} (hS : AheadAll S) (hT : AheadAll T) (hsub : ∀ x ∈ T, x ∈ S) (k : Nat) {x : Ht} (hx : x ∈ S.take k) (hxT : x ∈ T) : x ∈ T.take k := by
  have e : T = S.filter (fun x => decide (x ∈ T)) := ahead_unique hT (hS.filter _) (fun x => by
    simp only [List.mem_filter, decide_eq_true_eq]
    exact ⟨fun h => ⟨hsub x h, h⟩, fun h => h.2⟩)
  have e2 : S.filter (fun x => decide (x ∈ T)) = (S.take k).filter (fun x => decide (x ∈ T)) ++ (S.drop k).filter (fun x => decide (x ∈ T)) := by
    conv => lhs; rw [← List.take_append_drop k S, List.filter_append]
  have hl : ((S.take k).filter (fun x => decide (x ∈ T))).length ≤ k := Nat.le_trans (List.length_filter_le _ _) (by simp; omega)
  have hm : x ∈ (S.take k).filter (fun x => decide (x ∈ T)) := List.mem_filter.2 ⟨hx, by simpa using hxT⟩
  rw [e, e2, List.take_append, List.take_of_length_le hl]
  exact List.mem_append_left _ hm

end Go.Proofs.Ytgfcdfiekancnaa
