/-
  Plain mathematics for the laws of chapter 12 (no program is named here): who is tied to whom, by labels; how many parts there are.
-/
import Derived.Test.YtfbindjacmaeoaaZIds
namespace Go.Proofs.Ytfbindjacmaeoaa

abbrev Eg := Nat × Nat
/-- Two parts made one: the lesser label stays. -/
def relab (p : Nat → Nat) (a b : Nat) (i : Nat) : Nat := if p i = max (p a) (p b) then min (p a) (p b) else p i
def labFrom (p : Nat → Nat) (E : List Eg) : Nat → Nat := E.foldl (fun p e => relab p e.1 e.2) p
def lab (E : List Eg) : Nat → Nat := labFrom (fun i => i) E
theorem lab_nil : lab [] = fun i => i := rfl
theorem lab_snoc (E : List Eg) (e : Eg) : lab (E ++ [e]) = relab (lab E) e.1 e.2 := by simp [lab, labFrom]

/-- What labels are: the least of each part. -/
structure LabOk (p : Nat → Nat) (E : List Eg) : Prop where
  le : ∀ i, p i ≤ i
  edge : ∀ e ∈ E, p e.1 = p e.2
  fine : ∀ f : Nat → Nat, (∀ e ∈ E, f e.1 = f e.2) → ∀ i, f (p i) = f i
theorem LabOk.idem {p : Nat → Nat} {E : List Eg} (h : LabOk p E) (i : Nat) : p (p i) = p i := h.fine p h.edge i
theorem relab_eq {p : Nat → Nat} {a b i j : Nat} (h : p i = p j) : relab p a b i = relab p a b j := by unfold relab; rw [h]
theorem relab_two (p : Nat → Nat) (a b : Nat) : relab p a b a = relab p a b b := by
  unfold relab
  rcases Nat.le_total (p a) (p b) with h | h
  · rw [Nat.max_eq_right h, Nat.min_eq_left h, if_pos rfl]
    split <;> rfl
  · rw [Nat.max_eq_left h, Nat.min_eq_right h, if_pos rfl]
    split <;> rfl
theorem LabOk.snoc {p : Nat → Nat} {E : List Eg} (h : LabOk p E) (e : Eg) : LabOk (relab p e.1 e.2) (E ++ [e]) := by
  refine ⟨fun i => ?_, fun x hx => ?_, fun f hf i => ?_⟩
  · unfold relab
    split
    · rename_i hi
      have := h.le i
      omega
    · exact h.le i
  · rcases List.mem_append.1 hx with hx | hx
    · exact relab_eq (h.edge x hx)
    · simp at hx
      rw [hx]
      exact relab_two p e.1 e.2
  · have hE : ∀ x ∈ E, f x.1 = f x.2 := fun x hx => hf x (List.mem_append_left _ hx)
    have he : f e.1 = f e.2 := hf e (by simp)
    have h1 := h.fine f hE
    unfold relab
    split
    · rename_i hi
      have ha := h1 e.1
      have hb := h1 e.2
      have hi' := h1 i
      rcases Nat.le_total (p e.1) (p e.2) with hle | hle
      · rw [Nat.max_eq_right hle] at hi
        rw [Nat.min_eq_left hle, ha, he, ← hb, ← hi, hi']
      · rw [Nat.max_eq_left hle] at hi
        rw [Nat.min_eq_right hle, hb, ← he, ← ha, ← hi, hi']
    · exact h1 i
theorem lab_ok (E : List Eg) : LabOk (lab E) E := by
  have : ∀ (R : List Eg), LabOk (lab R.reverse) R.reverse := fun R => by
    induction R with
    | nil => exact ⟨fun i => Nat.le_refl _, fun e he => by simp at he, fun f _ i => rfl⟩
    | cons e R ih => rw [List.reverse_cons, lab_snoc]; exact ih.snoc e
  have h := this E.reverse
  rwa [List.reverse_reverse] at h
/-- Who is tied by E is tied by whatever ties E's own. -/
theorem lab_sub {E F : List Eg} (h : ∀ e ∈ E, lab F e.1 = lab F e.2) {i j : Nat} (hij : lab E i = lab E j) : lab F i = lab F j := by
  have h1 := (lab_ok E).fine (lab F) h i
  have h2 := (lab_ok E).fine (lab F) h j
  rw [← h1, ← h2, hij]

/-- How many parts n have. -/
def comps (n : Nat) (p : Nat → Nat) : Nat := ((List.range n).filter (fun i => decide (p i = i))).length
theorem comps_id (n : Nat) : comps n (fun i => i) = n := by
  unfold comps
  rw [List.filter_eq_self.2 (fun _ _ => by simp), List.length_range]
theorem filter_len_le {P Q : Nat → Bool} (L : List Nat) (h : ∀ i ∈ L, P i = true → Q i = true) : (L.filter P).length ≤ (L.filter Q).length := by
  induction L with
  | nil => simp
  | cons x L ih =>
    have := ih (fun i hi => h i (List.mem_cons_of_mem _ hi))
    rcases hp : P x with _ | _
    · rcases hq : Q x with _ | _
      · simp [hp, hq]; exact this
      · simp [hp, hq]; omega
    · have hq := h x (List.mem_cons_self ..) hp
      simp [hp, hq]; exact this
/-- Tied more, no more parts. -/
theorem comps_sub {n : Nat} {E F : List Eg} (h : ∀ e ∈ E, lab F e.1 = lab F e.2) : comps n (lab F) ≤ comps n (lab E) := by
  refine filter_len_le _ (fun i _ hi => ?_)
  simp only [decide_eq_true_eq] at hi ⊢
  have h1 := (lab_ok E).fine (lab F) h i
  have h2 := (lab_ok E).le i
  have h3 := (lab_ok F).le (lab E i)
  omega
theorem filter_erase {P : Nat → Bool} {M : Nat} (L : List Nat) (hd : L.Nodup) (hM : M ∈ L) (hP : P M = true) : (L.filter P).length = (L.filter (fun i => P i && decide (i ≠ M))).length + 1 := by
  induction L with
  | nil => simp at hM
  | cons x L ih =>
    have hd' := List.nodup_cons.1 hd
    rcases List.mem_cons.1 hM with e | e
    · subst e
      have hno : L.filter (fun i => P i && decide (i ≠ M)) = L.filter P := by
        refine List.filter_congr (fun i hi => ?_)
        have : i ≠ M := fun e => hd'.1 (e ▸ hi)
        simp [this]
      rw [List.filter_cons_of_pos hP, List.filter_cons_of_neg (by simp), hno]
      simp
    · have hx : x ≠ M := fun e' => hd'.1 (e' ▸ e)
      have := ih hd'.2 e
      rcases hp : P x with _ | _
      · rw [List.filter_cons_of_neg (by simp [hp]), List.filter_cons_of_neg (by simp [hp])]; exact this
      · rw [List.filter_cons_of_pos hp, List.filter_cons_of_pos (by simp [hp, hx])]
        simp only [List.length_cons]
        omega
theorem relab_same {p : Nat → Nat} {a b : Nat} (h : p a = p b) : relab p a b = p := by
  funext i
  unfold relab
  rw [h]
  split
  · rename_i hi; omega
  · rfl
/-- One more thread between two parts: one part less. -/
theorem comps_step {n : Nat} {E : List Eg} {e : Eg} (h1 : e.1 < n) (h2 : e.2 < n) (hne : lab E e.1 ≠ lab E e.2) : comps n (lab E) = comps n (lab (E ++ [e])) + 1 := by
  have hok := lab_ok E
  rw [lab_snoc]
  have l1 := hok.le e.1
  have l2 := hok.le e.2
  have i1 := hok.idem e.1
  have i2 := hok.idem e.2
  generalize hp : lab E = p at *
  have hM : p (max (p e.1) (p e.2)) = max (p e.1) (p e.2) := by
    rcases Nat.le_total (p e.1) (p e.2) with h | h
    · rw [Nat.max_eq_right h]; exact i2
    · rw [Nat.max_eq_left h]; exact i1
  unfold comps
  rw [filter_erase (M := max (p e.1) (p e.2)) (List.range n) List.nodup_range (List.mem_range.2 (by omega)) (by simpa using hM)]
  congr 1
  congr 1
  refine List.filter_congr (fun i _ => ?_)
  have hle := hok.le i
  unfold relab
  by_cases hi : p i = max (p e.1) (p e.2)
  · rw [if_pos hi]
    by_cases hii : p i = i
    · have : i = max (p e.1) (p e.2) := by omega
      have hm : ¬ min (p e.1) (p e.2) = i := by omega
      simp [hm, ← this]
    · have hm : ¬ min (p e.1) (p e.2) = i := by omega
      simp [hm, hii]
  · rw [if_neg hi]
    by_cases hii : p i = i
    · have : i ≠ max (p e.1) (p e.2) := by omega
      simp [hii, this]
    · simp [hii]
theorem comps_drop {n : Nat} (E : List Eg) (F : List Eg) (hF : ∀ e ∈ F, e.1 < n ∧ e.2 < n) : comps n (lab E) ≤ comps n (lab (E ++ F)) + F.length := by
  induction F generalizing E with
  | nil => simp
  | cons e F ih =>
    have h := ih (E ++ [e]) (fun x hx => hF x (List.mem_cons_of_mem _ hx))
    rw [List.append_assoc] at h
    simp only [List.cons_append, List.nil_append] at h
    have he := hF e (List.mem_cons_self ..)
    by_cases hne : lab E e.1 = lab E e.2
    · have e2 : lab (E ++ [e]) = lab E := by rw [lab_snoc]; exact relab_same hne
      rw [e2] at h
      simp only [List.length_cons]
      omega
    · have := comps_step he.1 he.2 hne
      simp only [List.length_cons]
      omega
/-- Labels of the same threads in another order, or some twice. -/
theorem comps_same {n : Nat} {E F : List Eg} (h : ∀ e, e ∈ E ↔ e ∈ F) : comps n (lab E) = comps n (lab F) :=
  Nat.le_antisymm (comps_sub (fun e he => (lab_ok E).edge e ((h e).2 he))) (comps_sub (fun e he => (lab_ok F).edge e ((h e).1 he)))
theorem comps_pos {n : Nat} (hn : 0 < n) (E : List Eg) : 1 ≤ comps n (lab E) := by
  have h0 : lab E 0 = 0 := by have := (lab_ok E).le 0; omega
  unfold comps
  exact List.length_pos_of_mem (List.mem_filter.2 ⟨List.mem_range.2 hn, by simpa using h0⟩)
/-- All tied together: one part. -/
theorem comps_one {n : Nat} (hn : 0 < n) {E : List Eg} (h : ∀ i, i < n → lab E i = lab E 0) : comps n (lab E) = 1 := by
  have h0 : lab E 0 = 0 := by have := (lab_ok E).le 0; omega
  have h1 : (List.range n).filter (fun i => decide (lab E i = i)) = (List.range n).filter (fun i => decide (i = 0)) := by
    refine List.filter_congr (fun i hi => ?_)
    rw [h i (List.mem_range.1 hi), h0]
    congr 1
    exact propext ⟨fun e => e.symm, fun e => e.symm⟩
  have h2 := comps_pos hn E
  unfold comps at *
  rw [h1] at h2 ⊢
  obtain ⟨m, rfl⟩ : ∃ m, n = m + 1 := ⟨n - 1, by omega⟩
  rw [List.range_succ_eq_map, List.filter_cons_of_pos (by simp), List.filter_map]
  have : (List.range m).filter ((fun i => decide (i = 0)) ∘ Nat.succ) = [] := List.filter_eq_nil_iff.2 (fun i _ => by simp)
  rw [this]
  rfl
theorem one_tied {n : Nat} {E : List Eg} (h : comps n (lab E) ≤ 1) {i : Nat} (hi : i < n) : lab E i = lab E 0 := by
  have h0 : lab E 0 = 0 := by have := (lab_ok E).le 0; omega
  have hidem := (lab_ok E).idem i
  have hle := (lab_ok E).le i
  rcases Nat.eq_zero_or_pos (lab E i) with e | hp
  · omega
  · exfalso
    have hsub : [0, lab E i].length ≤ ((List.range n).filter (fun i => decide (lab E i = i))).length := by
      refine List.Nodup.length_le_of_subset (by simp; omega) (fun x hx => ?_)
      simp at hx
      rcases hx with rfl | rfl
      · exact List.mem_filter.2 ⟨List.mem_range.2 (by omega), by simpa using h0⟩
      · exact List.mem_filter.2 ⟨List.mem_range.2 (by omega), by simpa using hidem⟩
    unfold comps at h
    simp only [List.length_cons, List.length_nil] at hsub
    omega

end Go.Proofs.Ytfbindjacmaeoaa
