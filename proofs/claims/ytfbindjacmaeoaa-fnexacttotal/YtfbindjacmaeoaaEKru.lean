/-
  Plain mathematics for the laws of chapter 12 (no program is named here): Kruskal's threads; no others that tie all together have less in all.
-/
import Derived.Test.YtfbindjacmaeoaaELab
namespace Go.Proofs.Ytfbindjacmaeoaa

/-- Of these, in their order, each that ties two parts together. -/
def kruF (S : List Eg) : List Eg := S.foldl (fun T e => if lab T e.1 = lab T e.2 then T else T ++ [e]) []
theorem kru_snoc (S : List Eg) (e : Eg) : kruF (S ++ [e]) = if lab (kruF S) e.1 = lab (kruF S) e.2 then kruF S else kruF S ++ [e] := by
  unfold kruF
  rw [List.foldl_append]
  rfl
theorem snoc_ind {P : List Eg → Prop} (h0 : P []) (h1 : ∀ S e, P S → P (S ++ [e])) (S : List Eg) : P S := by
  have : ∀ R : List Eg, P R.reverse := fun R => by
    induction R with
    | nil => exact h0
    | cons e R ih => rw [List.reverse_cons]; exact h1 _ _ ih
  have h := this S.reverse
  rwa [List.reverse_reverse] at h
theorem kru_sub (S : List Eg) : (kruF S).Sublist S := by
  refine snoc_ind (P := fun S => (kruF S).Sublist S) (List.Sublist.refl _) (fun S e ih => ?_) S
  rw [kru_snoc]
  split
  · exact ih.trans (List.sublist_append_left S [e])
  · exact ih.append (List.Sublist.refl _)
theorem kru_edge (S : List Eg) : ∀ e ∈ S, lab (kruF S) e.1 = lab (kruF S) e.2 := by
  refine snoc_ind (P := fun S => ∀ e ∈ S, lab (kruF S) e.1 = lab (kruF S) e.2) (fun e he => by simp at he) (fun S e ih x hx => ?_) S
  rw [kru_snoc]
  split
  · rename_i h
    rcases List.mem_append.1 hx with hx | hx
    · exact ih x hx
    · simp at hx; rw [hx]; exact h
  · rw [lab_snoc]
    rcases List.mem_append.1 hx with hx | hx
    · exact relab_eq (ih x hx)
    · simp at hx; rw [hx]; exact relab_two _ _ _
/-- Each of them ties two parts that those ahead had not tied. -/
theorem kru_new (S : List Eg) : ∀ m (hm : m < (kruF S).length), lab ((kruF S).take m) ((kruF S)[m]).1 ≠ lab ((kruF S).take m) ((kruF S)[m]).2 ∧ ∃ S1 S2, S = S1 ++ (kruF S)[m] :: S2 ∧ kruF S1 = (kruF S).take m := by
  refine snoc_ind (P := fun S => ∀ m (hm : m < (kruF S).length), lab ((kruF S).take m) ((kruF S)[m]).1 ≠ lab ((kruF S).take m) ((kruF S)[m]).2 ∧ ∃ S1 S2, S = S1 ++ (kruF S)[m] :: S2 ∧ kruF S1 = (kruF S).take m) (fun m hm => by simp [kruF] at hm) (fun S e ih m hm => ?_) S
  by_cases h : lab (kruF S) e.1 = lab (kruF S) e.2
  · have e1 : kruF (S ++ [e]) = kruF S := by rw [kru_snoc, if_pos h]
    simp only [e1] at hm ⊢
    obtain ⟨h1, S1, S2, h2, h3⟩ := ih m hm
    exact ⟨h1, S1, S2 ++ [e], by rw [← List.cons_append, ← List.append_assoc, ← h2], h3⟩
  · have e1 : kruF (S ++ [e]) = kruF S ++ [e] := by rw [kru_snoc, if_neg h]
    simp only [e1] at hm ⊢
    rcases Nat.lt_or_ge m (kruF S).length with hlt | hge
    · obtain ⟨h1, S1, S2, h2, h3⟩ := ih m hlt
      have e2 : (kruF S ++ [e]).take m = (kruF S).take m := List.take_append_of_le_length (by omega)
      have e3 : (kruF S ++ [e])[m] = (kruF S)[m] := List.getElem_append_left hlt
      rw [e2, e3]
      exact ⟨h1, S1, S2 ++ [e], by rw [← List.cons_append, ← List.append_assoc, ← h2], h3⟩
    · have hme : m = (kruF S).length := by simp at hm; omega
      subst hme
      have e2 : (kruF S ++ [e]).take (kruF S).length = kruF S := by simp
      have e3 : (kruF S ++ [e])[(kruF S).length] = e := by simp
      rw [e2, e3]
      exact ⟨h, S, [], rfl, rfl⟩
/-- Of n, the first m of them leave n - m parts. -/
theorem kru_comps {n : Nat} {S : List Eg} (hS : ∀ e ∈ S, e.1 < n ∧ e.2 < n) : ∀ m, m ≤ (kruF S).length → comps n (lab ((kruF S).take m)) + m = n := by
  intro m
  induction m with
  | zero => intro _; simp [lab_nil, comps_id]
  | succ m ih =>
    intro hm
    have h1 := ih (by omega)
    have h2 := (kru_new S m (by omega)).1
    have hin := hS _ ((kru_sub S).subset (List.getElem_mem (by omega : m < (kruF S).length)))
    have h3 := comps_step hin.1 hin.2 h2
    rw [← List.take_succ_eq_append_getElem (by omega : m < (kruF S).length)] at h3
    omega
theorem kru_all {n : Nat} {S : List Eg} (hS : ∀ e ∈ S, e.1 < n ∧ e.2 < n) : comps n (lab (kruF S)) + (kruF S).length = n := by
  have := kru_comps hS (kruF S).length (Nat.le_refl _)
  rwa [List.take_length] at this

def wt (D : Nat → Nat → Int) (e : Eg) : Int := D e.1 e.2
def leE (D : Nat → Nat → Int) (x : Int) (L : List Eg) : List Eg := L.filter (fun e => decide (wt D e ≤ x))
def gtE (D : Nat → Nat → Int) (x : Int) (L : List Eg) : List Eg := L.filter (fun e => !decide (wt D e ≤ x))
def Asc (D : Nat → Nat → Int) (S : List Eg) : Prop := S.Pairwise (fun e f => wt D e ≤ wt D f)
theorem leE_parts (D : Nat → Nat → Int) (x : Int) (L : List Eg) : (leE D x L).length + (gtE D x L).length = L.length := by
  unfold leE gtE
  induction L with
  | nil => rfl
  | cons e L ih =>
    by_cases h : wt D e ≤ x
    · simp [h]; omega
    · simp [h]; omega
theorem leE_all {D : Nat → Nat → Int} {x : Int} {L : List Eg} (h : ∀ e ∈ L, wt D e ≤ x) : leE D x L = L := List.filter_eq_self.2 (fun e he => by simpa using h e he)
/-- The short ones among the threads are the threads of the short ones. -/
theorem kru_le {D : Nat → Nat → Int} (x : Int) {S : List Eg} (hs : Asc D S) : leE D x (kruF S) = kruF (leE D x S) := by
  revert hs
  refine snoc_ind (P := fun S => Asc D S → leE D x (kruF S) = kruF (leE D x S)) (fun _ => rfl) (fun S e ih hs => ?_) S
  have hs' := List.pairwise_append.1 hs
  by_cases h : wt D e ≤ x
  · have hall : ∀ f ∈ S ++ [e], wt D f ≤ x := fun f hf => by
      rcases List.mem_append.1 hf with hf | hf
      · exact Int.le_trans (hs'.2.2 f hf e (by simp)) h
      · simp at hf; rw [hf]; exact h
    rw [leE_all hall, leE_all (fun f hf => hall f ((kru_sub _).subset hf))]
  · have e1 : leE D x (S ++ [e]) = leE D x S := by unfold leE; rw [List.filter_append]; simp [h]
    rw [e1, ← ih hs'.1, kru_snoc]
    split
    · rfl
    · unfold leE; rw [List.filter_append]; simp [h]
theorem kru_asc {D : Nat → Nat → Int} {S : List Eg} (hs : Asc D S) : Asc D (kruF S) := hs.sublist (kru_sub S)

def sumW (D : Nat → Nat → Int) (L : List Eg) : Int := (L.map (wt D)).sum
def capW (D : Nat → Nat → Int) (W : Nat) (L : List Eg) : Int := (L.map (fun e => min (wt D e) (W : Int))).sum
theorem capW_succ (D : Nat → Nat → Int) (W : Nat) (L : List Eg) : capW D (W + 1) L = capW D W L + (gtE D W L).length := by
  unfold capW gtE
  induction L with
  | nil => rfl
  | cons e L ih =>
    simp only [List.map_cons, List.sum_cons]
    by_cases h : wt D e ≤ (W : Int)
    · rw [List.filter_cons_of_neg (by simp [h])]
      omega
    · rw [List.filter_cons_of_pos (by simp [h])]
      simp only [List.length_cons]
      omega
theorem capW_zero {D : Nat → Nat → Int} {L : List Eg} (h : ∀ e ∈ L, 0 ≤ wt D e) : capW D 0 L = 0 := by
  unfold capW
  induction L with
  | nil => rfl
  | cons e L ih =>
    have h0 := h e (List.mem_cons_self ..)
    simp only [List.map_cons, List.sum_cons]
    rw [ih (fun x hx => h x (List.mem_cons_of_mem _ hx))]
    omega
theorem capW_all {D : Nat → Nat → Int} {W : Nat} {L : List Eg} (h : ∀ e ∈ L, wt D e ≤ W) : capW D W L = sumW D L := by
  unfold capW sumW
  induction L with
  | nil => rfl
  | cons e L ih =>
    have h0 := h e (List.mem_cons_self ..)
    simp only [List.map_cons, List.sum_cons]
    rw [ih (fun x hx => h x (List.mem_cons_of_mem _ hx))]
    omega
/-- Of those that tie all together, as many as there are less one, no more are short than of the threads. -/
theorem kru_more {n : Nat} {D : Nat → Nat → Int} {S : List Eg} (hs : Asc D S) (hS : ∀ e ∈ S, e.1 < n ∧ e.2 < n) (b : List Eg) (hb : ∀ e ∈ b, e ∈ S) (hbl : b.length + 1 = n) (hbc : ∀ i, i < n → lab b i = lab b 0) (x : Int) :
    (leE D x b).length ≤ (leE D x (kruF S)).length := by
  have hbn : ∀ e ∈ b, e.1 < n ∧ e.2 < n := fun e he => hS e (hb e he)
  have h1 : comps n (lab (leE D x b)) ≤ comps n (lab (leE D x b ++ gtE D x b)) + (gtE D x b).length := comps_drop _ _ (fun e he => hbn e (List.mem_filter.1 he).1)
  have h2 : comps n (lab (leE D x b ++ gtE D x b)) = comps n (lab b) := comps_same (fun e => by
    unfold leE gtE
    rw [List.mem_append, List.mem_filter, List.mem_filter]
    constructor
    · rintro (h | h) <;> exact h.1
    · intro h
      by_cases hx : wt D e ≤ x
      · exact Or.inl ⟨h, by simpa using hx⟩
      · exact Or.inr ⟨h, by simpa using hx⟩)
  have h3 := comps_one (by omega) hbc
  have h4 := leE_parts D x b
  have h5 : comps n (lab (kruF (leE D x S))) ≤ comps n (lab (leE D x b)) := comps_sub (fun e he => kru_edge _ e (by
    have he' := List.mem_filter.1 he
    exact List.mem_filter.2 ⟨hb e he'.1, he'.2⟩))
  have h6 := kru_all (n := n) (S := leE D x S) (fun e he => hS e (List.mem_filter.1 he).1)
  rw [kru_le x hs]
  omega
/-- Kruskal: no others that tie all together have less in all. -/
theorem kru_least {n : Nat} {D : Nat → Nat → Int} {S : List Eg} (hs : Asc D S) (hS : ∀ e ∈ S, e.1 < n ∧ e.2 < n) (hW : ∀ e ∈ S, 0 ≤ wt D e ∧ wt D e ≤ 16000000) (b : List Eg) (hb : ∀ e ∈ b, e ∈ S) (hbl : b.length + 1 = n) (hbc : ∀ i, i < n → lab b i = lab b 0) :
    (kruF S).length = b.length ∧ sumW D (kruF S) ≤ sumW D b := by
  have hT : ∀ e ∈ kruF S, e ∈ S := fun e he => (kru_sub S).subset he
  have hlen : (kruF S).length = b.length := by
    have h1 := kru_all hS
    have h2 : comps n (lab (kruF S)) ≤ comps n (lab b) := comps_sub (fun e he => kru_edge S e (hb e he))
    have h3 := comps_one (by omega) hbc
    have h4 := comps_pos (n := n) (by omega) (kruF S)
    omega
  refine ⟨hlen, ?_⟩
  have key : ∀ W : Nat, capW D W (kruF S) ≤ capW D W b := fun W => by
    induction W with
    | zero => rw [capW_zero (fun e he => (hW e (hT e he)).1), capW_zero (fun e he => (hW e (hb e he)).1)]; omega
    | succ W ih =>
      rw [capW_succ, capW_succ]
      have h1 := kru_more hs hS b hb hbl hbc (W : Int)
      have h2 := leE_parts D W b
      have h3 := leE_parts D W (kruF S)
      omega
  have h := key 16000000
  rwa [capW_all (fun e he => (hW e (hT e he)).2), capW_all (fun e he => (hW e (hb e he)).2)] at h
/-- All pairs among them: the threads tie all together, one less than there are. -/
theorem kru_span {n : Nat} (hn : 0 < n) {S : List Eg} (hS : ∀ e ∈ S, e.1 < n ∧ e.2 < n) (hall : ∀ i, 0 < i → i < n → (0, i) ∈ S) : (∀ i, i < n → lab (kruF S) i = lab (kruF S) 0) ∧ (kruF S).length + 1 = n := by
  have h1 : ∀ i, i < n → lab (kruF S) i = lab (kruF S) 0 := fun i hi => by
    rcases Nat.eq_zero_or_pos i with e | hp
    · rw [e]
    · exact (kru_edge S _ (hall i hp hi)).symm
  have h2 := comps_one hn h1
  have h3 := kru_all hS
  exact ⟨h1, by omega⟩

end Go.Proofs.Ytfbindjacmaeoaa
