/-
  Plain mathematics for the laws of chapter 7 (no program is named here): groups by a key, in the order of their first ones.
-/
import Derived.Test.YthddhblmnfjciaaGMath
namespace Go.Proofs.Ythddhblmnfjciaa

abbrev Grp (α : Type) := List Int × List α
/-- One more, into the group of its key. -/
def addG {α : Type} (key : List Int) (d : α) : List (Grp α) → List (Grp α)
  | [] => [(key, [d])]
  | x :: r => if x.1 = key then (x.1, x.2 ++ [d]) :: r else x :: addG key d r
def grpG {α : Type} (f : α → List Int) (ds : List α) : List (Grp α) := ds.foldl (fun gs d => addG (f d) d gs) []
theorem grpG_snoc {α : Type} (f : α → List Int) (ds : List α) (d : α) : grpG f (ds ++ [d]) = addG (f d) d (grpG f ds) := by simp [grpG, List.foldl_append]
theorem grpG_nil {α : Type} (f : α → List Int) : grpG f ([] : List α) = [] := rfl
/-- Where a key stands, past the end where it does not. -/
def atG {α : Type} (key : List Int) : List (Grp α) → Nat
  | [] => 0
  | x :: r => if x.1 = key then 0 else atG key r + 1
theorem atG_le {α : Type} (key : List Int) (gs : List (Grp α)) : atG key gs ≤ gs.length := by
  induction gs with
  | nil => simp [atG]
  | cons x r ih => simp only [atG]; split <;> simp <;> omega
theorem atG_key {α : Type} (key : List Int) (gs : List (Grp α)) (h : atG key gs < gs.length) : gs[atG key gs].1 = key := by
  induction gs with
  | nil => simp at h
  | cons x r ih =>
    simp only [atG] at h ⊢
    by_cases hx : x.1 = key
    · simp [hx]
    · simp only [if_neg hx, List.length_cons] at h ⊢
      simp only [List.getElem_cons_succ]
      exact ih (by omega)
theorem atG_not {α : Type} (key : List Int) (gs : List (Grp α)) (h : atG key gs = gs.length) : ∀ x ∈ gs, x.1 ≠ key := by
  induction gs with
  | nil => simp
  | cons x r ih =>
    simp only [atG] at h
    by_cases hx : x.1 = key
    · simp [if_pos hx] at h
    · rw [if_neg hx] at h
      simp at h
      intro y hy
      rcases List.mem_cons.1 hy with rfl | hy
      · exact hx
      · exact ih h y hy
theorem addG_new {α : Type} (key : List Int) (d : α) (gs : List (Grp α)) (h : atG key gs = gs.length) : addG key d gs = gs ++ [(key, [d])] := by
  induction gs with
  | nil => rfl
  | cons x r ih =>
    simp only [atG] at h
    by_cases hx : x.1 = key
    · simp [if_pos hx] at h
    · rw [if_neg hx] at h
      simp at h
      simp only [addG, if_neg hx, List.cons_append]
      rw [ih h]
theorem addG_old {α : Type} (key : List Int) (d : α) (gs : List (Grp α)) (h : atG key gs < gs.length) : addG key d gs = gs.set (atG key gs) (key, (gs[atG key gs]).2 ++ [d]) := by
  induction gs with
  | nil => simp at h
  | cons x r ih =>
    simp only [atG] at h ⊢
    by_cases hx : x.1 = key
    · simp [addG, hx]
    · simp only [if_neg hx, List.length_cons] at h ⊢
      simp only [addG, if_neg hx, List.set_cons_succ, List.getElem_cons_succ]
      rw [ih (by omega)]
/-- What stands under a key. -/
def lookG {α : Type} (key : List Int) (gs : List (Grp α)) : List α := if h : atG key gs < gs.length then gs[atG key gs].2 else []
theorem lookG_cons {α : Type} (key : List Int) (x : Grp α) (r : List (Grp α)) : lookG key (x :: r) = if x.1 = key then x.2 else lookG key r := by
  unfold lookG
  by_cases hx : x.1 = key
  · simp [atG, hx]
  · simp only [atG, if_neg hx, List.length_cons]
    by_cases h : atG key r < r.length
    · rw [dif_pos (by omega), dif_pos h]; rfl
    · rw [dif_neg (by omega), dif_neg h]
theorem lookG_add {α : Type} (key k2 : List Int) (d : α) (gs : List (Grp α)) : lookG key (addG k2 d gs) = if k2 = key then lookG key gs ++ [d] else lookG key gs := by
  induction gs with
  | nil =>
    simp only [addG]
    rw [lookG_cons]
    have e : lookG key ([] : List (Grp α)) = [] := rfl
    rw [e]; rfl
  | cons x r ih =>
    simp only [addG]
    by_cases hx : x.1 = k2
    · rw [if_pos hx, lookG_cons, lookG_cons]
      by_cases hk : k2 = key
      · simp [hx, hk]
      · simp [hx, hk]
    · rw [if_neg hx, lookG_cons, lookG_cons, ih]
      by_cases hk : k2 = key
      · have : x.1 ≠ key := by rw [← hk]; exact hx
        simp [hk, this]
      · simp [hk]
theorem lookG_grp {α : Type} (f : α → List Int) (key : List Int) (ds : List α) : lookG key (grpG f ds) = ds.filter (fun d => decide (f d = key)) := by
  have H : ∀ (l : List α) (pre : List α), ds = pre ++ l → lookG key (grpG f pre) = pre.filter (fun d => decide (f d = key)) → lookG key (grpG f ds) = ds.filter (fun d => decide (f d = key)) := by
    intro l
    induction l with
    | nil => intro pre e h; rw [List.append_nil] at e; rw [e]; exact h
    | cons d l ih =>
      intro pre e h
      refine ih (pre ++ [d]) (by rw [e]; simp) ?_
      rw [grpG_snoc, lookG_add, h, List.filter_append]
      by_cases hk : f d = key
      · simp [hk]
      · simp [hk]
  exact H ds [] rfl rfl
/-- No group is empty, no key stands twice. -/
theorem addG_some {α : Type} (key : List Int) (d : α) (gs : List (Grp α)) (h : ∀ x ∈ gs, x.2 ≠ []) : ∀ x ∈ addG key d gs, x.2 ≠ [] := by
  induction gs with
  | nil => simp [addG]
  | cons x r ih =>
    simp only [addG]
    by_cases hx : x.1 = key
    · rw [if_pos hx]
      intro y hy
      rcases List.mem_cons.1 hy with rfl | hy
      · simp
      · exact h y (List.mem_cons_of_mem _ hy)
    · rw [if_neg hx]
      intro y hy
      rcases List.mem_cons.1 hy with rfl | hy
      · exact h y (List.mem_cons_self ..)
      · exact ih (fun z hz => h z (List.mem_cons_of_mem _ hz)) y hy
theorem addG_keys {α : Type} (key : List Int) (d : α) (gs : List (Grp α)) : (addG key d gs).map (·.1) = if key ∈ gs.map (·.1) then gs.map (·.1) else gs.map (·.1) ++ [key] := by
  induction gs with
  | nil => simp [addG]
  | cons x r ih =>
    simp only [addG]
    by_cases hx : x.1 = key
    · rw [if_pos hx]; simp [hx]
    · rw [if_neg hx, List.map_cons, ih]
      have e : (key ∈ List.map (·.1) (x :: r)) ↔ key ∈ r.map (·.1) := by
        rw [List.map_cons, List.mem_cons]
        exact ⟨fun h => h.resolve_left (fun e => hx e.symm), Or.inr⟩
      by_cases hk : key ∈ r.map (·.1)
      · rw [if_pos hk, if_pos (e.2 hk)]; rfl
      · rw [if_neg hk, if_neg (fun h => hk (e.1 h))]; rfl
/-- The keys, each once, in the order of their first ones. -/
def keysG {α : Type} (f : α → List Int) (ds : List α) : List (List Int) := ds.foldl (fun out d => if f d ∈ out then out else out ++ [f d]) []
theorem keysG_snoc {α : Type} (f : α → List Int) (ds : List α) (d : α) : keysG f (ds ++ [d]) = if f d ∈ keysG f ds then keysG f ds else keysG f ds ++ [f d] := by unfold keysG; rw [List.foldl_append]; rfl
theorem snocInd {α : Type} {P : List α → Prop} (h0 : P []) (h1 : ∀ l x, P l → P (l ++ [x])) (ds : List α) : P ds := by
  have H : ∀ (l pre : List α), P pre → P (pre ++ l) := by
    intro l
    induction l with
    | nil => intro pre h; rwa [List.append_nil]
    | cons d l ih => intro pre h; have := ih (pre ++ [d]) (h1 pre d h); simpa using this
  have := H ds [] h0
  simpa using this
theorem grpG_keys {α : Type} (f : α → List Int) (ds : List α) : (grpG f ds).map (·.1) = keysG f ds := by
  refine snocInd (P := fun ds => (grpG f ds).map (·.1) = keysG f ds) rfl (fun l x h => ?_) ds
  rw [grpG_snoc, addG_keys, h, keysG_snoc]
theorem grpG_some {α : Type} (f : α → List Int) (ds : List α) : ∀ x ∈ grpG f ds, x.2 ≠ [] := by
  refine snocInd (P := fun ds => ∀ x ∈ grpG f ds, x.2 ≠ []) (by simp [grpG_nil]) (fun l x h => ?_) ds
  rw [grpG_snoc]
  exact addG_some _ _ _ h
theorem keysG_nodup {α : Type} (f : α → List Int) (ds : List α) : (keysG f ds).Nodup := by
  refine snocInd (P := fun ds => (keysG f ds).Nodup) (by simp [keysG]) (fun l x h => ?_) ds
  rw [keysG_snoc]
  split
  · exact h
  · rename_i hx
    exact List.nodup_append.2 ⟨h, by simp, fun a ha b hb => by rw [List.mem_singleton.1 hb]; intro e; exact hx (e ▸ ha)⟩
theorem keysG_mem {α : Type} (f : α → List Int) (ds : List α) (k : List Int) : k ∈ keysG f ds ↔ ∃ d ∈ ds, f d = k := by
  refine snocInd (P := fun ds => k ∈ keysG f ds ↔ ∃ d ∈ ds, f d = k) (by simp [keysG]) (fun l x h => ?_) ds
  rw [keysG_snoc]
  by_cases hx : f x ∈ keysG f l
  · rw [if_pos hx, h]
    constructor
    · rintro ⟨d, hd, e⟩; exact ⟨d, List.mem_append_left _ hd, e⟩
    · rintro ⟨d, hd, e⟩
      rcases List.mem_append.1 hd with hd | hd
      · exact ⟨d, hd, e⟩
      · rw [List.mem_singleton.1 hd] at e
        exact h.1 (e ▸ hx)
  · rw [if_neg hx, List.mem_append, h, List.mem_singleton]
    constructor
    · rintro (⟨d, hd, e⟩ | e)
      · exact ⟨d, List.mem_append_left _ hd, e⟩
      · exact ⟨x, by simp, e.symm⟩
    · rintro ⟨d, hd, e⟩
      rcases List.mem_append.1 hd with hd | hd
      · exact Or.inl ⟨d, hd, e⟩
      · rw [List.mem_singleton.1 hd] at e
        exact Or.inr e.symm
theorem keysG_length {α : Type} (f : α → List Int) (ds : List α) : (keysG f ds).length ≤ ds.length := by
  refine snocInd (P := fun ds => (keysG f ds).length ≤ ds.length) (by simp [keysG]) (fun l x h => ?_) ds
  rw [keysG_snoc]
  split <;> simp <;> omega
theorem atG_unique {α : Type} {gs : List (Grp α)} (hn : (gs.map (·.1)).Nodup) (i : Nat) (hi : i < gs.length) : atG gs[i].1 gs = i := by
  have h1 : atG gs[i].1 gs < gs.length := by
    rcases Nat.lt_or_ge (atG gs[i].1 gs) gs.length with h | h
    · exact h
    · exact absurd rfl (atG_not gs[i].1 gs (Nat.le_antisymm (atG_le _ _) h) gs[i] (List.getElem_mem hi))
  have h2 := atG_key gs[i].1 gs h1
  have a1 : atG gs[i].1 gs < (gs.map (·.1)).length := by simpa using h1
  have a2 : i < (gs.map (·.1)).length := by simpa using hi
  have h4 : (gs.map (·.1))[atG gs[i].1 gs] = (gs.map (·.1))[i] := by simpa using h2
  exact (List.getElem_inj hn).1 h4
theorem lookG_at {α : Type} {gs : List (Grp α)} (hn : (gs.map (·.1)).Nodup) (i : Nat) (hi : i < gs.length) : lookG gs[i].1 gs = gs[i].2 := by
  unfold lookG
  have e := atG_unique hn i hi
  rw [dif_pos (by omega)]
  congr 1
  exact getElem_congr_idx e

end Go.Proofs.Ythddhblmnfjciaa
