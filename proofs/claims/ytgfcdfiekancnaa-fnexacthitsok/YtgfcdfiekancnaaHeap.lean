/-
  Plain mathematics of a heap of hits in a list (no program is named here): what a step up and a step down keep, and that the first is the least.
-/
import Derived.Test.YtgfcdfiekancnaaHLaw2
namespace Go.Proofs.Ytgfcdfiekancnaa

def swapL (l : List Ht) (i j : Nat) : List Ht := (l.set i (hnth l j)).set j (hnth l i)
theorem swapL_length (l : List Ht) (i j : Nat) : (swapL l i j).length = l.length := by simp [swapL]
theorem hnth_set (l : List Ht) (i k : Nat) (x : Ht) (hk : k < l.length) : hnth (l.set i x) k = if k = i then x else hnth l k := by
  unfold hnth
  by_cases h : k = i
  · subst h; simp [List.getD, hk]
  · simp [List.getD, h, Ne.symm h]
theorem swapL_at (l : List Ht) (i j k : Nat) (_hi : i < l.length) (_hj : j < l.length) (hk : k < l.length) : hnth (swapL l i j) k = if k = j then hnth l i else if k = i then hnth l j else hnth l k := by
  unfold swapL
  rw [hnth_set _ _ _ _ (by simp; exact hk)]
  split
  · rfl
  · rw [hnth_set _ _ _ _ hk]
theorem swapL_perm (l : List Ht) (i j : Nat) (hi : i < l.length) (hj : j < l.length) : (swapL l i j).Perm l := by
  have e1 : hnth l j = l[j] := by simp [hnth, List.getD, hj]
  have e2 : hnth l i = l[i] := by simp [hnth, List.getD, hi]
  unfold swapL
  rw [e1, e2]
  exact List.set_set_perm hi hj
def par (c : Nat) : Nat := (c - 1) / 2
/-- The first n are a heap. -/
def HeapN (l : List Ht) (n : Nat) : Prop := ∀ c, 0 < c → c < n → leH (hnth l (par c)) (hnth l c)
/-- A heap but for what stands above j. -/
def UpAt (l : List Ht) (n j : Nat) : Prop := (∀ c, 0 < c → c < n → c ≠ j → leH (hnth l (par c)) (hnth l c)) ∧ ∀ c, 0 < c → c < n → par c = j → 0 < j → leH (hnth l (par j)) (hnth l c)
/-- A heap but for what stands below i. -/
def DownAt (l : List Ht) (n i : Nat) : Prop := (∀ c, 0 < c → c < n → par c ≠ i → leH (hnth l (par c)) (hnth l c)) ∧ ∀ c, 0 < c → c < n → par c = i → 0 < i → leH (hnth l (par i)) (hnth l c)

theorem heap_first {l : List Ht} {n : Nat} (h : HeapN l n) (c : Nat) (hc : c < n) : leH (hnth l 0) (hnth l c) := by
  induction c using Nat.strongRecOn with
  | _ c ih =>
    rcases Nat.eq_zero_or_pos c with h0 | h0
    · subst h0; exact leH_refl _
    · have hp : par c < c := by unfold par; omega
      exact leH_trans (ih (par c) hp (by omega)) (h c h0 hc)
theorem up_done {l : List Ht} {n j : Nat} (h : UpAt l n j) (hj : j = 0 ∨ leH (hnth l (par j)) (hnth l j)) : HeapN l n := fun c h0 hc => by
  by_cases e : c = j
  · subst e
    rcases hj with hj | hj
    · omega
    · exact hj
  · exact h.1 c h0 hc e
theorem up_step {l : List Ht} {n j : Nat} (h : UpAt l n j) (hn : n ≤ l.length) (h0 : 0 < j) (hj : j < n) (ha : aheadB (hnth l j) (hnth l (par j)) = true) : UpAt (swapL l (par j) j) n (par j) := by
  have hp : par j < j := by unfold par; omega
  have hle := leH_of_ahead ha
  have at' : ∀ k, k < n → hnth (swapL l (par j) j) k = if k = j then hnth l (par j) else if k = par j then hnth l j else hnth l k := fun k hk => swapL_at l (par j) j k (by omega) (by omega) (by omega)
  refine ⟨fun c hc0 hc hne => ?_, fun c hc0 hc hpc hp0 => ?_⟩
  · have hpc : par c < c := by unfold par; omega
    rw [at' c hc, at' (par c) (by omega)]
    by_cases e1 : c = j
    · subst e1
      rw [if_pos rfl, if_neg (by omega), if_pos rfl]
      exact hle
    · rw [if_neg e1, if_neg hne]
      by_cases e2 : par c = j
      · rw [if_pos e2]
        exact h.2 c hc0 hc e2 h0
      · rw [if_neg e2]
        by_cases e3 : par c = par j
        · rw [if_pos e3]
          have := h.1 c hc0 hc e1
          rw [e3] at this
          exact leH_trans hle this
        · rw [if_neg e3]
          exact h.1 c hc0 hc e1
  · have hpp : par (par j) < par j := by unfold par at *; omega
    have hpc2 : par c < c := by unfold par; omega
    rw [at' c hc, at' (par (par j)) (by omega), if_neg (by omega), if_neg (by omega)]
    have hgp := h.1 (par j) hp0 (by omega) (by omega)
    by_cases e1 : c = j
    · rw [if_pos e1]; exact hgp
    · rw [if_neg e1, if_neg (by omega)]
      have := h.1 c hc0 hc e1
      rw [hpc] at this
      exact leH_trans hgp this
theorem up_start {l : List Ht} (h : HeapN l l.length) (x : Ht) : UpAt (l ++ [x]) (l.length + 1) l.length := by
  have at' : ∀ k, k < l.length → hnth (l ++ [x]) k = hnth l k := fun k hk => by simp [hnth, List.getD, List.getElem?_append_left hk]
  refine ⟨fun c h0 hc hne => ?_, fun c h0 hc hp h1 => ?_⟩
  · have hp : par c < c := by unfold par; omega
    rw [at' c (by omega), at' (par c) (by omega)]
    exact h c h0 (by omega)
  · exfalso; unfold par at hp; omega
theorem down_done {l : List Ht} {n i : Nat} (h : DownAt l n i) (hc : ∀ c, 0 < c → c < n → par c = i → leH (hnth l i) (hnth l c)) : HeapN l n := fun c h0 h1 => by
  by_cases e : par c = i
  · rw [e]; exact hc c h0 h1 e
  · exact h.1 c h0 h1 e
theorem down_step {l : List Ht} {n i j : Nat} (h : DownAt l n i) (hn : n ≤ l.length) (hj : j < n) (hj0 : 0 < j) (hp : par j = i) (hmin : ∀ c, 0 < c → c < n → par c = i → leH (hnth l j) (hnth l c)) (ha : aheadB (hnth l j) (hnth l i) = true) : DownAt (swapL l i j) n j := by
  have hij : i < j := by rw [← hp]; unfold par; omega
  have hle := leH_of_ahead ha
  have at' : ∀ k, k < n → hnth (swapL l i j) k = if k = j then hnth l i else if k = i then hnth l j else hnth l k := fun k hk => swapL_at l i j k (by omega) (by omega) (by omega)
  refine ⟨fun c hc0 hc hne => ?_, fun c hc0 hc hpc hp0 => ?_⟩
  · have hpc : par c < c := by unfold par; omega
    rw [at' c hc, at' (par c) (by omega), if_neg hne]
    by_cases e1 : c = j
    · rw [if_pos e1, if_pos (by rw [e1]; exact hp)]; exact hle
    · rw [if_neg e1]
      by_cases e2 : c = i
      · rw [if_pos e2]
        have e3 : par c ≠ i := by omega
        rw [if_neg e3]
        have := h.2 j hj0 hj hp (by omega)
        rw [← e2] at this
        exact this
      · rw [if_neg e2]
        by_cases e3 : par c = i
        · rw [if_pos e3]; exact hmin c hc0 hc e3
        · rw [if_neg e3]; exact h.1 c hc0 hc e3
  · have hpc2 : par c < c := by unfold par; omega
    rw [hp, at' c hc, at' i (by omega), if_neg (show ¬ c = j by omega), if_neg (show ¬ c = i by omega), if_neg (show ¬ i = j by omega), if_pos rfl]
    have := h.1 c hc0 hc (by omega)
    rw [hpc] at this
    exact this
theorem down_start {l : List Ht} {n : Nat} (h : HeapN l (n + 1)) (hn : n < l.length) : DownAt (swapL l 0 n) n 0 := by
  have at' : ∀ k, k < n → hnth (swapL l 0 n) k = if k = n then hnth l 0 else if k = 0 then hnth l n else hnth l k := fun k hk => swapL_at l 0 n k (by omega) (by omega) (by omega)
  refine ⟨fun c h0 hc hne => ?_, fun c h0 hc hp h1 => by omega⟩
  have hpc : par c < c := by unfold par; omega
  rw [at' c hc, at' (par c) (by omega), if_neg (show ¬ c = n by omega), if_neg (show ¬ c = 0 by omega), if_neg (show ¬ par c = n by omega), if_neg hne]
  exact h c h0 (by omega)

/-- From s on the first n are a heap. -/
def HeapS (s : Nat) (l : List Ht) (n : Nat) : Prop := ∀ c, 0 < c → c < n → s ≤ par c → leH (hnth l (par c)) (hnth l c)
/-- From s on a heap but for what stands below i. -/
def DownS (s : Nat) (l : List Ht) (n i : Nat) : Prop := (∀ c, 0 < c → c < n → s ≤ par c → par c ≠ i → leH (hnth l (par c)) (hnth l c)) ∧ ∀ c, 0 < c → c < n → par c = i → 0 < i → s ≤ par i → leH (hnth l (par i)) (hnth l c)
theorem heapS_zero {l : List Ht} {n : Nat} (h : HeapS 0 l n) : HeapN l n := fun c h0 hc => h c h0 hc (Nat.zero_le _)
theorem heapS_half (l : List Ht) (n : Nat) : HeapS (n / 2) l n := fun c h0 hc hp => by exfalso; unfold par at hp; omega
theorem downS_init {l : List Ht} {n i : Nat} (h : HeapS (i + 1) l n) : DownS i l n i :=
  ⟨fun c h0 hc hp hne => h c h0 hc (by omega), fun c h0 hc hp hi hs => by exfalso; unfold par at hs; omega⟩
theorem downS_pop {l : List Ht} {n : Nat} (h : HeapN l (n + 1)) (hn : n < l.length) : DownS 0 (swapL l 0 n) n 0 := by
  obtain ⟨h1, h2⟩ := down_start h hn
  exact ⟨fun c h0 hc _ hne => h1 c h0 hc hne, fun c h0 hc hp hi _ => h2 c h0 hc hp hi⟩
theorem downS_done {s : Nat} {l : List Ht} {n i : Nat} (h : DownS s l n i) (hc : ∀ c, 0 < c → c < n → par c = i → leH (hnth l i) (hnth l c)) : HeapS s l n := fun c h0 h1 h2 => by
  by_cases e : par c = i
  · rw [e]; exact hc c h0 h1 e
  · exact h.1 c h0 h1 h2 e
theorem downS_step {s : Nat} {l : List Ht} {n i j : Nat} (h : DownS s l n i) (hs : s ≤ i) (hn : n ≤ l.length) (hj : j < n) (hj0 : 0 < j) (hp : par j = i) (hmin : ∀ c, 0 < c → c < n → par c = i → leH (hnth l j) (hnth l c)) (ha : aheadB (hnth l j) (hnth l i) = true) : DownS s (swapL l i j) n j := by
  have hij : i < j := by rw [← hp]; unfold par; omega
  have hle := leH_of_ahead ha
  have at' : ∀ k, k < n → hnth (swapL l i j) k = if k = j then hnth l i else if k = i then hnth l j else hnth l k := fun k hk => swapL_at l i j k (by omega) (by omega) (by omega)
  refine ⟨fun c hc0 hc hsc hne => ?_, fun c hc0 hc hpc hp0 hsp => ?_⟩
  · have hpc : par c < c := by unfold par; omega
    rw [at' c hc, at' (par c) (by omega), if_neg hne]
    by_cases e1 : c = j
    · rw [if_pos e1, if_pos (by rw [e1]; exact hp)]; exact hle
    · rw [if_neg e1]
      by_cases e2 : c = i
      · rw [if_pos e2]
        have e3 : par c ≠ i := by omega
        rw [if_neg e3]
        have := h.2 j hj0 hj hp (by omega) (by rw [← e2]; exact hsc)
        rw [← e2] at this
        exact this
      · rw [if_neg e2]
        by_cases e3 : par c = i
        · rw [if_pos e3]; exact hmin c hc0 hc e3
        · rw [if_neg e3]; exact h.1 c hc0 hc hsc e3
  · have hpc2 : par c < c := by unfold par; omega
    rw [hp, at' c hc, at' i (by omega), if_neg (show ¬ c = j by omega), if_neg (show ¬ c = i by omega), if_neg (show ¬ i = j by omega), if_pos rfl]
    have := h.1 c hc0 hc (by omega) (by omega)
    rw [hpc] at this
    exact this
/-- The children of i. -/
theorem kids (c i : Nat) (h0 : 0 < c) (hp : par c = i) : c = 2 * i + 1 ∨ c = 2 * i + 2 := by unfold par at hp; omega
theorem par_left (i : Nat) : par (2 * i + 1) = i := by unfold par; omega
theorem par_right (i : Nat) : par (2 * i + 2) = i := by unfold par; omega

end Go.Proofs.Ytgfcdfiekancnaa
