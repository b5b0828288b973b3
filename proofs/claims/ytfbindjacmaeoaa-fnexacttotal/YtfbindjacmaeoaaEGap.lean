/-
  Plain mathematics for the laws of chapter 12 (no program is named here): no other groups, as many, lie farther apart than those of the threads.
-/
import Derived.Test.YtfbindjacmaeoaaESrt
namespace Go.Proofs.Ytfbindjacmaeoaa

/-- The least between two of two groups so far, and one pair more. -/
def gStep (h : Nat → Nat) (D : Nat → Nat → Int) (i k : Nat) (b : Int) : Int := if h i ≠ h k ∧ (b < 0 ∨ D i k < b) then D i k else b
def gapRow (h : Nat → Nat) (D : Nat → Nat → Int) (i : Nat) : Nat → Int → Int
  | 0, b => b
  | k + 1, b => gStep h D i k (gapRow h D i k b)
def gapAll (h : Nat → Nat) (D : Nat → Nat → Int) : Nat → Int
  | 0 => -1
  | i + 1 => gapRow h D i i (gapAll h D i)
structure GapOk (h : Nat → Nat) (D : Nat → Nat → Int) (P : Nat → Nat → Prop) (b : Int) : Prop where
  low : ∀ i k, P i k → h i ≠ h k → 0 ≤ b ∧ b ≤ D i k
  at_ : b = -1 ∨ ∃ i k, P i k ∧ h i ≠ h k ∧ b = D i k
theorem GapOk.step {h : Nat → Nat} {D : Nat → Nat → Int} (hnn : ∀ i k, 0 ≤ D i k) {P Q : Nat → Nat → Prop} {b : Int} (g : GapOk h D P b) (i k : Nat) (hQ : ∀ a c, Q a c ↔ P a c ∨ (a = i ∧ c = k)) : GapOk h D Q (gStep h D i k b) := by
  have h0 := hnn i k
  unfold gStep
  split
  · rename_i hc
    refine ⟨fun a c hq hne => ?_, Or.inr ⟨i, k, (hQ i k).2 (Or.inr ⟨rfl, rfl⟩), hc.1, rfl⟩⟩
    rcases (hQ a c).1 hq with hp | ⟨rfl, rfl⟩
    · have := g.low a c hp hne; omega
    · omega
  · rename_i hc
    refine ⟨fun a c hq hne => ?_, ?_⟩
    · rcases (hQ a c).1 hq with hp | ⟨rfl, rfl⟩
      · exact g.low a c hp hne
      · have : ¬ (b < 0 ∨ D a c < b) := fun hh => hc ⟨hne, hh⟩
        omega
    · rcases g.at_ with e | ⟨a, c, hp, hne, e⟩
      · exact Or.inl e
      · exact Or.inr ⟨a, c, (hQ a c).2 (Or.inl hp), hne, e⟩
theorem gapRow_ok {h : Nat → Nat} {D : Nat → Nat → Int} (hnn : ∀ i k, 0 ≤ D i k) {n : Nat} {b : Int} (g : GapOk h D (fun i k => k < i ∧ i < n) b) : ∀ k, k ≤ n → GapOk h D (fun i c => (c < i ∧ i < n) ∨ (i = n ∧ c < k)) (gapRow h D n k b) := by
  intro k
  induction k with
  | zero => intro _; exact ⟨fun i c hp => g.low i c (by omega), g.at_.imp id (fun ⟨i, c, hp, r⟩ => ⟨i, c, Or.inl hp, r⟩)⟩
  | succ k ih =>
    intro hk
    exact (ih (by omega)).step hnn n k (fun a c => by omega)
theorem gapAll_ok {h : Nat → Nat} {D : Nat → Nat → Int} (hnn : ∀ i k, 0 ≤ D i k) (n : Nat) : GapOk h D (fun i k => k < i ∧ i < n) (gapAll h D n) := by
  induction n with
  | zero => exact ⟨fun i k hp => by omega, Or.inl rfl⟩
  | succ n ih =>
    have := gapRow_ok hnn ih n (Nat.le_refl _)
    refine ⟨fun i c hp hne => this.low i c (by omega) hne, this.at_.imp id (fun ⟨i, c, hp, r⟩ => ⟨i, c, by omega, r⟩)⟩
/-- Only who is with whom matters. -/
theorem gapAll_same {h h' : Nat → Nat} {D : Nat → Nat → Int} {n : Nat} (hh : ∀ i k, i < n → k < n → (h i = h k ↔ h' i = h' k)) : gapAll h D n = gapAll h' D n := by
  have hrow : ∀ i, i < n → ∀ k, k ≤ i → ∀ b, gapRow h D i k b = gapRow h' D i k b := fun i hi k => by
    induction k with
    | zero => intro _ b; rfl
    | succ k ih =>
      intro hk b
      simp only [gapRow]
      rw [ih (by omega) b]
      unfold gStep
      simp only [ne_eq, hh i k hi (by omega)]
  have : ∀ m, m ≤ n → gapAll h D m = gapAll h' D m := fun m => by
    induction m with
    | zero => intro _; rfl
    | succ m ih =>
      intro hm
      simp only [gapAll]
      rw [ih (by omega)]
      exact hrow m (by omega) m (Nat.le_refl _) _
  exact this n (Nat.le_refl _)
/-- As many groups as there are numbers: no more than parts, where all that is tied is in one group. -/
theorem groups_le {n k : Nat} {h : Nat → Nat} {E : List Eg} (hE : ∀ e ∈ E, h e.1 = h e.2) (hex : ∀ g, g < k → ∃ i, i < n ∧ h i = g + 1) : k ≤ comps n (lab E) := by
  let m : Nat → Nat := fun g => if hg : g < k then Classical.choose (hex g hg) else 0
  have hm : ∀ g, g < k → m g < n ∧ h (m g) = g + 1 := fun g hg => by
    show (if hg : g < k then Classical.choose (hex g hg) else 0) < n ∧ h (if hg : g < k then Classical.choose (hex g hg) else 0) = g + 1
    rw [dif_pos hg]
    exact Classical.choose_spec (hex g hg)
  have hf := (lab_ok E).fine h hE
  have hnd : ((List.range k).map (fun g => lab E (m g))).Nodup := by
    rw [List.Nodup, List.pairwise_map]
    refine List.Pairwise.imp_of_mem (fun {a b} ha hb hab e => hab ?_) List.nodup_range
    have h1 := hf (m a)
    have h2 := hf (m b)
    rw [(hm a (List.mem_range.1 ha)).2] at h1
    rw [(hm b (List.mem_range.1 hb)).2] at h2
    rw [e] at h1
    omega
  have hle := hnd.length_le_of_subset (l₂ := (List.range n).filter (fun i => decide (lab E i = i))) (fun x hx => by
    obtain ⟨g, hg, rfl⟩ := List.mem_map.1 hx
    have h1 := hm g (List.mem_range.1 hg)
    have h2 := (lab_ok E).le (m g)
    exact List.mem_filter.2 ⟨List.mem_range.2 (by omega), by simpa using (lab_ok E).idem (m g)⟩)
  rw [List.length_map, List.length_range] at hle
  exact hle
/-- No k groups lie farther apart than those of the threads without the last k - 1. -/
theorem gaps_best {D : Nat → Nat → Int} (hnn : ∀ i k, 0 ≤ D i k) (hsym : ∀ i k, D i k = D k i) {n k : Nat} (hk2 : 2 ≤ k) (hkn : k ≤ n) :
    0 ≤ gapAll (lab ((thrE D n).take (n - k))) D n ∧ ∀ h : Nat → Nat, (∀ g, g < k → ∃ i, i < n ∧ h i = g + 1) → gapAll h D n ≤ gapAll (lab ((thrE D n).take (n - k))) D n := by
  have hlen := thrE_len (D := D) (n := n) (by omega)
  have hm : n - k < (thrE D n).length := by omega
  obtain ⟨hnew, S1, S2, hS, hT⟩ := kru_new (srtE D n) (n - k) hm
  have hmem := thrE_mem (D := D) (n := n) (List.getElem_mem hm)
  have hown := gapAll_ok (h := lab ((thrE D n).take (n - k))) hnn n
  have hcross := hown.low ((thrE D n)[n - k]).2 ((thrE D n)[n - k]).1 ⟨hmem.1, hmem.2⟩ (fun e => hnew e.symm)
  have hasc : Asc D (srtE D n) := (srtE_ord D n).asc
  have hge : wt D (thrE D n)[n - k] ≤ gapAll (lab ((thrE D n).take (n - k))) D n := by
    rcases hown.at_ with e | ⟨i, c, hp, hne, e⟩
    · omega
    · rw [e, hsym]
      have hin : (c, i) ∈ srtE D n := (mem_srtE D n _).2 hp
      rw [hS] at hin hasc
      have ha := List.pairwise_append.1 hasc
      rcases List.mem_append.1 hin with h1 | h1
      · have h2 := kru_edge S1 _ h1
        rw [hT] at h2
        exact absurd h2.symm hne
      · rcases List.mem_cons.1 h1 with h2 | h2
        · show wt D (kruF (srtE D n))[n - k] ≤ wt D (c, i)
          rw [h2]
          exact Int.le_refl _
        · exact (List.pairwise_cons.1 ha.2.1).1 _ h2
  refine ⟨hcross.1, fun h hex => ?_⟩
  by_cases hall : ∀ f ∈ (thrE D n).take (n - k + 1), h f.1 = h f.2
  · exfalso
    have h1 := groups_le hall hex
    have h2 := kru_comps (n := n) (S := srtE D n) srtE_lt (n - k + 1) (by show n - k + 1 ≤ (thrE D n).length; omega)
    have h3 : comps n (lab ((thrE D n).take (n - k + 1))) + (n - k + 1) = n := h2
    omega
  · obtain ⟨f, hf⟩ := Classical.not_forall.1 hall
    obtain ⟨hf1, hf2⟩ := Classical.not_imp.1 hf
    obtain ⟨j, hj, rfl⟩ := List.getElem_of_mem hf1
    rw [List.length_take] at hj
    rw [List.getElem_take] at hf2
    have hfm := thrE_mem (D := D) (n := n) (List.getElem_mem (by omega : j < (thrE D n).length))
    have h1 := (gapAll_ok (h := h) hnn n).low ((thrE D n)[j]).2 ((thrE D n)[j]).1 ⟨hfm.1, hfm.2⟩ (fun e => hf2 e.symm)
    have h2 : wt D (thrE D n)[j] ≤ wt D (thrE D n)[n - k] := by
      rcases Nat.lt_or_ge j (n - k) with hlt | hge'
      · exact (List.pairwise_iff_getElem.1 ((thrE_ord D n).asc)) j (n - k) (by omega) hm hlt
      · have : j = n - k := by omega
        subst this
        exact Int.le_refl _
    have h3 : D ((thrE D n)[j]).2 ((thrE D n)[j]).1 = wt D (thrE D n)[j] := hsym _ _
    omega
/-- So many groups there are. -/
theorem groups_are {D : Nat → Nat → Int} {n k : Nat} (hk1 : 1 ≤ k) (hkn : k ≤ n) : comps n (lab ((thrE D n).take (n - k))) = k := by
  have hlen := thrE_len (D := D) (n := n) (by omega)
  have h := kru_comps (n := n) (S := srtE D n) srtE_lt (n - k) (by show n - k ≤ (thrE D n).length; omega)
  have h3 : comps n (lab ((thrE D n).take (n - k))) + (n - k) = n := h
  omega

end Go.Proofs.Ytfbindjacmaeoaa
