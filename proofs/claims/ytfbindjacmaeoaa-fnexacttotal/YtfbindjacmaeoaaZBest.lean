/-
  Plain mathematics for the laws of chapter 11: the least radius of any k of n.
-/
import Derived.Test.YtfbindjacmaeoaaZGon
namespace Go.Proofs.Ytfbindjacmaeoaa

def zLess (b r : Int) : Int := if 0 ≤ r ∧ (b < 0 ∨ r < b) then r else b
/-- The least radius of these and any k more behind them. -/
def zBest (D : Nat → Nat → Int) (n : Nat) : Nat → List Nat → Nat → Int
  | 0, ids, _ => zRad D n ids
  | k + 1, ids, fr => (List.range' fr (n - fr)).foldl (fun b i => zLess b (zBest D n k (ids ++ [i]) (i + 1))) (-1)
/-- k rising ones from fr on, ahead of n. -/
def zRise (n fr : Nat) (E : List Nat) : Prop := E.Pairwise (· < ·) ∧ ∀ e ∈ E, fr ≤ e ∧ e < n

theorem zLess_fold (g : Nat → Int) (L : List Nat) (b : Int) :
    (0 ≤ b → 0 ≤ L.foldl (fun b i => zLess b (g i)) b ∧ L.foldl (fun b i => zLess b (g i)) b ≤ b) ∧
    (∀ i ∈ L, 0 ≤ g i → 0 ≤ L.foldl (fun b i => zLess b (g i)) b ∧ L.foldl (fun b i => zLess b (g i)) b ≤ g i) ∧
    (L.foldl (fun b i => zLess b (g i)) b = b ∨ ∃ i ∈ L, 0 ≤ g i ∧ L.foldl (fun b i => zLess b (g i)) b = g i) := by
  induction L generalizing b with
  | nil => exact ⟨fun h => ⟨h, Int.le_refl _⟩, fun i hi => by simp at hi, Or.inl rfl⟩
  | cons x L ih =>
    simp only [List.foldl_cons]
    obtain ⟨i1, i2, i3⟩ := ih (zLess b (g x))
    have hb : 0 ≤ b → 0 ≤ zLess b (g x) ∧ zLess b (g x) ≤ b := fun h => by unfold zLess; split <;> omega
    have hx : 0 ≤ g x → 0 ≤ zLess b (g x) ∧ zLess b (g x) ≤ g x := fun h => by unfold zLess; split <;> omega
    refine ⟨fun h => ?_, fun i hi hg => ?_, ?_⟩
    · have h1 := hb h
      have h2 := i1 h1.1
      omega
    · rcases List.mem_cons.1 hi with e | e
      · subst e
        have h1 := hx hg
        have h2 := i1 h1.1
        omega
      · exact i2 i e hg
    · rcases i3 with e | ⟨i, hi, h1, h2⟩
      · rw [e]
        unfold zLess
        split
        · rename_i h
          exact Or.inr ⟨x, List.mem_cons_self .., h.1, rfl⟩
        · exact Or.inl rfl
      · exact Or.inr ⟨i, List.mem_cons_of_mem _ hi, h1, h2⟩
/-- It is no more than any one's, and some one's. -/
theorem zBest_spec (D : Nat → Nat → Int) (n k : Nat) : ∀ (ids : List Nat) (fr : Nat),
    (∀ E, zRise n fr E → E.length = k → 0 ≤ zBest D n k ids fr ∧ zBest D n k ids fr ≤ zRad D n (ids ++ E)) ∧
    (0 ≤ zBest D n k ids fr → ∃ E, zRise n fr E ∧ E.length = k ∧ zBest D n k ids fr = zRad D n (ids ++ E)) ∧ -1 ≤ zBest D n k ids fr := by
  induction k with
  | zero =>
    intro ids fr
    refine ⟨fun E _ hl => ?_, fun _ => ⟨[], ⟨List.Pairwise.nil, by simp⟩, rfl, by simp [zBest]⟩, by have := zRad_nn D n ids; show -1 ≤ zRad D n ids; omega⟩
    have : E = [] := List.eq_nil_of_length_eq_zero hl
    subst this
    have := zRad_nn D n ids
    simp [zBest]
    exact this
  | succ k ih =>
    intro ids fr
    have hf := zLess_fold (fun i => zBest D n k (ids ++ [i]) (i + 1)) (List.range' fr (n - fr)) (-1)
    have hdef : zBest D n (k + 1) ids fr = (List.range' fr (n - fr)).foldl (fun b i => zLess b (zBest D n k (ids ++ [i]) (i + 1))) (-1) := rfl
    rw [← hdef] at hf
    refine ⟨fun E hE hl => ?_, fun h => ?_, ?_⟩
    · cases E with
      | nil => simp at hl
      | cons x E =>
        obtain ⟨hp, hr⟩ := hE
        have hx := hr x (List.mem_cons_self ..)
        have hp' := List.pairwise_cons.1 hp
        have hE' : zRise n (x + 1) E := ⟨hp'.2, fun e he => ⟨hp'.1 e he, (hr e (List.mem_cons_of_mem _ he)).2⟩⟩
        have h1 := (ih (ids ++ [x]) (x + 1)).1 E hE' (by simpa using hl)
        have h2 := hf.2.1 x (List.mem_range'_1.2 ⟨hx.1, by omega⟩) h1.1
        have e : ids ++ [x] ++ E = ids ++ x :: E := by simp
        rw [e] at h1
        exact ⟨h2.1, Int.le_trans h2.2 h1.2⟩
    · rcases hf.2.2 with e | ⟨i, hi, h1, h2⟩
      · omega
      · obtain ⟨E, hE, hl, he⟩ := (ih (ids ++ [i]) (i + 1)).2.1 h1
        have hi' := List.mem_range'_1.1 hi
        refine ⟨i :: E, ⟨List.pairwise_cons.2 ⟨fun e he => (hE.2 e he).1, hE.1⟩, fun e he => ?_⟩, by simp [hl], ?_⟩
        · rcases List.mem_cons.1 he with h | h
          · subst h; exact ⟨hi'.1, by omega⟩
          · have := hE.2 e h; omega
        · rw [h2, he]
          simp
    · rcases hf.2.2 with e | ⟨i, hi, h1, h2⟩ <;> omega
theorem zRad_same {D : Nat → Nat → Int} (h : ∀ i c, 0 ≤ D i c) (n : Nat) {C E : List Nat} (hC : C ≠ []) (hs : ∀ c, c ∈ C ↔ c ∈ E) : zRad D n C = zRad D n E := by
  have hE : E ≠ [] := fun e => by
    cases C with
    | nil => exact hC rfl
    | cons x C => have := (hs x).1 (List.mem_cons_self ..); rw [e] at this; simp at this
  exact Int.le_antisymm (zRad_more h n hE (fun c hc => (hs c).2 hc)) (zRad_more h n hC (fun c hc => (hs c).1 hc))
/-- Those of C in order. -/
theorem zSorted {n : Nat} {C : List Nat} (hd : C.Nodup) (hn : ∀ c ∈ C, c < n) : ∃ E, zRise n 0 E ∧ E.length = C.length ∧ ∀ c, c ∈ C ↔ c ∈ E := by
  refine ⟨(List.range n).filter (fun i => decide (i ∈ C)), ⟨?_, fun e he => ?_⟩, ?_, fun c => ?_⟩
  · exact List.Pairwise.filter _ List.pairwise_lt_range
  · have := List.mem_range.1 (List.mem_filter.1 he).1; omega
  · have hp : ((List.range n).filter (fun i => decide (i ∈ C))).Perm C := by
      refine (List.perm_ext_iff_of_nodup (List.Pairwise.filter _ List.nodup_range) hd).2 (fun a => ?_)
      simp only [List.mem_filter, List.mem_range, decide_eq_true_eq]
      exact ⟨fun h => h.2, fun h => ⟨hn a h, h⟩⟩
    exact hp.length_eq
  · simp only [List.mem_filter, List.mem_range, decide_eq_true_eq]
    exact ⟨fun h => ⟨hn c h, h⟩, fun h => h.2⟩
/-- The least radius of k of n, told whole. -/
theorem zBest_le {D : Nat → Nat → Int} (h : ∀ i c, 0 ≤ D i c) {n k : Nat} (hk : 1 ≤ k) {C : List Nat} (hd : C.Nodup) (hn : ∀ c ∈ C, c < n) (hl : C.length = k) : 0 ≤ zBest D n k [] 0 ∧ zBest D n k [] 0 ≤ zRad D n C := by
  obtain ⟨E, hE, hEl, hs⟩ := zSorted hd hn
  have h1 := (zBest_spec D n k [] 0).1 E hE (by omega)
  rw [zRad_same h n (fun e => by rw [e] at hl; simp at hl; omega) hs]
  simpa using h1
theorem zRise_nodup {n fr : Nat} {E : List Nat} (h : zRise n fr E) : E.Nodup := by
  refine List.Pairwise.imp ?_ h.1
  intro a b hab
  omega
theorem zBest_at {D : Nat → Nat → Int} {n k : Nat} (h : 0 ≤ zBest D n k [] 0) : ∃ E, E.Nodup ∧ (∀ e ∈ E, e < n) ∧ E.length = k ∧ zBest D n k [] 0 = zRad D n E := by
  obtain ⟨E, hE, hl, he⟩ := (zBest_spec D n k [] 0).2.1 h
  exact ⟨E, zRise_nodup hE, fun e h => (hE.2 e h).2, hl, by simpa using he⟩
theorem zBest_more {D : Nat → Nat → Int} (h : ∀ i c, 0 ≤ D i c) {n k : Nat} (hk : 1 ≤ k) (hkn : k < n) (hb : 0 ≤ zBest D n k [] 0) : zBest D n (k + 1) [] 0 ≤ zBest D n k [] 0 := by
  obtain ⟨E, hd, hn, hl, he⟩ := zBest_at hb
  obtain ⟨j, hj, hjE⟩ := zOut (C := E) (n := n) (by omega)
  have h1 := zBest_le (D := D) h (n := n) (k := k + 1) (by omega) (C := j :: E) (List.nodup_cons.2 ⟨hjE, hd⟩) (fun c hc => by
    rcases List.mem_cons.1 hc with e | e
    · omega
    · exact hn c e) (by simp [hl])
  have h2 := zRad_more (D := D) h n (C := E) (E := j :: E) (fun e => by rw [e] at hl; simp at hl; omega) (fun c hc => List.mem_cons_of_mem _ hc)
  omega

end Go.Proofs.Ytfbindjacmaeoaa
