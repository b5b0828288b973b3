/-
  A desk's sessions, as a plain list: when they are right.
-/
import Derived.Test.YtbmljcpeonopmaaAppendZz
import Derived.Test.YtbmljcpeonopmaaMCopyZz
namespace Go.Proofs.Ytbmljcpeonopmaa
open Go Go.RowKit

def ssAt (ss : List ThS7) (i : Nat) : Bool := inR (tnthS7 ss i).1 0 7 && (inR (tnthS7 ss i).2.1 1 1000000 && (inR (tnthS7 ss i).2.2 (-1) 1000000 && (decide (i = 0) || decide ((tnthS7 ss (i - 1)).1 < (tnthS7 ss i).1))))
def ssB (ss : List ThS7) : Bool := decide (ss.length ≤ 8) && (List.range ss.length).all (ssAt ss)
theorem ssB_iff (ss : List ThS7) : ssB ss = true ↔ ss.length ≤ 8 ∧ ∀ i, i < ss.length → ssAt ss i = true := by simp [ssB]
theorem ssB_out {ss : List ThS7} {i : Nat} (h : i < ss.length) (e : ssAt ss i = false) : ssB ss = false := by
  rcases hb : ssB ss with _ | _
  · rfl
  · have := ((ssB_iff ss).1 hb).2 i h
    rw [e] at this; cases this
theorem ssB_long {ss : List ThS7} (h : 8 < ss.length) : ssB ss = false := by
  rcases hb : ssB ss with _ | _
  · rfl
  · have := ((ssB_iff ss).1 hb).1
    omega
/-- The clients, one after another. -/
def clL (ss : List ThS7) : List Int := ss.map (·.1)
theorem clL_len (ss : List ThS7) : (clL ss).length = ss.length := by simp [clL]
theorem clL_at {ss : List ThS7} {i : Nat} (h : i < ss.length) : nth (clL ss) i = (tnthS7 ss i).1 := by simp [nth, clL, tnthS7, List.getD, h]
/-- What the next number may not be below. -/
def lowC (l : List Int) (k : Nat) : Int := if k = 0 then 0 else nth l (k - 1) + 1
def upC (l : List Int) : Bool := (List.range l.length).all (fun k => decide (lowC l k ≤ nth l k) && decide (nth l k ≤ 7))
theorem upC_iff (l : List Int) : upC l = true ↔ ∀ k, k < l.length → lowC l k ≤ nth l k ∧ nth l k ≤ 7 := by simp [upC]
theorem upC_no {l : List Int} {k : Nat} (h : k < l.length) (e : nth l k < lowC l k ∨ 7 < nth l k) : upC l = false := by
  rcases hb : upC l with _ | _
  · rfl
  · have := (upC_iff l).1 hb k h
    omega
theorem lowC_ok {l : List Int} {k : Nat} (h : ∀ j, j < k → lowC l j ≤ nth l j ∧ nth l j ≤ 7) : 0 ≤ lowC l k ∧ lowC l k ≤ 8 := by
  induction k with
  | zero => simp [lowC]
  | succ k ih =>
    have h1 := ih (fun j hj => h j (by omega))
    have h2 := h k (by omega)
    have e : lowC l (k + 1) = nth l k + 1 := by simp [lowC]
    rw [e]
    omega
theorem lowC_ge {l : List Int} {k : Nat} (h : ∀ j, j < k → lowC l j ≤ nth l j ∧ nth l j ≤ 7) : (k : Int) ≤ lowC l k := by
  induction k with
  | zero => simp [lowC]
  | succ k ih =>
    have h1 := ih (fun j hj => h j (by omega))
    have h2 := h k (by omega)
    have e : lowC l (k + 1) = nth l k + 1 := by simp [lowC]
    rw [e]
    omega
def rqAt (ss : List ThS7) (i : Nat) : Bool := inR (tnthS7 ss i).2.1 1 1000000 && inR (tnthS7 ss i).2.2 (-1) 1000000
/-- How the program looks at them. -/
theorem ss_look {ss : List ThS7} (h : ∀ i, i < ss.length → rqAt ss i = true) : upC (clL ss) = ssB ss := by
  have hr : ∀ {x lo hi : Int}, inR x lo hi = true ↔ lo ≤ x ∧ x ≤ hi := fun {x lo hi} => ⟨fun h => inR_of h, fun h => inR_true h.1 h.2⟩
  rcases h1 : upC (clL ss) with _ | _
  · rcases h2 : ssB ss with _ | _
    · rfl
    · exfalso
      obtain ⟨-, hall⟩ := (ssB_iff ss).1 h2
      have : upC (clL ss) = true := (upC_iff _).2 (fun k hk => by
        rw [clL_len] at hk
        have hk' := hall k hk
        simp only [ssAt, Bool.and_eq_true, Bool.or_eq_true, decide_eq_true_eq] at hk'
        obtain ⟨a, -, -, d⟩ := hk'
        have a' := hr.1 a
        rw [clL_at hk]
        refine ⟨?_, a'.2⟩
        unfold lowC
        rcases d with rfl | d
        · rw [if_pos rfl]; exact a'.1
        · by_cases e : k = 0
          · rw [if_pos e]; exact a'.1
          · rw [if_neg e, clL_at (by omega)]; omega)
      rw [h1] at this; cases this
  · symm
    have hu := (upC_iff _).1 h1
    rw [clL_len] at hu
    refine (ssB_iff ss).2 ⟨?_, fun i hi => ?_⟩
    · have h3 := lowC_ge (l := clL ss) (k := ss.length) (fun j hj => hu j hj)
      have h4 := (lowC_ok (l := clL ss) (k := ss.length) (fun j hj => hu j hj)).2
      omega
    · have h3 := hu i hi
      have h4 := lowC_ok (l := clL ss) (k := i) (fun j hj => hu j (by omega))
      have h5 := h i hi
      simp only [rqAt, Bool.and_eq_true] at h5
      simp only [ssAt, Bool.and_eq_true, Bool.or_eq_true, decide_eq_true_eq]
      rw [clL_at hi] at h3
      refine ⟨inR_true (by omega) h3.2, h5.1, h5.2, ?_⟩
      by_cases e : i = 0
      · exact Or.inl e
      · have e2 : lowC (clL ss) i = (tnthS7 ss (i - 1)).1 + 1 := by unfold lowC; rw [if_neg e, clL_at (by omega)]
        exact Or.inr (by omega)
theorem ss_bad {ss : List ThS7} {i : Nat} (hi : i < ss.length) (h : rqAt ss i = false) : ssB ss = false := by
  refine ssB_out hi ?_
  rcases e : ssAt ss i with _ | _
  · rfl
  · simp only [ssAt, Bool.and_eq_true] at e
    simp only [rqAt, e.2.1, e.2.2.1] at h
    cases h
end Go.Proofs.Ytbmljcpeonopmaa
