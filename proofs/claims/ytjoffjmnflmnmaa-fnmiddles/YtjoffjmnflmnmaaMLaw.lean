/-
  Plain mathematics for the law of middles (no program is named here).
-/
import Derived.Test.YtjoffjmnflmnmaaMarks
namespace Go.Proofs.Ytjoffjmnflmnmaa

def leastI (ms : List Mk) (kd : Int) (k : Nat) : Int := if k = 0 then -1 else mostF ms kd (bestI ms kd k)
def ownI (ms : List Mk) (kd m : Int) : Nat → Int
  | 0 => 0
  | k + 1 => if mid ms k = m then mostF ms kd k else ownI ms kd m k
theorem leastI_zero (ms : List Mk) (kd : Int) : leastI ms kd 0 = -1 := rfl
theorem leastI_le (ms : List Mk) (kd : Int) (k : Nat) : -1 ≤ leastI ms kd k ∧ leastI ms kd k ≤ 16000000 := by
  have := mostF_le ms kd (bestI ms kd k)
  unfold leastI; split <;> omega
theorem leastI_yes (ms : List Mk) (kd : Int) (k : Nat) (h : leastI ms kd k < 0 ∨ mostF ms kd k < leastI ms kd k) : leastI ms kd (k + 1) = mostF ms kd k := by
  unfold leastI at *
  rw [if_neg (by omega)]
  by_cases h0 : k = 0
  · subst h0; rw [bestI_one]
  · rw [if_neg h0] at h
    have := mostF_le ms kd (bestI ms kd k)
    have h1 : mostF ms kd k < mostF ms kd (bestI ms kd k) := by omega
    simp [bestI, h1]
theorem leastI_no (ms : List Mk) (kd : Int) (k : Nat) (h : ¬ leastI ms kd k < 0) (h' : ¬ mostF ms kd k < leastI ms kd k) : leastI ms kd (k + 1) = leastI ms kd k := by
  unfold leastI at *
  by_cases h0 : k = 0
  · subst h0; simp at h
  · rw [if_neg h0] at *
    rw [if_neg (by omega)]
    simp [bestI, h']
theorem leastI_all (ms : List Mk) (kd : Int) (k : Nat) (h : 0 < k) : leastI ms kd k = mostF ms kd (bestI ms kd k) := by
  unfold leastI; rw [if_neg (by omega)]
theorem ownI_le (ms : List Mk) (kd m : Int) (k : Nat) : 0 ≤ ownI ms kd m k ∧ ownI ms kd m k ≤ 16000000 := by
  induction k with
  | zero => simp [ownI]
  | succ k ih => have := mostF_le ms kd k; simp only [ownI]; split <;> omega
theorem mid_rises {ms : List Mk} (h : marksB ms = true) {i j : Nat} (hij : i < j) (hj : j < ms.length) : mid ms i < mid ms j := by
  induction j with
  | zero => omega
  | succ j ih =>
    have h1 := ((mOkAt_iff ms (j + 1)).1 (marksB_at h hj)).2.2.2.2
    simp at h1
    rcases Nat.lt_or_ge i j with h2 | h2
    · have := ih h2 (by omega); omega
    · rw [show i = j by omega]; exact h1
theorem ownI_at {ms : List Mk} (h : marksB ms = true) (kd : Int) {b : Nat} (hb : b < ms.length) (k : Nat) (hk : k ≤ ms.length) : ownI ms kd (mid ms b) k = if b < k then mostF ms kd b else 0 := by
  induction k with
  | zero => simp [ownI]
  | succ k ih =>
    simp only [ownI]
    by_cases e : mid ms k = mid ms b
    · have : k = b := by
        rcases Nat.lt_trichotomy k b with h1 | h1 | h1
        · have := mid_rises h h1 hb; omega
        · exact h1
        · have := mid_rises h h1 (by omega); omega
      subst this
      rw [if_pos rfl, if_pos (by omega)]
    · have hne : b ≠ k := fun e' => e (by rw [e'])
      rw [if_neg e, ih (by omega)]
      by_cases h1 : b < k
      · rw [if_pos h1, if_pos (by omega)]
      · rw [if_neg h1, if_neg (by omega)]
theorem betV_third {a b c : List Int} {kd : Int} (hk : kd = 2 ∨ kd = 3) (hab : twoB a b = true) (hac : twoB a c = true) : betV a b kd ≤ betV c a kd + betV c b kd := by
  have h := third hab hac
  rcases hk with rfl | rfl
  · have e1 : betV a b 2 = stepsV a b := by simp [betV]
    have e2 : betV c a 2 = stepsV a c := by simp [betV, stepsV_comm a c]
    have e3 : betV c b 2 = stepsV c b := by simp [betV]
    omega
  · have e1 : betV a b 3 = reachV a b := by simp [betV]
    have e2 : betV c a 3 = reachV a c := by simp [betV, reachV_comm a c]
    have e3 : betV c b 3 = reachV c b := by simp [betV]
    omega
theorem dia_twice {ms : List Mk} {kd : Int} (h : noneB ms kd = false) (h1 : kd ≠ 1) : maxTo (mostF ms kd) ms.length ≤ 2 * mostF ms kd (bestI ms kd ms.length) := by
  obtain ⟨h0, hm, hk⟩ := noneB_of h
  rw [kindB_iff] at hk
  have hbest := bestI_lt ms kd ms.length h0
  generalize bestI ms kd ms.length = b at *
  have hb := mostF_le ms kd b
  refine maxTo_lub _ _ _ (by omega) fun i hi => maxTo_lub _ _ _ (by omega) fun j hj => ?_
  have h3 := betV_third (kd := kd) (by omega) (marks_two hm hi hj) (marks_two hm hi hbest)
  have h4 := maxTo_ge (betF ms (mat ms b) kd) ms.length i hi
  have h5 := maxTo_ge (betF ms (mat ms b) kd) ms.length j hj
  have e4 : betF ms (mat ms b) kd i = betV (mat ms b) (mat ms i) kd := rfl
  have e5 : betF ms (mat ms b) kd j = betV (mat ms b) (mat ms j) kd := rfl
  have e6 : mostF ms kd b = maxTo (betF ms (mat ms b) kd) ms.length := rfl
  have e7 : betF ms (mat ms i) kd j = betV (mat ms i) (mat ms j) kd := rfl
  omega
theorem midV_some {ms : List Mk} {kd : Int} (h : noneB ms kd = false) : midV ms kd = mid ms (bestI ms kd ms.length) ∧ 1 ≤ midV ms kd ∧ bestI ms kd ms.length < ms.length := by
  obtain ⟨h0, hm, hk⟩ := noneB_of h
  have hbest := bestI_lt ms kd ms.length h0
  have e : midV ms kd = mid ms (bestI ms kd ms.length) := by simp [midV, h]
  have := ((mOkAt_iff ms _).1 (marksB_at hm hbest)).1
  exact ⟨e, by rw [e]; exact this, hbest⟩

end Go.Proofs.Ytjoffjmnflmnmaa
