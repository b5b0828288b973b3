/-
  Plain mathematics for the laws of chapter 13 (no program is named here): levels, what a number is coded as, what is decoded.
-/
import Derived.Test.YthkaiienfkihmaaJMath
import Derived.Test.YthkaiienfkihmaaSides
namespace Go.Proofs.Ythkaiienfkihmaa

def lvRiseTo (l : List Int) : Nat → Bool
  | 0 => true
  | k + 1 => lvRiseTo l k && decide (nth l k < nth l (k + 1))
/-- Does it rise? -/
def lvRise (l : List Int) : Bool := lvRiseTo l (l.length - 1)
theorem lvRiseTo_iff (l : List Int) (n : Nat) : lvRiseTo l n = true ↔ ∀ j, j < n → nth l j < nth l (j + 1) := by
  induction n with
  | zero => simp [lvRiseTo]
  | succ n ih =>
    simp only [lvRiseTo, Bool.and_eq_true, decide_eq_true_eq, ih]
    constructor
    · rintro ⟨h1, h2⟩ j hj
      rcases Nat.lt_or_ge j n with h | h
      · exact h1 j h
      · obtain rfl : j = n := by omega
        exact h2
    · exact fun h => ⟨fun j hj => h j (by omega), h n (by omega)⟩
theorem lvRise_iff (l : List Int) : lvRise l = true ↔ ∀ j, j + 1 < l.length → nth l j < nth l (j + 1) := by
  unfold lvRise
  rw [lvRiseTo_iff]
  exact ⟨fun h j hj => h j (by omega), fun h j hj => h j (by omega)⟩
theorem lvRise_no {l : List Int} {j : Nat} (hj : j + 1 < l.length) (h : nth l (j + 1) ≤ nth l j) : lvRise l = false := by
  rcases e : lvRise l with _ | _
  · rfl
  · have := (lvRise_iff l).1 e j hj; omega
theorem lvRise_lt {l : List Int} (h : lvRise l = true) {i j : Nat} (hij : i < j) (hj : j < l.length) : nth l i < nth l j := by
  have h' := (lvRise_iff l).1 h
  induction j with
  | zero => omega
  | succ j ih =>
    have h1 := h' j hj
    rcases Nat.lt_or_ge i j with h2 | h2
    · have := ih h2 (by omega); omega
    · obtain rfl : i = j := by omega
      exact h1
/-- One list of levels. -/
def lvOk (l : List Int) : Bool := decide (1 ≤ l.length) && decide (l.length ≤ 16) && lvRise l && decide (-1000 ≤ nth l 0) && decide (nth l (l.length - 1) ≤ 1000)
theorem lvOk_iff (l : List Int) : lvOk l = true ↔ 1 ≤ l.length ∧ l.length ≤ 16 ∧ lvRise l = true ∧ -1000 ≤ nth l 0 ∧ nth l (l.length - 1) ≤ 1000 := by simp [lvOk, and_assoc]
theorem lvOk_at {l : List Int} (h : lvOk l = true) {k : Nat} (hk : k < l.length) : -1000 ≤ nth l k ∧ nth l k ≤ 1000 := by
  obtain ⟨h1, h2, h3, h4, h5⟩ := (lvOk_iff l).1 h
  constructor
  · rcases Nat.eq_zero_or_pos k with e | e
    · subst e; exact h4
    · have := lvRise_lt h3 e hk; omega
  · rcases Nat.lt_or_ge k (l.length - 1) with e | e
    · have := lvRise_lt h3 e (by omega); omega
    · obtain rfl : k = l.length - 1 := by omega
      exact h5
def levTo (ls : List (List Int)) : Nat → Bool
  | 0 => true
  | k + 1 => levTo ls k && lvOk (cn ls k)
/-- Levels. -/
def levB (ls : List (List Int)) : Bool := decide (1 ≤ ls.length) && decide (ls.length ≤ 4) && levTo ls ls.length
theorem levTo_iff (ls : List (List Int)) (n : Nat) : levTo ls n = true ↔ ∀ j, j < n → lvOk (cn ls j) = true := by
  induction n with
  | zero => simp [levTo]
  | succ n ih =>
    simp only [levTo, Bool.and_eq_true, ih]
    constructor
    · rintro ⟨h1, h2⟩ j hj
      rcases Nat.lt_or_ge j n with h | h
      · exact h1 j h
      · obtain rfl : j = n := by omega
        exact h2
    · exact fun h => ⟨fun j hj => h j (by omega), h n (by omega)⟩
theorem levB_iff (ls : List (List Int)) : levB ls = true ↔ 1 ≤ ls.length ∧ ls.length ≤ 4 ∧ ∀ j, j < ls.length → lvOk (cn ls j) = true := by
  simp only [levB, Bool.and_eq_true, decide_eq_true_eq, levTo_iff, and_assoc]
theorem levB_no {ls : List (List Int)} {j : Nat} (hj : j < ls.length) (h : lvOk (cn ls j) = false) : levB ls = false := by
  rcases e : levB ls with _ | _
  · rfl
  · have := ((levB_iff ls).1 e).2.2 j hj
    rw [this] at h; cases h
theorem levB_many {ls : List (List Int)} (h : ls.length < 1 ∨ 4 < ls.length) : levB ls = false := by
  rcases e : levB ls with _ | _
  · rfl
  · have := (levB_iff ls).1 e; omega
/-- How far one is from a level; which of the first k is nearest, of alike ones the first. -/
def lvD (x : Int) (l : List Int) (k : Nat) : Int := ((x - nth l k).natAbs : Int)
def codTo (x : Int) (l : List Int) : Nat → Nat
  | 0 => 0
  | k + 1 => if lvD x l k < lvD x l (codTo x l k) then k else codTo x l k
def codI (x : Int) (l : List Int) : Nat := codTo x l l.length
theorem codTo_ok (x : Int) (l : List Int) (n : Nat) : (codTo x l n = 0 ∨ codTo x l n < n) ∧ (∀ k, k < n → lvD x l (codTo x l n) ≤ lvD x l k) ∧ ∀ k, k < codTo x l n → lvD x l (codTo x l n) < lvD x l k := by
  induction n with
  | zero => exact ⟨Or.inl rfl, fun k hk => by omega, fun k hk => by simp [codTo] at hk⟩
  | succ n ih =>
    obtain ⟨h1, h2, h3⟩ := ih
    simp only [codTo]
    by_cases hc : lvD x l n < lvD x l (codTo x l n)
    · rw [if_pos hc]
      refine ⟨Or.inr (by omega), fun k hk => ?_, fun k hk => ?_⟩
      · rcases Nat.lt_or_ge k n with h | h
        · have := h2 k h; omega
        · obtain rfl : k = n := by omega
          exact Int.le_refl _
      · have := h2 k hk; omega
    · rw [if_neg hc]
      refine ⟨?_, fun k hk => ?_, h3⟩
      · rcases h1 with h | h
        · exact Or.inl h
        · exact Or.inr (by omega)
      · rcases Nat.lt_or_ge k n with h | h
        · exact h2 k h
        · obtain rfl : k = n := by omega
          omega
theorem codI_lt {x : Int} {l : List Int} (h : 1 ≤ l.length) : codI x l < l.length := by
  have := (codTo_ok x l l.length).1
  unfold codI
  omega
theorem codI_le {x : Int} {l : List Int} {k : Nat} (hk : k < l.length) : lvD x l (codI x l) ≤ lvD x l k := (codTo_ok x l l.length).2.1 k hk
theorem codI_first {x : Int} {l : List Int} {k : Nat} (hk : k < codI x l) : lvD x l (codI x l) < lvD x l k := (codTo_ok x l l.length).2.2 k hk
/-- What is on a level is coded as it. -/
theorem codI_on {l : List Int} (h : lvRise l = true) {k : Nat} (hk : k < l.length) : codI (nth l k) l = k := by
  have h1 := codI_le (x := nth l k) hk
  have h0 : lvD (nth l k) l k = 0 := by unfold lvD; simp
  have hlt := codI_lt (x := nth l k) (l := l) (by omega)
  have h2 : nth l k = nth l (codI (nth l k) l) := by unfold lvD at h1 h0; omega
  rcases Nat.lt_trichotomy (codI (nth l k) l) k with h3 | h3 | h3
  · have := lvRise_lt h h3 hk; omega
  · exact h3
  · have := lvRise_lt h h3 hlt; omega
/-- Coded, Decoded. -/
def codB (p : List Int) (ls : List (List Int)) : Bool := levB ls && okB p && decide (p.length = ls.length)
def codF (p : List Int) (ls : List (List Int)) (i : Nat) : Int := (codI (nth p i) (cn ls i) : Nat)
def codL (p : List Int) (ls : List (List Int)) : List Int := if codB p ls = true then tabL (codF p ls) ls.length else []
def decAt (c : List Int) (ls : List (List Int)) (i : Nat) : Bool := decide (0 ≤ nth c i) && decide (nth c i ≤ (cn ls i).length - 1)
def decTo (c : List Int) (ls : List (List Int)) : Nat → Bool
  | 0 => true
  | k + 1 => decTo c ls k && decAt c ls k
def decB (c : List Int) (ls : List (List Int)) : Bool := levB ls && decide (c.length = ls.length) && decTo c ls ls.length
def decF (c : List Int) (ls : List (List Int)) (i : Nat) : Int := nth (cn ls i) (nth c i).toNat
def decL (c : List Int) (ls : List (List Int)) : List Int := if decB c ls = true then tabL (decF c ls) ls.length else []
def offV (p : List Int) (ls : List (List Int)) : Int := stepsV p (decL (codL p ls) ls)
def sumLV (q c : List Int) (ls : List (List Int)) : Int := stepsV q (decL c ls)
theorem codB_iff (p : List Int) (ls : List (List Int)) : codB p ls = true ↔ levB ls = true ∧ okB p = true ∧ p.length = ls.length := by simp [codB, and_assoc]
theorem decAt_iff (c : List Int) (ls : List (List Int)) (i : Nat) : decAt c ls i = true ↔ 0 ≤ nth c i ∧ nth c i ≤ (cn ls i).length - 1 := by simp [decAt]
theorem decTo_iff (c : List Int) (ls : List (List Int)) (n : Nat) : decTo c ls n = true ↔ ∀ j, j < n → decAt c ls j = true := by
  induction n with
  | zero => simp [decTo]
  | succ n ih =>
    simp only [decTo, Bool.and_eq_true, ih]
    constructor
    · rintro ⟨h1, h2⟩ j hj
      rcases Nat.lt_or_ge j n with h | h
      · exact h1 j h
      · obtain rfl : j = n := by omega
        exact h2
    · exact fun h => ⟨fun j hj => h j (by omega), h n (by omega)⟩
theorem decB_iff (c : List Int) (ls : List (List Int)) : decB c ls = true ↔ levB ls = true ∧ c.length = ls.length ∧ ∀ j, j < ls.length → decAt c ls j = true := by
  simp only [decB, Bool.and_eq_true, decide_eq_true_eq, decTo_iff, and_assoc]
theorem decB_no {c : List Int} {ls : List (List Int)} {j : Nat} (hj : j < ls.length) (h : decAt c ls j = false) : decB c ls = false := by
  rcases e : decB c ls with _ | _
  · rfl
  · have := ((decB_iff c ls).1 e).2.2 j hj
    rw [this] at h; cases h
theorem codL_len {p : List Int} {ls : List (List Int)} (h : codB p ls = true) : (codL p ls).length = ls.length := by rw [codL, if_pos h, tabL_length]
theorem codL_no {p : List Int} {ls : List (List Int)} (h : codB p ls = false) : codL p ls = [] := by rw [codL, if_neg (by rw [h]; simp)]
theorem decL_no {c : List Int} {ls : List (List Int)} (h : decB c ls = false) : decL c ls = [] := by rw [decL, if_neg (by rw [h]; simp)]
theorem codL_at {p : List Int} {ls : List (List Int)} (h : codB p ls = true) {i : Nat} (hi : i < ls.length) : nth (codL p ls) i = codF p ls i := by rw [codL, if_pos h]; exact tabL_getD _ _ _ hi
theorem decL_at {c : List Int} {ls : List (List Int)} (h : decB c ls = true) {i : Nat} (hi : i < ls.length) : nth (decL c ls) i = decF c ls i := by rw [decL, if_pos h]; exact tabL_getD _ _ _ hi
theorem decL_len {c : List Int} {ls : List (List Int)} (h : decB c ls = true) : (decL c ls).length = ls.length := by rw [decL, if_pos h, tabL_length]
/-- What is coded can be decoded, is a point, and is coded as itself. -/
theorem cod_dec {p : List Int} {ls : List (List Int)} (h : codB p ls = true) : decB (codL p ls) ls = true := by
  obtain ⟨h1, h2, h3⟩ := (codB_iff p ls).1 h
  refine (decB_iff _ _).2 ⟨h1, codL_len h, fun j hj => (decAt_iff _ _ _).2 ?_⟩
  rw [codL_at h hj]
  have hl := ((lvOk_iff _).1 (((levB_iff ls).1 h1).2.2 j hj)).1
  have := codI_lt (x := nth p j) hl
  unfold codF
  omega
theorem dec_ok {c : List Int} {ls : List (List Int)} (h : decB c ls = true) : okB (decL c ls) = true := by
  obtain ⟨h1, h2, h3⟩ := (decB_iff c ls).1 h
  obtain ⟨a1, a2, a3⟩ := (levB_iff ls).1 h1
  refine okB_mk (by rw [decL_len h]; exact a1) (by rw [decL_len h]; exact a2) (fun i hi => ?_)
  rw [decL_len h] at hi
  rw [decL_at h hi]
  have hd := (decAt_iff _ _ _).1 (h3 i hi)
  exact lvOk_at (a3 i hi) (by have := ((lvOk_iff _).1 (a3 i hi)).1; omega)
theorem cod_again {p : List Int} {ls : List (List Int)} (h : codB p ls = true) : codL (decL (codL p ls) ls) ls = codL p ls := by
  have hd := cod_dec h
  obtain ⟨h1, h2, h3⟩ := (codB_iff p ls).1 h
  obtain ⟨a1, a2, a3⟩ := (levB_iff ls).1 h1
  have hc : codB (decL (codL p ls) ls) ls = true := (codB_iff _ _).2 ⟨h1, dec_ok hd, decL_len hd⟩
  refine list_eq_of_nth (by rw [codL_len hc, codL_len h]) (fun j hj => ?_)
  rw [codL_len hc] at hj
  rw [codL_at hc hj, codL_at h hj]
  unfold codF
  rw [decL_at hd hj]
  unfold decF
  rw [codL_at h hj]
  unfold codF
  rw [Int.toNat_natCast, codI_on ((lvOk_iff _).1 (a3 j hj)).2.2.1 (codI_lt ((lvOk_iff _).1 (a3 j hj)).1)]
/-- No level is nearer, and of alike ones none is less. -/
theorem cod_near {p : List Int} {ls : List (List Int)} (h : codB p ls = true) {i j : Nat} (hi : i < ls.length) (hj : j < (cn ls i).length) : ¬ (lvD (nth p i) (cn ls i) j < ((nth p i - nth (decL (codL p ls) ls) i).natAbs : Int) ∨ (lvD (nth p i) (cn ls i) j = ((nth p i - nth (decL (codL p ls) ls) i).natAbs : Int) ∧ nth (cn ls i) j < nth (decL (codL p ls) ls) i)) := by
  have hd := cod_dec h
  obtain ⟨h1, h2, h3⟩ := (codB_iff p ls).1 h
  have hl := (lvOk_iff _).1 (((levB_iff ls).1 h1).2.2 i hi)
  have e : nth (decL (codL p ls) ls) i = nth (cn ls i) (codI (nth p i) (cn ls i)) := by
    rw [decL_at hd hi]
    unfold decF
    rw [codL_at h hi]
    unfold codF
    rw [Int.toNat_natCast]
  rw [e]
  have hle := codI_le (x := nth p i) hj
  have hlt := codI_lt (x := nth p i) hl.1
  rintro (h4 | ⟨h4, h5⟩)
  · unfold lvD at hle h4; omega
  · rcases Nat.lt_trichotomy j (codI (nth p i) (cn ls i)) with h6 | h6 | h6
    · have := codI_first h6; unfold lvD at this h4; omega
    · rw [h6] at h5; omega
    · have := lvRise_lt hl.2.2.1 h6 hj; omega
theorem off_none {p : List Int} {ls : List (List Int)} (h : codB p ls = false) : offV p ls = -1 := by
  unfold offV
  have hd : decL (codL p ls) ls = [] := by
    rw [codL_no h]
    refine decL_no ?_
    rcases e : decB [] ls with _ | _
    · rfl
    · obtain ⟨h1, h2, -⟩ := (decB_iff [] ls).1 e
      have := ((levB_iff ls).1 h1).1
      simp at h2
      omega
  rw [hd, stepsV, if_neg]
  simp [twoB, okB]
/-- Distances are off by no more than it is. -/
theorem off_third {p x : List Int} {ls : List (List Int)} (h : codB p ls = true) (hx : okB x = true) (hl : x.length = p.length) : sumLV x (codL p ls) ls - stepsV x p ≤ offV p ls ∧ stepsV x p - sumLV x (codL p ls) ls ≤ offV p ls := by
  have hd := cod_dec h
  have hdo := dec_ok hd
  obtain ⟨h1, h2, h3⟩ := (codB_iff p ls).1 h
  have hlen := decL_len hd
  unfold sumLV offV
  generalize decL (codL p ls) ls = d at *
  have t1 : twoB x p = true := by simp [twoB, hx, h2, hl]
  have t2 : twoB x d = true := by simp [twoB, hx, hdo]; omega
  have t3 : twoB p d = true := by simp [twoB, h2, hdo]; omega
  rw [stepsV, if_pos t2, stepsV, if_pos t1, stepsV, if_pos t3]
  have e1 := sum_third (gapF x d) (gapF x p) (gapF p d) (fun i => gap_third x d p i) x.length
  have e2 := sum_third (gapF x p) (gapF x d) (gapF d p) (fun i => gap_third x p d i) x.length
  have e3 : sumTo (gapF d p) x.length = sumTo (gapF p d) x.length := by
    congr 1
    funext i
    exact gapF_comm d p i
  rw [hl] at e1 e2 e3 ⊢
  omega

end Go.Proofs.Ythkaiienfkihmaa
