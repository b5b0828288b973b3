/-
  Plain mathematics for the laws of chapter 7 (no program is named here): numbers divided and rounded down, the cell of a point.
-/
import Derived.Test.YthkaiienfkihmaaMarks
namespace Go.Proofs.Ythkaiienfkihmaa

theorem floor_of {n s q : Int} (hs : 0 < s) (h1 : q * s ≤ n) (h2 : n < q * s + s) : n / s = q := by
  have a := (Int.le_ediv_iff_mul_le hs (a := q) (b := n)).2 h1
  have b : n / s < q + 1 := (Int.ediv_lt_iff_lt_mul hs).2 (by rw [Int.add_mul, Int.one_mul]; exact h2)
  omega
theorem floor_in {n s : Int} (hs : 0 < s) : n / s * s ≤ n ∧ n < n / s * s + s := by
  have a := Int.ediv_mul_le n (b := s) (by omega)
  have b := Int.lt_ediv_add_one_mul_self n hs
  rw [Int.add_mul, Int.one_mul] at b
  exact ⟨a, b⟩
theorem tdiv_pos {n s : Int} (hn : 0 ≤ n) : n.tdiv s = n / s := Int.tdiv_eq_ediv_of_nonneg hn
theorem tdiv_neg' {n s : Int} (hn : n < 0) : n.tdiv s = -((-n) / s) := by
  rw [← tdiv_pos (n := -n) (by omega), Int.neg_tdiv, Int.neg_neg]
/-- The given way: towards nought, and one less where that is above. -/
theorem floor_spec_yes {n s : Int} (hs : 0 < s) (h : n.tdiv s * s > n) : n / s = n.tdiv s - 1 := by
  rcases Int.lt_or_le n 0 with hn | hn
  · rw [tdiv_neg' hn] at h ⊢
    have := floor_in (n := -n) hs
    refine floor_of hs ?_ ?_
    · rw [Int.sub_mul, Int.one_mul]
      rw [Int.neg_mul] at h ⊢
      omega
    · rw [Int.sub_mul, Int.one_mul]
      rw [Int.neg_mul] at h ⊢
      omega
  · rw [tdiv_pos hn] at h
    have := floor_in (n := n) hs
    omega
theorem floor_spec_no {n s : Int} (hs : 0 < s) (h : ¬ n.tdiv s * s > n) : n / s = n.tdiv s := by
  rcases Int.lt_or_le n 0 with hn | hn
  · rw [tdiv_neg' hn] at h ⊢
    have := floor_in (n := -n) hs
    refine floor_of hs ?_ ?_
    · rw [Int.neg_mul] at h ⊢
      omega
    · rw [Int.neg_mul] at h ⊢
      omega
  · rw [tdiv_pos hn]
/-- The program's: below nought it begins at the low end. -/
theorem floor_low {n s : Int} (hs : 0 < s) (hn : n < 0) : (n - (s - 1)).tdiv s = n / s := by
  rw [tdiv_neg' (by omega)]
  have h := floor_in (n := -(n - (s - 1))) hs
  generalize -(n - (s - 1)) / s = d at *
  refine (floor_of hs ?_ ?_).symm
  · rw [Int.neg_mul]; omega
  · rw [Int.neg_mul]; omega
theorem floor_bd {n s : Int} (hs : 0 < s) (h1 : -1000 ≤ n) (h2 : n ≤ 1000) : -1000 ≤ n / s ∧ n / s ≤ 1000 := by
  constructor
  · exact (Int.le_ediv_iff_mul_le hs).2 (by
      have : (1000 : Int) * 1 ≤ 1000 * s := Int.mul_le_mul_of_nonneg_left (by omega) (by omega)
      rw [Int.neg_mul]; omega)
  · have := (Int.ediv_lt_iff_lt_mul hs (a := n) (b := 1001)).2 (by
      have : (1001 : Int) * 1 ≤ 1001 * s := Int.mul_le_mul_of_nonneg_left (by omega) (by omega)
      omega)
    omega
theorem tdiv_bd {n s : Int} (hs : 0 < s) (h1 : -1000 ≤ n) (h2 : n ≤ 1000) (h3 : s ≤ 1000) : -1000 ≤ n.tdiv s ∧ n.tdiv s ≤ 1000 ∧ -3000 ≤ n.tdiv s * s ∧ n.tdiv s * s ≤ 3000 := by
  have hb := floor_bd hs h1 h2
  have hi := floor_in (n := n) hs
  by_cases h : n.tdiv s * s > n
  · have e := floor_spec_yes hs h
    have e2 : n.tdiv s = n / s + 1 := by omega
    have e3 : n.tdiv s * s = n / s * s + s := by rw [e2, Int.add_mul, Int.one_mul]
    have hle : n / s + 1 ≤ 1000 := by
      rcases Int.lt_or_le n 0 with hn | hn
      · have := Int.ediv_neg_of_neg_of_pos hn hs
        omega
      · rw [tdiv_pos hn] at h; omega
    omega
  · have e := floor_spec_no hs h
    rw [← e]
    omega
def gsideB (s : Int) : Bool := decide (1 ≤ s) && decide (s ≤ 1000)
theorem gsideB_iff (s : Int) : gsideB s = true ↔ 1 ≤ s ∧ s ≤ 1000 := by simp [gsideB]
def cellF (p : List Int) (s : Int) (i : Nat) : Int := nth p i / s
def cellV (p : List Int) (s : Int) : List Int := tabL (cellF p s) p.length
def cellL (p : List Int) (s : Int) : List Int := if okB p = true ∧ gsideB s = true then cellV p s else []
theorem cellV_length (p : List Int) (s : Int) : (cellV p s).length = p.length := by simp [cellV, tabL_length]
theorem cellL_short (p : List Int) (s : Int) : (cellL p s).length ≤ 4 := by
  unfold cellL
  split
  · rename_i h
    rw [cellV_length]; exact (okB_len h.1).2
  · simp

end Go.Proofs.Ythkaiienfkihmaa
