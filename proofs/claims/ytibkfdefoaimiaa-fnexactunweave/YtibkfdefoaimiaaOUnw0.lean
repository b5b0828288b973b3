/-
  The given Unweave.
-/
import Derived.Test.YtibkfdefoaimiaaOWea
namespace Go.Proofs.Ytibkfdefoaimiaa
open Go Go.RowKit

/-- Are there n numbers of which Weave makes the code? -/
def codeB (c n : Int) : Bool := inR n 1 4 && inR c 0 (2 ^ (10 * n.toNat) - 1)
def unweaveL (c n : Int) : List Int := if codeB c n = true then tabL (fun k => (uF n.toNat c.toNat (10 * n.toNat) k : Int)) n.toNat else []

set_option maxHeartbeats 400000 in
theorem oMax (x y : Int) (w : World) :
    Calls Try.prog 42 #[.int .i64 x, .int .i64 y] w fun e w' => e = .returned (.int .i64 (max x y)) ∧ w' = w := by
  by_cases h : x ≤ y
  · have HV := hidP (show max x y = y by omega)
    go_enter Try.func42, Try.ntmps42
    go_wp2
    go_ret
    exact ⟨by rw [HV.out]; rfl, rfl⟩
  · have HV := hidP (show max x y = x by omega)
    go_enter Try.func42, Try.ntmps42
    go_wp2
    go_ret
    exact ⟨by rw [HV.out]; rfl, rfl⟩

set_option maxHeartbeats 400000 in
theorem oMin (x y : Int) (w : World) :
    Calls Try.prog 45 #[.int .i64 x, .int .i64 y] w fun e w' => e = .returned (.int .i64 (min x y)) ∧ w' = w := by
  by_cases h : x < y
  · have HV := hidP (show min x y = x by omega)
    go_enter Try.func45, Try.ntmps45
    go_wp2
    go_ret
    exact ⟨by rw [HV.out]; rfl, rfl⟩
  · have HV := hidP (show min x y = y by omega)
    go_enter Try.func45, Try.ntmps45
    go_wp2
    go_ret
    exact ⟨by rw [HV.out]; rfl, rfl⟩

theorem top_code {n : Nat} (h : n ≤ 4) : wrap64 (wrap64 (2 ^ (10 * n)) - 1) = 2 ^ (10 * n) - 1 := by
  rcases (show n = 0 ∨ n = 1 ∨ n = 2 ∨ n = 3 ∨ n = 4 by omega) with rfl | rfl | rfl | rfl | rfl <;> simp [wrap64]

/-- The numbers of the first s bits. -/
def uL (n c s : Nat) : List Int := tabL (fun k => (uF n c s k : Int)) n
theorem uL_len (n c s : Nat) : (uL n c s).length = n := by simp [uL, tabL]
theorem uL_zero (n c : Nat) : rowC (uL n c 0) = madeCells #[.int .i64 0] n := by
  rw [← filled_zero (fun _ => 0) n]
  unfold uL filled
  congr 1
  apply List.ext_getElem
  · simp [tabL]
  · intro i h1 h2; simp [tabL, uF]
theorem uL_nth {n c s k : Nat} (h : k < n) : nth (uL n c s) k = (uF n c s k : Int) := by
  simp [uL, nth, tabL, h]
theorem uL_succ {n c s : Nat} : (rowC (uL n c s)).setIfInBounds (s % n) (.int .i64 ((uF n c s (s % n) ||| bitN c s * 2 ^ (s / n) : Nat) : Int)) = rowC (uL n c (s + 1)) := by
  apply Array.ext
  · simp [rowC, uL_len]
  · intro i h1 h2
    simp [rowC, uL_len] at h1 h2
    simp only [rowC, uL, tabL, List.setIfInBounds_toArray, List.getElem_toArray, List.getElem_set, List.getElem_map, List.getElem_range, uF]
    by_cases e : s % n = i
    · subst e; simp
    · rw [if_neg e, if_neg (fun h => e h.symm)]
theorem uF_or_lt {n c s : Nat} (h : 0 < n) (hs : s < 10 * n) : uF n c s (s % n) < 1024 ∧ bitN c s * 2 ^ (s / n) < 1024 ∧ s / n < 10 := by
  have hm := Nat.mod_lt s h
  have h2 : s / n < 10 := (Nat.div_lt_iff_lt_mul h).2 hs
  refine ⟨uF_lt h c _ hm (by omega), ?_, h2⟩
  have h3 := bitN_lt c s
  have h4 : 2 ^ (s / n) < 2 ^ 10 := Nat.pow_lt_pow_right (by decide) h2
  rcases (show bitN c s = 0 ∨ bitN c s = 1 by omega) with e | e <;> rw [e] <;> omega

end Go.Proofs.Ytibkfdefoaimiaa
