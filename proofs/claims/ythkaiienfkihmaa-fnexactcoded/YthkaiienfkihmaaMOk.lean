/-
  What marks are: the given MarksOk and the program's own, each answers marksB; and what a kind is.
-/
import Derived.Test.YthkaiienfkihmaaMCopy
namespace Go.Proofs.Ythkaiienfkihmaa
open Go Go.RowKit

def inR (x lo hi : Int) : Bool := decide (lo ≤ x) && decide (x ≤ hi)
theorem inR_true {x lo hi : Int} (h1 : lo ≤ x) (h2 : x ≤ hi) : inR x lo hi = true := by simp [inR, h1, h2]
theorem inR_low {x lo hi : Int} (h1 : ¬ lo ≤ x) : inR x lo hi = false := by simp [inR, h1]
theorem inR_high {x lo hi : Int} (h2 : ¬ x ≤ hi) : inR x lo hi = false := by simp [inR, h2]
theorem inR_of {x lo hi : Int} (h : inR x lo hi = true) : lo ≤ x ∧ x ≤ hi := by simpa [inR] using h
theorem inR_not {x lo hi : Int} (h : inR x lo hi = false) : ¬ (lo ≤ x ∧ x ≤ hi) := by intro hh; rw [inR_true hh.1 hh.2] at h; cases h

set_option maxHeartbeats 400000 in
theorem sIn (x lo hi : Int) (w : World) :
    Calls Try.prog 50 #[.int .i64 x, .int .i64 lo, .int .i64 hi] w fun e w' => e = .returned (.bool (inR x lo hi)) ∧ w' = w := by
  by_cases h1 : lo ≤ x
  · by_cases h2 : x ≤ hi
    · have HV := hidP (inR_true h1 h2)
      go_enter Try.func50, Try.ntmps50
      go_wp2
      go_ret
      exact ⟨ret_bool HV.out.symm, rfl⟩
    · have HV := hidP (inR_high (lo := lo) h2)
      go_enter Try.func50, Try.ntmps50
      go_wp2
      go_ret
      exact ⟨ret_bool HV.out.symm, rfl⟩
  · have HV := hidP (inR_low (hi := hi) h1)
    go_enter Try.func50, Try.ntmps50
    go_wp2
    go_ret
    exact ⟨ret_bool HV.out.symm, rfl⟩

theorem kind_inR (k : Int) : inR k 1 3 = kindB k := rfl

def goodM (m : Mk) : Bool := inR m.1 1 1000000 && okB m.2
def followsM (m l : Mk) : Bool := decide (l.1 < m.1) && decide (m.2.length = l.2.length)

end Go.Proofs.Ythkaiienfkihmaa
