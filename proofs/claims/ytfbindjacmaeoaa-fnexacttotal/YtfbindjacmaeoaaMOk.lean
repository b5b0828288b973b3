/-
  What marks are: the given MarksOk and the program's own, each answers marksB; and what a kind is.
-/
import Derived.Test.YtfbindjacmaeoaaMCopy
namespace Go.Proofs.Ytfbindjacmaeoaa
open Go Go.RowKit

def inR (x lo hi : Int) : Bool := decide (lo ≤ x) && decide (x ≤ hi)
theorem inR_true {x lo hi : Int} (h1 : lo ≤ x) (h2 : x ≤ hi) : inR x lo hi = true := by simp [inR, h1, h2]
theorem inR_low {x lo hi : Int} (h1 : ¬ lo ≤ x) : inR x lo hi = false := by simp [inR, h1]
theorem inR_high {x lo hi : Int} (h2 : ¬ x ≤ hi) : inR x lo hi = false := by simp [inR, h2]
theorem inR_of {x lo hi : Int} (h : inR x lo hi = true) : lo ≤ x ∧ x ≤ hi := by simpa [inR] using h
theorem inR_not {x lo hi : Int} (h : inR x lo hi = false) : ¬ (lo ≤ x ∧ x ≤ hi) := by intro hh; rw [inR_true hh.1 hh.2] at h; cases h

set_option maxHeartbeats 400000 in
theorem sIn (x lo hi : Int) (w : World) :
    Calls Try.prog 66 #[.int .i64 x, .int .i64 lo, .int .i64 hi] w fun e w' => e = .returned (.bool (inR x lo hi)) ∧ w' = w := by
  by_cases h1 : lo ≤ x
  · by_cases h2 : x ≤ hi
    · have HV := hidP (inR_true h1 h2)
      go_enter Try.func66, Try.ntmps66
      go_wp2
      go_ret
      exact ⟨ret_bool HV.out.symm, rfl⟩
    · have HV := hidP (inR_high (lo := lo) h2)
      go_enter Try.func66, Try.ntmps66
      go_wp2
      go_ret
      exact ⟨ret_bool HV.out.symm, rfl⟩
  · have HV := hidP (inR_low (hi := hi) h1)
    go_enter Try.func66, Try.ntmps66
    go_wp2
    go_ret
    exact ⟨ret_bool HV.out.symm, rfl⟩

theorem kind_inR (k : Int) : inR k 1 3 = kindB k := rfl

set_option maxHeartbeats 400000 in
theorem sKind (k : Int) (w : World) :
    Calls Try.prog 58 #[.int .i64 k] w fun e w' => e = .returned (.bool (kindB k)) ∧ w' = w := by
  go_enter Try.func58, Try.ntmps58
  go_wp2_with fail
  refine (sIn k 1 3 _).mono ?_
  rintro e w1 ⟨rfl, rfl⟩
  rw [kind_inR]
  go_wp2_with fail
  go_ret
  exact ⟨rfl, rfl⟩

set_option maxHeartbeats 400000 in
theorem iKind (k : Int) (w : World) :
    Calls Try.prog 49 #[.int .i64 k] w fun e w' => e = .returned (.bool (kindB k)) ∧ w' = w := by
  rw [← kind_inR]
  by_cases h1 : 1 ≤ k
  · by_cases h2 : k ≤ 3
    · have HV := hidP (inR_true h1 h2)
      go_enter Try.func49, Try.ntmps49
      go_wp2
      go_ret
      exact ⟨ret_bool HV.out.symm, rfl⟩
    · have HV := hidP (inR_high (lo := 1) h2)
      go_enter Try.func49, Try.ntmps49
      go_wp2
      go_ret
      exact ⟨ret_bool HV.out.symm, rfl⟩
  · have HV := hidP (inR_low (hi := 3) h1)
    go_enter Try.func49, Try.ntmps49
    go_wp2
    go_ret
    exact ⟨ret_bool HV.out.symm, rfl⟩

def goodM (m : Mk) : Bool := inR m.1 1 1000000 && okB m.2
def followsM (m l : Mk) : Bool := decide (l.1 < m.1) && decide (m.2.length = l.2.length)

set_option maxHeartbeats 400000 in
theorem iMarkOk (m : Mk) (ao : Option Addr) (cap : Nat) (w : World) (hv : View w ao m.2) (hn : m.2.length ≤ 1048576) :
    Calls Try.prog 87 #[.agg #[.int .i64 m.1, .slice ao m.2.length cap]] w fun e w' => e = .returned (.bool (goodM m)) ∧ Below w.heap.size w w' := by
  have L0 : Below w.heap.size w (w.alloc (.cells #[.int .i64 m.1, .slice ao m.2.length cap] 38)) := (Below.refl _ _).alloc (Nat.le_refl _) _
  have hv0 := View.next hv L0
  by_cases h1 : 1 ≤ m.1
  · by_cases h2 : m.1 ≤ 1000000
    · have HV : Hid (goodM m = okB m.2) := by show goodM m = _; simp [goodM, inR_true h1 h2]
      go_enter Try.func87, Try.ntmps87
      go_wp2_with fail
      refine (iOk ao cap m.2 _ hv0 hn).mono ?_
      rintro e w1 ⟨rfl, rfl⟩
      go_wp2_with fail
      go_ret
      exact ⟨ret_bool HV.out.symm, L0⟩
    · have HV : Hid (goodM m = false) := by show goodM m = _; simp [goodM, inR_high h2]
      go_enter Try.func87, Try.ntmps87
      go_wp2_with fail
      go_ret
      exact ⟨ret_bool HV.out.symm, L0⟩
  · have HV : Hid (goodM m = false) := by show goodM m = _; simp [goodM, inR_low h1]
    go_enter Try.func87, Try.ntmps87
    go_wp2_with fail
    go_ret
    exact ⟨ret_bool HV.out.symm, L0⟩

set_option maxHeartbeats 400000 in
theorem iFollows (m l : Mk) (ao ao' : Option Addr) (cap cap' : Nat) (w : World) :
    Calls Try.prog 88 #[.agg #[.int .i64 m.1, .slice ao m.2.length cap], .agg #[.int .i64 l.1, .slice ao' l.2.length cap']] w fun e w' => e = .returned (.bool (followsM m l)) ∧ Below w.heap.size w w' := by
  have L0 : Below w.heap.size w ((w.alloc (.cells #[.int .i64 m.1, .slice ao m.2.length cap] 38)).alloc (.cells #[.int .i64 l.1, .slice ao' l.2.length cap'] 38)) :=
    ((Below.refl _ _).alloc (Nat.le_refl _) _).alloc (by simp) _
  by_cases h1 : l.1 < m.1
  · by_cases h2 : m.2.length = l.2.length
    · have HV : Hid (followsM m l = true) := by show followsM m l = _; simp [followsM, h1, h2]
      have hb : ((m.2.length : Int) == (l.2.length : Int)) = true := by simp [h2]
      clear h2
      go_enter Try.func88, Try.ntmps88
      go_wp2_with fail
      go_ret
      exact ⟨ret_bool HV.out.symm, L0⟩
    · have HV : Hid (followsM m l = false) := by show followsM m l = _; simp [followsM, h2]
      have hb : ((m.2.length : Int) == (l.2.length : Int)) = false := by simp; omega
      clear h2
      go_enter Try.func88, Try.ntmps88
      go_wp2_with fail
      go_ret
      exact ⟨ret_bool HV.out.symm, L0⟩
  · have HV : Hid (followsM m l = false) := by show followsM m l = _; simp [followsM, h1]
    go_enter Try.func88, Try.ntmps88
    go_wp2_with fail
    go_ret
    exact ⟨ret_bool HV.out.symm, L0⟩

end Go.Proofs.Ytfbindjacmaeoaa
