/-
  What marks are: the given MarksOk and the program's own, each answers marksB; and what a kind is.
-/
import Derived.Test.YtbmljcpeonopmaaMCopy
namespace Go.Proofs.Ytbmljcpeonopmaa
open Go Go.RowKit

def inR (x lo hi : Int) : Bool := decide (lo ≤ x) && decide (x ≤ hi)
theorem inR_true {x lo hi : Int} (h1 : lo ≤ x) (h2 : x ≤ hi) : inR x lo hi = true := by simp [inR, h1, h2]
theorem inR_low {x lo hi : Int} (h1 : ¬ lo ≤ x) : inR x lo hi = false := by simp [inR, h1]
theorem inR_high {x lo hi : Int} (h2 : ¬ x ≤ hi) : inR x lo hi = false := by simp [inR, h2]
theorem inR_of {x lo hi : Int} (h : inR x lo hi = true) : lo ≤ x ∧ x ≤ hi := by simpa [inR] using h
theorem inR_not {x lo hi : Int} (h : inR x lo hi = false) : ¬ (lo ≤ x ∧ x ≤ hi) := by intro hh; rw [inR_true hh.1 hh.2] at h; cases h

set_option maxHeartbeats 400000 in
theorem sIn (x lo hi : Int) (w : World) :
    Calls Try.prog 46 #[.int .i64 x, .int .i64 lo, .int .i64 hi] w fun e w' => e = .returned (.bool (inR x lo hi)) ∧ w' = w := by
  by_cases h1 : lo ≤ x
  · by_cases h2 : x ≤ hi
    · have HV := hidP (inR_true h1 h2)
      go_enter Try.func46, Try.ntmps46
      go_wp2
      go_ret
      exact ⟨ret_bool HV.out.symm, rfl⟩
    · have HV := hidP (inR_high (lo := lo) h2)
      go_enter Try.func46, Try.ntmps46
      go_wp2
      go_ret
      exact ⟨ret_bool HV.out.symm, rfl⟩
  · have HV := hidP (inR_low (hi := hi) h1)
    go_enter Try.func46, Try.ntmps46
    go_wp2
    go_ret
    exact ⟨ret_bool HV.out.symm, rfl⟩

theorem kind_inR (k : Int) : inR k 1 3 = kindB k := rfl

def goodM (m : Mk) : Bool := inR m.1 1 1000000 && okB m.2
def followsM (m l : Mk) : Bool := decide (l.1 < m.1) && decide (m.2.length = l.2.length)

set_option maxHeartbeats 400000 in
theorem iUpTo (k : Int) (w : World) :
    Calls Try.prog 49 #[.int .i64 k] w fun e w' => e = .returned (.bool (inR k 1 1000000)) ∧ w' = w := by
  by_cases h1 : 1 ≤ k
  · by_cases h2 : k ≤ 1000000
    · have HV := hidP (inR_true h1 h2)
      go_enter Try.func49, Try.ntmps49
      go_wp2
      go_ret
      exact ⟨ret_bool HV.out.symm, rfl⟩
    · have HV := hidP (inR_high (lo := 1) h2)
      go_enter Try.func49, Try.ntmps49
      go_wp2
      go_ret
      exact ⟨ret_bool HV.out.symm, rfl⟩
  · have HV := hidP (inR_low (hi := 1000000) h1)
    go_enter Try.func49, Try.ntmps49
    go_wp2
    go_ret
    exact ⟨ret_bool HV.out.symm, rfl⟩

set_option maxHeartbeats 400000 in
theorem iMarkOk (m : Mk) (ao : Option Addr) (cap : Nat) (w : World) (hv : View w ao m.2) (hn : m.2.length ≤ 1048576) :
    Calls Try.prog 93 #[.agg #[.int .i64 m.1, .slice ao m.2.length cap]] w fun e w' => e = .returned (.bool (goodM m)) ∧ Below w.heap.size w w' := by
  have L0 : Below w.heap.size w (w.alloc (.cells #[.int .i64 m.1, .slice ao m.2.length cap] 76)) := (Below.refl _ _).alloc (Nat.le_refl _) _
  have HP := hidP (fun W (L : Below w.heap.size w W) => iOk ao cap m.2 W (View.next hv L) hn)
  have HU := hidP (fun W => iUpTo m.1 W)
  have HL := hidP L0
  obtain ⟨b, hb⟩ : ∃ b, inR m.1 1 1000000 = b := ⟨_, rfl⟩
  rw [hb] at HU
  have HV : Hid (goodM m = (b && okB m.2)) := by show goodM m = _; simp [goodM, hb]
  clear hb hv L0
  go_enter Try.func93, Try.ntmps93
  go_wp2_with fail
  refine (HU.out _).mono ?_
  rintro e w1 ⟨rfl, rfl⟩
  cases b with
  | true =>
    go_wp2_with fail
    refine (HP.out _ HL.out).mono ?_
    rintro e w1 ⟨rfl, rfl⟩
    go_wp2_with fail
    go_ret
    exact ⟨ret_bool HV.out.symm, HL.out⟩
  | false =>
    go_wp2_with fail
    go_ret
    exact ⟨ret_bool HV.out.symm, HL.out⟩

set_option maxHeartbeats 400000 in
theorem iFollows (m l : Mk) (ao ao' : Option Addr) (cap cap' : Nat) (w : World) :
    Calls Try.prog 94 #[.agg #[.int .i64 m.1, .slice ao m.2.length cap], .agg #[.int .i64 l.1, .slice ao' l.2.length cap']] w fun e w' => e = .returned (.bool (followsM m l)) ∧ Below w.heap.size w w' := by
  have L0 : Below w.heap.size w ((w.alloc (.cells #[.int .i64 m.1, .slice ao m.2.length cap] 76)).alloc (.cells #[.int .i64 l.1, .slice ao' l.2.length cap'] 76)) :=
    ((Below.refl _ _).alloc (Nat.le_refl _) _).alloc (by simp) _
  by_cases h1 : l.1 < m.1
  · by_cases h2 : m.2.length = l.2.length
    · have HV : Hid (followsM m l = true) := by show followsM m l = _; simp [followsM, h1, h2]
      have hb : ((m.2.length : Int) == (l.2.length : Int)) = true := by simp [h2]
      clear h2
      go_enter Try.func94, Try.ntmps94
      go_wp2_with fail
      go_ret
      exact ⟨ret_bool HV.out.symm, L0⟩
    · have HV : Hid (followsM m l = false) := by show followsM m l = _; simp [followsM, h2]
      have hb : ((m.2.length : Int) == (l.2.length : Int)) = false := by simp; omega
      clear h2
      go_enter Try.func94, Try.ntmps94
      go_wp2_with fail
      go_ret
      exact ⟨ret_bool HV.out.symm, L0⟩
  · have HV : Hid (followsM m l = false) := by show followsM m l = _; simp [followsM, h1]
    go_enter Try.func94, Try.ntmps94
    go_wp2_with fail
    go_ret
    exact ⟨ret_bool HV.out.symm, L0⟩

end Go.Proofs.Ytbmljcpeonopmaa
