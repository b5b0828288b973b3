/-
  The program's orders of marks: cmp.Compare, cmp.Or, byId, and what byAxis hands back.
-/
import Derived.Test.YtibkfdefoaimiaaSCellsZz
import Derived.Deep.RegionHeld3
import Derived.Sort.Grow
import Derived.Test.YtibkfdefoaimiaaAppendZz
namespace Go.Proofs.Ytibkfdefoaimiaa
open Go Go.RowKit

def cmpI (x y : Int) : Int := if x < y then -1 else if y < x then 1 else 0
def orI (x y : Int) : Int := if x = 0 then y else x
def cfAx (ax : Nat) (a b : Sm) : Int := orI (cmpI (nth a.2.2.2 ax) (nth b.2.2.2 ax)) (cmpI a.1 b.1)
def cfId (a b : Sm) : Int := cmpI a.1 b.1

theorem cmpI_cases (p q : Int) : (cmpI p q = -1 ∧ p < q) ∨ (cmpI p q = 0 ∧ p = q) ∨ (cmpI p q = 1 ∧ q < p) := by
  unfold cmpI
  split
  · exact Or.inl ⟨rfl, by assumption⟩
  · split
    · exact Or.inr (Or.inr ⟨rfl, by assumption⟩)
    · exact Or.inr (Or.inl ⟨rfl, by omega⟩)
theorem orI_lt (p q r s : Int) : (orI (cmpI p q) (cmpI r s) < 0) ↔ (p < q ∨ (p = q ∧ r < s)) := by
  rcases cmpI_cases p q with ⟨e, h⟩ | ⟨e, h⟩ | ⟨e, h⟩ <;> rcases cmpI_cases r s with ⟨f, k⟩ | ⟨f, k⟩ | ⟨f, k⟩ <;> rw [e, f] <;> unfold orI <;> simp <;> omega
theorem cfAx_lt (ax : Nat) (a b : Sm) : decide (cfAx ax a b < 0) = smlt ax a b := by
  have h := orI_lt (nth a.2.2.2 ax) (nth b.2.2.2 ax) a.1 b.1
  have k := axlt_iff ax (smMark a) (smMark b)
  have e : (cfAx ax a b < 0) ↔ smlt ax a b = true := by unfold cfAx smlt; rw [h, k]; rfl
  rcases hs : smlt ax a b with _ | _
  · rw [hs] at e; simpa using e
  · rw [hs] at e; simpa using e
theorem cfId_lt (a b : Sm) : decide (cfId a b < 0) = smid a b := by
  unfold cfId smid idlt
  have e : (cmpI a.1 b.1 < 0) ↔ (smMark a).1 < (smMark b).1 := by
    show (cmpI a.1 b.1 < 0) ↔ a.1 < b.1
    rcases cmpI_cases a.1 b.1 with ⟨e, h⟩ | ⟨e, h⟩ | ⟨e, h⟩ <;> rw [e] <;> omega
  simp only [e]

theorem alloc_belowK (w : World) (o : Obj) : Below w.heap.size w (w.alloc o) := (Below.refl w.heap.size w).alloc (Nat.le_refl _) o
/-- Some draws on, and some blocks behind. -/
def Grows (W w : World) : Prop := ∃ q os, w = Go.Sort.grow (W.drewN q) os
theorem Grows.refl (W : World) : Grows W W := ⟨0, #[], by show W = { W with heap := W.heap ++ #[] }; rw [Array.append_empty]⟩
theorem Grows.alloc {W w : World} (h : Grows W w) (o : Obj) : Grows W (w.alloc o) := by
  obtain ⟨q, os, rfl⟩ := h
  exact ⟨q, os ++ #[o], by rw [Go.Sort.alloc_eq_grow, Go.Sort.grow_grow]⟩
theorem Grows.drew {W w : World} (h : Grows W w) : Grows W w.drew := by
  obtain ⟨q, os, rfl⟩ := h
  exact ⟨q + 1, os, rfl⟩

set_option maxHeartbeats 400000 in
theorem pCompare (x y : Int) (w : World) :
    Calls Try.prog 70 #[.int .i64 x, .int .i64 y] w fun e w' => e = .returned (.int .i64 (cmpI x y)) ∧ w' = w := by
  have hx : (x != x) = false := by simp
  have hy : (y != y) = false := by simp
  by_cases h1 : x < y
  · have HV : Hid (cmpI x y = -1) := by show cmpI x y = -1; simp [cmpI, h1]
    go_enter Try.func70, Try.ntmps70
    go_wp2
    go_ret
    exact ⟨ret_int HV.out.symm, rfl⟩
  · by_cases h2 : y < x
    · have HV : Hid (cmpI x y = 1) := by show cmpI x y = 1; simp [cmpI, h1, h2]
      go_enter Try.func70, Try.ntmps70
      go_wp2
      go_ret
      exact ⟨ret_int HV.out.symm, rfl⟩
    · have HV : Hid (cmpI x y = 0) := by show cmpI x y = 0; simp [cmpI, h1, h2]
      go_enter Try.func70, Try.ntmps70
      go_wp2
      go_ret
      exact ⟨ret_int HV.out.symm, rfl⟩

set_option maxHeartbeats 400000 in
theorem pById (x y : Sm) (w : World) :
    Calls Try.prog 71 #[.agg #[.int .i64 x.1, .slice x.2.1 x.2.2.2.length x.2.2.1], .agg #[.int .i64 y.1, .slice y.2.1 y.2.2.2.length y.2.2.1]] w fun e w' => e = .returned (.int .i64 (cfId x y)) ∧ w' = (w.alloc (.cells #[.int .i64 x.1, .slice x.2.1 x.2.2.2.length x.2.2.1] 38)).alloc (.cells #[.int .i64 y.1, .slice y.2.1 y.2.2.2.length y.2.2.1] 38) := by
  go_enter Try.func71, Try.ntmps71
  go_wp2_with (go_at_call 70; refine (pCompare _ _ _).mono ?_; rintro e w' ⟨rfl, rfl⟩)
  go_ret
  exact ⟨rfl, rfl⟩

set_option maxHeartbeats 400000 in
theorem pOr (B : Nat) (a b : Int) (w : World) (h0 : w.cell? ⟨B, 0, none⟩ = some (.int .i64 a)) (h1 : w.cell? ⟨B, 1, none⟩ = some (.int .i64 b)) :
    Calls Try.prog 69 #[.slice (some ⟨B, 0, none⟩) 2 2] w fun e w' => e = .returned (.int .i64 (orI a b)) ∧ w' = w := by
  by_cases ha : a = 0
  · subst ha
    by_cases hb : b = 0
    · subst hb
      go_enter Try.func69, Try.ntmps69
      go_wp2
      refine wp_loop_rounds 3 ?_
      rw [rounds_succ]
      go_wp2
      rw [rounds_succ]
      go_wp2
      rw [rounds_succ]
      go_wp2
      go_ret
      exact ⟨rfl, rfl⟩
    · have hbb : (b != 0) = true := by simp [hb]
      have HV : Hid (orI 0 b = b) := by show orI 0 b = b; simp [orI]
      go_enter Try.func69, Try.ntmps69
      go_wp2
      refine wp_loop_rounds 3 ?_
      rw [rounds_succ]
      go_wp2
      rw [rounds_succ]
      go_wp2
      go_ret
      exact ⟨ret_int HV.out.symm, rfl⟩
  · have hab : (a != 0) = true := by simp [ha]
    have HV : Hid (orI a b = a) := by show orI a b = a; simp [orI, ha]
    go_enter Try.func69, Try.ntmps69
    go_wp2
    refine wp_loop_rounds 3 ?_
    rw [rounds_succ]
    go_wp2
    go_ret
    exact ⟨ret_int HV.out.symm, rfl⟩

end Go.Proofs.Ytibkfdefoaimiaa
