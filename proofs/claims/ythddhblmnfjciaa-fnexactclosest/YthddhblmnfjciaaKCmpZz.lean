/-
  The program's orders of marks: cmp.Compare, cmp.Or, byId, and what byAxis hands back.
-/
import Derived.Test.YthddhblmnfjciaaSCellsZz
import Derived.Deep.RegionHeld3
import Derived.Sort.Grow
import Derived.Test.YthddhblmnfjciaaAppendZz
namespace Go.Proofs.Ythddhblmnfjciaa
open Go Go.RowKit

def cmpI (x y : Int) : Int := if x < y then -1 else if y < x then 1 else 0
def orI (x y : Int) : Int := if x = 0 then y else x
def cfAx (ax : Nat) (a b : Sm) : Int := orI (cmpI (nth a.2.2.2 ax) (nth b.2.2.2 ax)) (cmpI a.1 b.1)
def cfId (a b : Sm) : Int := cmpI a.1 b.1

theorem cmpI_cases (p q : Int) : (cmpI p q = -1 ∧ p < q) ∨ (cmpI p q = 0 ∧ p = q) ∨ (cmpI p q = 1 ∧ q < p) := by
  unfold cmpI
  split
  · exact Or.inl ⟨rfl, by assumption⟩
  · split
    · exact Or.inr (Or.inr ⟨rfl, by assumption⟩)
    · exact Or.inr (Or.inl ⟨rfl, by omega⟩)
theorem orI_lt (p q r s : Int) : (orI (cmpI p q) (cmpI r s) < 0) ↔ (p < q ∨ (p = q ∧ r < s)) := by
  rcases cmpI_cases p q with ⟨e, h⟩ | ⟨e, h⟩ | ⟨e, h⟩ <;> rcases cmpI_cases r s with ⟨f, k⟩ | ⟨f, k⟩ | ⟨f, k⟩ <;> rw [e, f] <;> unfold orI <;> simp <;> omega
theorem cfAx_lt (ax : Nat) (a b : Sm) : decide (cfAx ax a b < 0) = smlt ax a b := by
  have h := orI_lt (nth a.2.2.2 ax) (nth b.2.2.2 ax) a.1 b.1
  have k := axlt_iff ax (smMark a) (smMark b)
  have e : (cfAx ax a b < 0) ↔ smlt ax a b = true := by unfold cfAx smlt; rw [h, k]; rfl
  rcases hs : smlt ax a b with _ | _
  · rw [hs] at e; simpa using e
  · rw [hs] at e; simpa using e
theorem cfId_lt (a b : Sm) : decide (cfId a b < 0) = smid a b := by
  unfold cfId smid idlt
  have e : (cmpI a.1 b.1 < 0) ↔ (smMark a).1 < (smMark b).1 := by
    show (cmpI a.1 b.1 < 0) ↔ a.1 < b.1
    rcases cmpI_cases a.1 b.1 with ⟨e, h⟩ | ⟨e, h⟩ | ⟨e, h⟩ <;> rw [e] <;> omega
  simp only [e]

theorem alloc_belowK (w : World) (o : Obj) : Below w.heap.size w (w.alloc o) := (Below.refl w.heap.size w).alloc (Nat.le_refl _) o
/-- Some draws on, and some blocks behind. -/
def Grows (W w : World) : Prop := ∃ q os, w = Go.Sort.grow (W.drewN q) os
theorem Grows.refl (W : World) : Grows W W := ⟨0, #[], by show W = { W with heap := W.heap ++ #[] }; rw [Array.append_empty]⟩
theorem Grows.alloc {W w : World} (h : Grows W w) (o : Obj) : Grows W (w.alloc o) := by
  obtain ⟨q, os, rfl⟩ := h
  exact ⟨q, os ++ #[o], by rw [Go.Sort.alloc_eq_grow, Go.Sort.grow_grow]⟩
theorem Grows.drew {W w : World} (h : Grows W w) : Grows W w.drew := by
  obtain ⟨q, os, rfl⟩ := h
  exact ⟨q + 1, os, rfl⟩

set_option maxHeartbeats 400000 in
theorem pCompare (x y : Int) (w : World) :
    Calls Try.prog 159 #[.int .i64 x, .int .i64 y] w fun e w' => e = .returned (.int .i64 (cmpI x y)) ∧ w' = w := by
  have hx : (x != x) = false := by simp
  have hy : (y != y) = false := by simp
  by_cases h1 : x < y
  · have HV : Hid (cmpI x y = -1) := by show cmpI x y = -1; simp [cmpI, h1]
    go_enter Try.func159, Try.ntmps159
    go_wp2
    go_ret
    exact ⟨ret_int HV.out.symm, rfl⟩
  · by_cases h2 : y < x
    · have HV : Hid (cmpI x y = 1) := by show cmpI x y = 1; simp [cmpI, h1, h2]
      go_enter Try.func159, Try.ntmps159
      go_wp2
      go_ret
      exact ⟨ret_int HV.out.symm, rfl⟩
    · have HV : Hid (cmpI x y = 0) := by show cmpI x y = 0; simp [cmpI, h1, h2]
      go_enter Try.func159, Try.ntmps159
      go_wp2
      go_ret
      exact ⟨ret_int HV.out.symm, rfl⟩

set_option maxHeartbeats 400000 in
theorem pById (x y : Sm) (w : World) :
    Calls Try.prog 127 #[.agg #[.int .i64 x.1, .slice x.2.1 x.2.2.2.length x.2.2.1], .agg #[.int .i64 y.1, .slice y.2.1 y.2.2.2.length y.2.2.1]] w fun e w' => e = .returned (.int .i64 (cfId x y)) ∧ w' = (w.alloc (.cells #[.int .i64 x.1, .slice x.2.1 x.2.2.2.length x.2.2.1] 93)).alloc (.cells #[.int .i64 y.1, .slice y.2.1 y.2.2.2.length y.2.2.1] 93) := by
  go_enter Try.func127, Try.ntmps127
  go_wp2_with (go_at_call 159; refine (pCompare _ _ _).mono ?_; rintro e w' ⟨rfl, rfl⟩)
  go_ret
  exact ⟨rfl, rfl⟩

set_option maxHeartbeats 400000 in
theorem pOr (B : Nat) (a b : Int) (w : World) (h0 : w.cell? ⟨B, 0, none⟩ = some (.int .i64 a)) (h1 : w.cell? ⟨B, 1, none⟩ = some (.int .i64 b)) :
    Calls Try.prog 161 #[.slice (some ⟨B, 0, none⟩) 2 2] w fun e w' => e = .returned (.int .i64 (orI a b)) ∧ w' = w := by
  by_cases ha : a = 0
  · subst ha
    by_cases hb : b = 0
    · subst hb
      go_enter Try.func161, Try.ntmps161
      go_wp2
      refine wp_loop_rounds 3 ?_
      rw [rounds_succ]
      go_wp2
      rw [rounds_succ]
      go_wp2
      rw [rounds_succ]
      go_wp2
      go_ret
      exact ⟨rfl, rfl⟩
    · have hbb : (b != 0) = true := by simp [hb]
      have HV : Hid (orI 0 b = b) := by show orI 0 b = b; simp [orI]
      go_enter Try.func161, Try.ntmps161
      go_wp2
      refine wp_loop_rounds 3 ?_
      rw [rounds_succ]
      go_wp2
      rw [rounds_succ]
      go_wp2
      go_ret
      exact ⟨ret_int HV.out.symm, rfl⟩
  · have hab : (a != 0) = true := by simp [ha]
    have HV : Hid (orI a b = a) := by show orI a b = a; simp [orI, ha]
    go_enter Try.func161, Try.ntmps161
    go_wp2
    refine wp_loop_rounds 3 ?_
    rw [rounds_succ]
    go_wp2
    go_ret
    exact ⟨ret_int HV.out.symm, rfl⟩

set_option maxRecDepth 100000 in
set_option maxHeartbeats 1000000 in
theorem pByAxis (B ax : Nat) (x y : Sm) (w : World) (hB : B < w.heap.size) (hax : w.cell? ⟨B, 0, none⟩ = some (.int .i64 ax)) (hx : View w x.2.1 x.2.2.2) (hy : View w y.2.1 y.2.2.2) (lx : ax < x.2.2.2.length) (ly : ax < y.2.2.2.length) :
    Calls Try.prog 169 #[.agg #[.int .i64 x.1, .slice x.2.1 x.2.2.2.length x.2.2.1], .agg #[.int .i64 y.1, .slice y.2.1 y.2.2.2.length y.2.2.1], .pointer (some ⟨B, 0, none⟩)] w fun e w' => e = .returned (.int .i64 (cfAx ax x y)) ∧ Grows w w' := by
  obtain ⟨W, hW⟩ : ∃ W, W = (w.alloc (.cells #[.int .i64 x.1, .slice x.2.1 x.2.2.2.length x.2.2.1] 93)).alloc (.cells #[.int .i64 y.1, .slice y.2.1 y.2.2.2.length y.2.2.1] 93) := ⟨_, rfl⟩
  have hG : Grows w W := by rw [hW]; exact ((Grows.refl w).alloc _).alloc _
  have hL : Below w.heap.size w W := by rw [hW]; exact ((Below.refl _ _).alloc (Nat.le_refl _) _).alloc (by simp) _
  have hsz : W.heap.size = w.heap.size + 2 := by rw [hW]; simp
  have a0 : W.cell? ⟨w.heap.size, 0, none⟩ = some (.int .i64 x.1) := by rw [hW]; go_simp
  have a1 : W.cell? ⟨w.heap.size, 1, none⟩ = some (.slice x.2.1 x.2.2.2.length x.2.2.1) := by rw [hW]; go_simp
  have b0 : W.cell? ⟨w.heap.size + 1, 0, none⟩ = some (.int .i64 y.1) := by rw [hW]; go_simp
  have b1 : W.cell? ⟨w.heap.size + 1, 1, none⟩ = some (.slice y.2.1 y.2.2.2.length y.2.2.1) := by rw [hW]; go_simp
  obtain ⟨bx, ox, hxo, hbx, hxs⟩ : ∃ b off, x.2.1 = some ⟨b, off, none⟩ ∧ b < w.heap.size ∧ Seg w b off x.2.2.2 := by
    rcases hx with h | h
    · rw [h] at lx; simp at lx
    · exact h
  obtain ⟨bY, oY, hyo, hby, hys⟩ : ∃ b off, y.2.1 = some ⟨b, off, none⟩ ∧ b < w.heap.size ∧ Seg w b off y.2.2.2 := by
    rcases hy with h | h
    · rw [h] at ly; simp at ly
    · exact h
  have x2 := (hL.cell (p := ⟨bx, ox + ax, none⟩) hbx).trans (hxs ax lx)
  have y2 := (hL.cell (p := ⟨bY, oY + ax, none⟩) hby).trans (hys ax ly)
  have z0 := (hL.cell (p := ⟨B, 0, none⟩) hB).trans hax
  have lx' : (ax : Int) < (x.2.2.2.length : Int) := by omega
  have ly' : (ax : Int) < (y.2.2.2.length : Int) := by omega
  have l0 : (0 : Int) ≤ (ax : Int) := Int.natCast_nonneg _
  have HV : Hid (orI (cmpI (nth x.2.2.2 ax) (nth y.2.2.2 ax)) (cfId x y) = cfAx ax x y) := rfl
  have HG := hidP hG
  have HX := hidP hxo
  have HY := hidP hyo
  clear hx hy hxs hys hL hax hG hxo hyo
  go_enter Try.func169, Try.ntmps169
  go_wp2_with fail
  rw [← hW]
  rw [HX.out] at a1
  rw [HY.out] at b1
  have hb1 : w.heap.size < W.heap.size := by omega
  have hb2 : w.heap.size + 1 < W.heap.size := by omega
  have hB' : B < W.heap.size := by omega
  have hbx' : bx < W.heap.size := by omega
  have hby' : bY < W.heap.size := by omega
  generalize w.heap.size = A at *
  have HC := hidP (pCompare (nth x.2.2.2 ax) (nth y.2.2.2 ax))
  have HI := hidP (pById x y)
  rw [HX.out, HY.out] at HI
  clear hW HX HY
  generalize nth x.2.2.2 ax = vx at *
  generalize nth y.2.2.2 ax = vy at *
  generalize cmpI vx vy = c1 at *
  generalize cfId x y = c2 at *
  have HK : Hid (∀ w', Below W.heap.size W w' → w'.cell? ⟨A, 0, none⟩ = some (.int .i64 x.1) ∧ w'.cell? ⟨A, 1, none⟩ = some (.slice (some ⟨bx, ox, none⟩) x.2.2.2.length x.2.2.1) ∧ w'.cell? ⟨A + 1, 0, none⟩ = some (.int .i64 y.1) ∧ w'.cell? ⟨A + 1, 1, none⟩ = some (.slice (some ⟨bY, oY, none⟩) y.2.2.2.length y.2.2.1) ∧ w'.cell? ⟨bx, ox + ax, none⟩ = some (.int .i64 vx) ∧ w'.cell? ⟨bY, oY + ax, none⟩ = some (.int .i64 vy) ∧ w'.cell? ⟨B, 0, none⟩ = some (.int .i64 ax)) := fun w' L => ⟨(L.cell (p := ⟨A, 0, none⟩) hb1).trans a0, (L.cell (p := ⟨A, 1, none⟩) hb1).trans a1, (L.cell (p := ⟨A + 1, 0, none⟩) hb2).trans b0, (L.cell (p := ⟨A + 1, 1, none⟩) hb2).trans b1, (L.cell (p := ⟨bx, ox + ax, none⟩) hbx').trans x2, (L.cell (p := ⟨bY, oY + ax, none⟩) hby').trans y2, (L.cell (p := ⟨B, 0, none⟩) hB').trans z0⟩
  go_region_held3 (fun w' => w'.cell? ⟨A, 0, none⟩ = some (.int .i64 x.1) ∧ w'.cell? ⟨A, 1, none⟩ = some (.slice (some ⟨bx, ox, none⟩) x.2.2.2.length x.2.2.1) ∧ w'.cell? ⟨A + 1, 0, none⟩ = some (.int .i64 y.1) ∧ w'.cell? ⟨A + 1, 1, none⟩ = some (.slice (some ⟨bY, oY, none⟩) y.2.2.2.length y.2.2.1) ∧ w'.cell? ⟨bx, ox + ax, none⟩ = some (.int .i64 vx) ∧ w'.cell? ⟨bY, oY + ax, none⟩ = some (.int .i64 vy) ∧ w'.cell? ⟨B, 0, none⟩ = some (.int .i64 ax))
    (first
      | (refine HK.out _ ?_; repeat' (first | (with_reducible exact Below.refl _ _) | (with_reducible refine Below.drew ?_) | (with_reducible refine below_alloc ?_ _)))
      | go_keep)
    (first
      | (go_at_call 159; refine (HC.out _).mono ?_; rintro e w1 ⟨rfl, rfl⟩)
      | (go_at_call 127; refine (HI.out _).mono ?_; rintro e w2 ⟨rfl, rfl⟩)
      | (go_at_call 161; refine (pOr _ c1 c2 _ (by go_simp) (by go_simp)).mono ?_; rintro e w3 ⟨rfl, rfl⟩))
  all_goals
    go_wp2_with fail
    go_ret
    refine ⟨ret_int HV.out, ?_⟩
    repeat' (first | (with_reducible exact HG.out) | (with_reducible refine Grows.drew ?_) | (with_reducible refine Grows.alloc ?_ _))

end Go.Proofs.Ythddhblmnfjciaa
