/-
  The program's order of marks by their woven numbers.
-/
import Derived.Test.YtibkfdefoaimiaaOWeaGZz
import Derived.Test.YtibkfdefoaimiaaKSortZz
namespace Go.Proofs.Ytibkfdefoaimiaa
open Go Go.RowKit

theorem Grows.below {W w : World} (h : Grows W w) : Below W.heap.size W w := by
  obtain ⟨q, os, rfl⟩ := h
  exact ⟨rfl, rfl, rfl, by simp [Go.Sort.grow, World.drewN], fun i hi => by
    show ((W.drewN q).heap ++ os)[i]? = _
    rw [Array.getElem?_append_left (by show i < W.heap.size; exact hi)]
    rfl⟩
theorem Grows.drewN {W w : World} (h : Grows W w) (n : Nat) : Grows W (w.drewN n) := by
  obtain ⟨q, os, rfl⟩ := h
  exact ⟨q + n, os, by rw [← World.drewN_drewN]; rfl⟩
theorem Grows.trans {W w w' : World} (h : Grows W w) (k : Grows w w') : Grows W w' := by
  obtain ⟨q, os, rfl⟩ := h
  obtain ⟨r, ps, rfl⟩ := k
  exact ⟨q + r, os ++ ps, by rw [← World.drewN_drewN, ← Go.Sort.grow_grow]; rfl⟩


def cfW (x y : Sm) : Int := orI (cmpI (weaveV x.2.2.2) (weaveV y.2.2.2)) (cfId x y)

theorem wWeave (ao : Option Addr) (cap : Nat) (p : List Int) (w : World) (hv : View w ao p) (hn : p.length ≤ 1048576) :
    Calls Try.prog 12 #[.slice ao p.length cap] w fun e w' => e = .returned (.int .i64 (weaveV p)) ∧ Grows w w' :=
  (gWeave ao cap p w hv hn).mono fun _ _ ⟨he, hb, hd⟩ => ⟨he, grows_of hb hd⟩

set_option maxRecDepth 100000 in
set_option maxHeartbeats 2000000 in
theorem pByWeave (x y : Sm) (w : World) (hx : View w x.2.1 x.2.2.2) (hy : View w y.2.1 y.2.2.2) (nx : x.2.2.2.length ≤ 1048576) (ny : y.2.2.2.length ≤ 1048576) :
    Calls Try.prog 52 #[.agg #[.int .i64 x.1, .slice x.2.1 x.2.2.2.length x.2.2.1], .agg #[.int .i64 y.1, .slice y.2.1 y.2.2.2.length y.2.2.1]] w fun e w' => e = .returned (.int .i64 (cfW x y)) ∧ Grows w w' := by
  obtain ⟨W, hW⟩ : ∃ W, W = (w.alloc (.cells #[.int .i64 x.1, .slice x.2.1 x.2.2.2.length x.2.2.1] 38)).alloc (.cells #[.int .i64 y.1, .slice y.2.1 y.2.2.2.length y.2.2.1] 38) := ⟨_, rfl⟩
  have hG : Grows w W := by rw [hW]; exact ((Grows.refl w).alloc _).alloc _
  have hL := hG.below
  have hsz : W.heap.size = w.heap.size + 2 := by rw [hW]; simp
  have a0 : W.cell? ⟨w.heap.size, 0, none⟩ = some (.int .i64 x.1) := by rw [hW]; go_simp
  have a1 : W.cell? ⟨w.heap.size, 1, none⟩ = some (.slice x.2.1 x.2.2.2.length x.2.2.1) := by rw [hW]; go_simp
  have b0 : W.cell? ⟨w.heap.size + 1, 0, none⟩ = some (.int .i64 y.1) := by rw [hW]; go_simp
  have b1 : W.cell? ⟨w.heap.size + 1, 1, none⟩ = some (.slice y.2.1 y.2.2.2.length y.2.2.1) := by rw [hW]; go_simp
  have hA1 : w.heap.size < W.heap.size := by omega
  have hA2 : w.heap.size + 1 < W.heap.size := by omega
  have HK : Hid (∀ w', Below W.heap.size W w' → w'.cell? ⟨w.heap.size, 0, none⟩ = some (.int .i64 x.1) ∧ w'.cell? ⟨w.heap.size, 1, none⟩ = some (.slice x.2.1 x.2.2.2.length x.2.2.1) ∧ w'.cell? ⟨w.heap.size + 1, 0, none⟩ = some (.int .i64 y.1) ∧ w'.cell? ⟨w.heap.size + 1, 1, none⟩ = some (.slice y.2.1 y.2.2.2.length y.2.2.1)) := fun w' L => ⟨(L.cell (p := ⟨w.heap.size, 0, none⟩) hA1).trans a0, (L.cell (p := ⟨w.heap.size, 1, none⟩) hA1).trans a1, (L.cell (p := ⟨w.heap.size + 1, 0, none⟩) hA2).trans b0, (L.cell (p := ⟨w.heap.size + 1, 1, none⟩) hA2).trans b1⟩
  have HT1 : Hid (∀ w1, Grows W w1 → Calls Try.prog 12 #[.slice x.2.1 x.2.2.2.length x.2.2.1] w1 fun e w' => e = .returned (.int .i64 (weaveV x.2.2.2)) ∧ Grows W w') := fun w1 g1 =>
    (wWeave x.2.1 x.2.2.1 x.2.2.2 w1 ((hx.next hL).next g1.below) nx).mono fun e w' ⟨he, hg⟩ => ⟨he, g1.trans hg⟩
  have HT2 : Hid (∀ w1, Grows W w1 → Calls Try.prog 12 #[.slice y.2.1 y.2.2.2.length y.2.2.1] w1 fun e w' => e = .returned (.int .i64 (weaveV y.2.2.2)) ∧ Grows W w') := fun w1 g1 =>
    (wWeave y.2.1 y.2.2.1 y.2.2.2 w1 ((hy.next hL).next g1.below) ny).mono fun e w' ⟨he, hg⟩ => ⟨he, g1.trans hg⟩
  have HV : Hid (orI (cmpI (weaveV x.2.2.2) (weaveV y.2.2.2)) (cfId x y) = cfW x y) := rfl
  have HG := hidP hG
  have HI := hidP (pById x y)
  clear hx hy hL hG nx ny
  go_enter Try.func52, Try.ntmps52
  go_wp2_with fail
  rw [← hW]
  clear hW
  generalize weaveV x.2.2.2 = vx at *
  generalize weaveV y.2.2.2 = vy at *
  have HC := hidP (pCompare vx vy)
  generalize cmpI vx vy = c1 at *
  generalize cfId x y = c2 at *
  have G0 := Grows.refl W
  generalize w.heap.size = A at *
  obtain ⟨a0, a1, b0, b1⟩ := HK.out W (Below.refl _ _)
  go_region_held3 (fun w' => w'.cell? ⟨A, 0, none⟩ = some (.int .i64 x.1) ∧ w'.cell? ⟨A, 1, none⟩ = some (.slice x.2.1 x.2.2.2.length x.2.2.1) ∧ w'.cell? ⟨A + 1, 0, none⟩ = some (.int .i64 y.1) ∧ w'.cell? ⟨A + 1, 1, none⟩ = some (.slice y.2.1 y.2.2.2.length y.2.2.1))
    (first
      | (refine HK.out _ ?_; repeat' (first | (with_reducible exact Below.refl _ _) | (with_reducible exact Grows.below G2) | (with_reducible exact Grows.below G1) | (with_reducible refine Below.drew ?_) | (with_reducible refine below_alloc ?_ _)))
      | go_keep)
    (first
      | (go_at_call_of 12 (Value.slice x.2.1 x.2.2.2.length x.2.2.1); refine (HT1.out _ G0.drew).mono ?_; rintro e w1 ⟨rfl, G1⟩)
      | (go_at_call_of 12 (Value.slice y.2.1 y.2.2.2.length y.2.2.1); refine (HT2.out _ G1).mono ?_; rintro e w2 ⟨rfl, G2⟩)
      | (go_at_call 70; refine (HC.out _).mono ?_; rintro e w3 ⟨rfl, rfl⟩)
      | (go_at_call 71; refine (HI.out _).mono ?_; rintro e w4 ⟨rfl, rfl⟩)
      | (go_at_call 69; refine (pOr _ c1 c2 _ (by go_simp) (by go_simp)).mono ?_; rintro e w5 ⟨rfl, rfl⟩))
  all_goals
    have HE := hidP (HG.out.trans G2)
    clear G1 G2 G0
    go_wp2_with fail
    go_ret
    refine ⟨ret_int HV.out, ?_⟩
    repeat' (first | (with_reducible exact HE.out) | (with_reducible refine Grows.drew ?_) | (with_reducible refine Grows.alloc ?_ _))
end Go.Proofs.Ytibkfdefoaimiaa
