/-
  The program's order of marks by their steps from one: what byStepsFrom hands back, and what inOrder makes by it.
-/
import Derived.Test.YthddhblmnfjciaaKSortZz
import Derived.Test.YthddhblmnfjciaaVByZz
import Derived.Test.YthddhblmnfjciaaCopyZz
import Derived.Test.YthddhblmnfjciaaBCopyZz
import Derived.Test.YthddhblmnfjciaaKImpZz
namespace Go.Proofs.Ythddhblmnfjciaa
open Go Go.RowKit

theorem Grows.below {W w : World} (h : Grows W w) : Below W.heap.size W w := by
  obtain ⟨q, os, rfl⟩ := h
  exact ⟨rfl, rfl, rfl, by simp [Go.Sort.grow, World.drewN], fun i hi => by
    show ((W.drewN q).heap ++ os)[i]? = _
    rw [Array.getElem?_append_left (by show i < W.heap.size; exact hi)]
    rfl⟩
theorem Grows.drewN {W w : World} (h : Grows W w) (n : Nat) : Grows W (w.drewN n) := by
  obtain ⟨q, os, rfl⟩ := h
  exact ⟨q + n, os, by rw [← World.drewN_drewN]; rfl⟩
theorem Grows.trans {W w w' : World} (h : Grows W w) (k : Grows w w') : Grows W w' := by
  obtain ⟨q, os, rfl⟩ := h
  obtain ⟨r, ps, rfl⟩ := k
  exact ⟨q + r, os ++ ps, by rw [← World.drewN_drewN, ← Go.Sort.grow_grow]; rfl⟩

set_option maxHeartbeats 400000 in
theorem pEachGapG (g : Nat → Int) (b off cap b' off' cap' n : Nat) (xs ys : List Int) (w : World) (hs : Seg w b off xs) (hs' : Seg w b' off' ys) (hb : b < w.heap.size) (hb' : b' < w.heap.size) (hn : ys.length ≤ 4)
    (hcall : ∀ (W : World) (k : Nat), k < ys.length → Seg W b off xs → Calls Try.prog 184 #[.slice (some ⟨b, off, none⟩) n cap, .int .i64 k, .int .i64 (nth ys k)] W fun e w' => e = .returned (.int .i64 (g k)) ∧ ∃ m, w' = W.drewN m) :
    Calls Try.prog 143 #[.slice (some ⟨b', off', none⟩) ys.length cap', .func (Fn.func 184) #[.slice (some ⟨b, off, none⟩) n cap] #[]] w fun e w' =>
      e = .returned (.slice (some ⟨w.heap.size, 0, none⟩) ys.length ys.length) ∧ Own w' w.heap.size (tabL g ys.length) ∧ Grows w w' := by
  have hmk := run_make_row' (P := Try.prog) 130 2 (.int .i64 0) 8 Try.underlying130 Try.info2 rfl .i64 .i64 ys.length (by omega) (by omega)
  have HH : Hid (∀ (W : World) (k : Nat), k < ys.length → Seg W b off xs → Calls Try.prog 184 #[.slice (some ⟨b, off, none⟩) n cap, .int .i64 k, .int .i64 (nth ys k)] W fun e w' => e = .returned (.int .i64 (g k)) ∧ ∃ m, w' = W.drewN m) := hcall
  clear hcall
  go_enter Try.func143, Try.ntmps143
  go_wp2
  clear hmk
  go_loopw [13] (fun i wr => ∃ k : Nat, k ≤ ys.length ∧ i = .int .i64 k ∧ ∃ m, wr = (w.alloc (.cells (filled g ys.length k) 2)).drewN m) (fun i _ => ys.length - (intOf i).toNat)
  case atStart => exact ⟨0, Nat.zero_le _, rfl, 0, by rw [filled_zero]; rfl⟩
  case round =>
    obtain ⟨k, hk, rfl, m, rfl⟩ := hrel
    by_cases hlt : k < ys.length
    · have hc := hs' k hlt
      have hnext := filled_next g ys.length k hlt
      go_wp2_with fail
      refine (HH.out _ k hlt ((hs.alloc hb _).drewN m)).mono ?_
      rintro e w1 ⟨rfl, m1, rfl⟩
      go_wp2
      go_roundw
      case rel => exact ⟨k + 1, by omega, by go_num, m + m1, by rw [← filled_set g ys.length k hlt, set_new]⟩
      case measure => simp [intOf]; omega
    · go_wp2
      go_ret
      obtain rfl : k = ys.length := by omega
      refine ⟨rfl, ?_, ?_⟩
      · rw [filled_all]; exact (Own.new w _).drewN m
      · exact ((Grows.refl w).alloc _).drewN m

set_option maxHeartbeats 400000 in
theorem pStepsG (b off cap b' off' cap' : Nat) (xs ys : List Int) (w : World) (hs : Seg w b off xs) (hs' : Seg w b' off' ys) (hb : b < w.heap.size) (hb' : b' < w.heap.size) (ht : twoB xs ys = true) :
    Calls Try.prog 173 #[.slice (some ⟨b, off, none⟩) xs.length cap, .slice (some ⟨b', off', none⟩) ys.length cap'] w fun e w' => e = .returned (.int .i64 (stepsV xs ys)) ∧ Grows w w' := by
  obtain ⟨ha, hbo, hl⟩ := twoB_of ht
  have h4 := okB_len hbo
  have HR : Hid (sumTo (nth (tabL (gapF xs ys) ys.length)) (tabL (gapF xs ys) ys.length).length = stepsV xs ys) := by
    show _ = _
    rw [sum_tab, ← hl, stepsV, if_pos ht]
  have HL : Hid (xs.length = ys.length) := hl
  have HZ : Hid ((tabL (gapF xs ys) ys.length).length = ys.length) := tabL_length _ _
  clear hl
  go_enter Try.func173, Try.ntmps173
  go_wp2_with fail
  refine (pEachGapG (gapF xs ys) b off cap b' off' cap' xs.length xs ys _ hs hs' hb hb' h4.2 (fun W k hk hS => ?_)).mono ?_
  · have hx := okB_at ha k
    have hy := okB_at hbo k
    exact pGap b off cap k (nth ys k) xs W hS (by rw [HL.out]; exact hk) hx.1 hx.2 hy.1 hy.2
  rintro e w1 ⟨rfl, o1, L1⟩
  go_wp2_with fail
  have hend := pTotal w.heap.size 0 ys.length (tabL (gapF xs ys) ys.length) w1 o1.seg (by rw [HZ.out]; exact h4.2) (tab_bd _ _ (-4000000) 4000000 (by omega) (by omega) (fun i => by have := gapF_bd ha hbo i; omega))
  rw [HZ.out, ← HL.out] at hend
  rw [← HL.out]
  refine hend.mono ?_
  rintro e w2 ⟨rfl, rfl⟩
  go_wp2_with fail
  go_ret
  exact ⟨ret_int (by have := HR.out; rwa [HZ.out, ← HL.out] at this), L1⟩

set_option maxHeartbeats 400000 in
theorem pStepsTo (ao : Option Addr) (cap : Nat) (xs : List Int) (d : Sm) (w : World) (hv : View w ao xs) (hd : View w d.2.1 d.2.2.2) (ht : twoB xs d.2.2.2 = true) :
    Calls Try.prog 162 #[.slice ao xs.length cap, .agg #[.int .i64 d.1, .slice d.2.1 d.2.2.2.length d.2.2.1]] w fun e w' => e = .returned (.int .i64 (stepsV xs d.2.2.2)) ∧ Grows w w' := by
  obtain ⟨ha, hbo, hl⟩ := twoB_of ht
  have h4 := okB_len ha
  have h5 := okB_len hbo
  obtain ⟨b, off, rfl, hb, hs⟩ : ∃ b off, ao = some ⟨b, off, none⟩ ∧ b < w.heap.size ∧ Seg w b off xs := by
    rcases hv with h | h
    · rw [h] at h4; simp at h4
    · exact h
  obtain ⟨b', off', hdo, hb', hs'⟩ : ∃ b off, d.2.1 = some ⟨b, off, none⟩ ∧ b < w.heap.size ∧ Seg w b off d.2.2.2 := by
    rcases hd with h | h
    · rw [h] at h5; simp at h5
    · exact h
  have hA := alloc_belowK w (.cells #[.int .i64 d.1, .slice (some ⟨b', off', none⟩) d.2.2.2.length d.2.2.1] 93)
  have HS := hidP (pStepsG b off cap b' off' d.2.2.1 xs d.2.2.2 _ (hs.below hb hA) (hs'.below hb' hA) (by simp; omega) (by simp; omega) ht)
  rw [hdo]
  clear hv hd hs hs' hdo hA ht ha hbo hl
  go_enter Try.func162, Try.ntmps162
  go_wp2_with fail
  refine HS.out.mono ?_
  rintro e w1 ⟨rfl, G1⟩
  have HG := hidP (((Grows.refl w).alloc _).trans G1)
  clear G1
  go_wp2_with fail
  go_ret
  exact ⟨rfl, HG.out⟩

def cfSt (p : List Int) (a b : Sm) : Int := orI (cmpI (stepsV p a.2.2.2) (stepsV p b.2.2.2)) (cmpI a.1 b.1)
theorem cfSt_lt (p : List Int) (a b : Sm) : decide (cfSt p a b < 0) = sslt p a b := by
  have h := orI_lt (stepsV p a.2.2.2) (stepsV p b.2.2.2) a.1 b.1
  have k := stlt_iff p (smMark a) (smMark b)
  have e : (cfSt p a b < 0) ↔ sslt p a b = true := by unfold cfSt sslt; rw [h, k]; rfl
  rcases hs : sslt p a b with _ | _
  · rw [hs] at e; simpa using e
  · rw [hs] at e; simpa using e

set_option maxRecDepth 100000 in
set_option maxHeartbeats 2000000 in
theorem pBySteps (B : Nat) (m x y : Sm) (w : World) (hB : Two w B (.int .i64 m.1) (.slice m.2.1 m.2.2.2.length m.2.2.1) 93) (hm : View w m.2.1 m.2.2.2) (hx : View w x.2.1 x.2.2.2) (hy : View w y.2.1 y.2.2.2) (tx : twoB m.2.2.2 x.2.2.2 = true) (ty : twoB m.2.2.2 y.2.2.2 = true) :
    Calls Try.prog 160 #[.agg #[.int .i64 x.1, .slice x.2.1 x.2.2.2.length x.2.2.1], .agg #[.int .i64 y.1, .slice y.2.1 y.2.2.2.length y.2.2.1], .pointer (some ⟨B, 0, none⟩)] w fun e w' => e = .returned (.int .i64 (cfSt m.2.2.2 x y)) ∧ Grows w w' := by
  obtain ⟨W, hW⟩ : ∃ W, W = (w.alloc (.cells #[.int .i64 x.1, .slice x.2.1 x.2.2.2.length x.2.2.1] 93)).alloc (.cells #[.int .i64 y.1, .slice y.2.1 y.2.2.2.length y.2.2.1] 93) := ⟨_, rfl⟩
  have hG : Grows w W := by rw [hW]; exact ((Grows.refl w).alloc _).alloc _
  have hL := hG.below
  have hsz : W.heap.size = w.heap.size + 2 := by rw [hW]; simp
  have a0 : W.cell? ⟨w.heap.size, 0, none⟩ = some (.int .i64 x.1) := by rw [hW]; go_simp
  have a1 : W.cell? ⟨w.heap.size, 1, none⟩ = some (.slice x.2.1 x.2.2.2.length x.2.2.1) := by rw [hW]; go_simp
  have b0 : W.cell? ⟨w.heap.size + 1, 0, none⟩ = some (.int .i64 y.1) := by rw [hW]; go_simp
  have b1 : W.cell? ⟨w.heap.size + 1, 1, none⟩ = some (.slice y.2.1 y.2.2.2.length y.2.2.1) := by rw [hW]; go_simp
  have z1 := (hB.below hL).c1
  have hBl : B < W.heap.size := by have := hB.lt; omega
  have hA1 : w.heap.size < W.heap.size := by omega
  have hA2 : w.heap.size + 1 < W.heap.size := by omega
  have HK : Hid (∀ w', Below W.heap.size W w' → w'.cell? ⟨w.heap.size, 0, none⟩ = some (.int .i64 x.1) ∧ w'.cell? ⟨w.heap.size, 1, none⟩ = some (.slice x.2.1 x.2.2.2.length x.2.2.1) ∧ w'.cell? ⟨w.heap.size + 1, 0, none⟩ = some (.int .i64 y.1) ∧ w'.cell? ⟨w.heap.size + 1, 1, none⟩ = some (.slice y.2.1 y.2.2.2.length y.2.2.1) ∧ w'.cell? ⟨B, 1, none⟩ = some (.slice m.2.1 m.2.2.2.length m.2.2.1)) := fun w' L => ⟨(L.cell (p := ⟨w.heap.size, 0, none⟩) hA1).trans a0, (L.cell (p := ⟨w.heap.size, 1, none⟩) hA1).trans a1, (L.cell (p := ⟨w.heap.size + 1, 0, none⟩) hA2).trans b0, (L.cell (p := ⟨w.heap.size + 1, 1, none⟩) hA2).trans b1, (L.cell (p := ⟨B, 1, none⟩) hBl).trans z1⟩
  have HT1 : Hid (∀ w1, Grows W w1 → Calls Try.prog 162 #[.slice m.2.1 m.2.2.2.length m.2.2.1, .agg #[.int .i64 x.1, .slice x.2.1 x.2.2.2.length x.2.2.1]] w1 fun e w' => e = .returned (.int .i64 (stepsV m.2.2.2 x.2.2.2)) ∧ Grows W w') := fun w1 g1 =>
    (pStepsTo m.2.1 m.2.2.1 m.2.2.2 x w1 ((hm.next hL).next g1.below) ((hx.next hL).next g1.below) tx).mono fun e w' ⟨he, hg⟩ => ⟨he, g1.trans hg⟩
  have HT2 : Hid (∀ w1, Grows W w1 → Calls Try.prog 162 #[.slice m.2.1 m.2.2.2.length m.2.2.1, .agg #[.int .i64 y.1, .slice y.2.1 y.2.2.2.length y.2.2.1]] w1 fun e w' => e = .returned (.int .i64 (stepsV m.2.2.2 y.2.2.2)) ∧ Grows W w') := fun w1 g1 =>
    (pStepsTo m.2.1 m.2.2.1 m.2.2.2 y w1 ((hm.next hL).next g1.below) ((hy.next hL).next g1.below) ty).mono fun e w' ⟨he, hg⟩ => ⟨he, g1.trans hg⟩
  have HV : Hid (orI (cmpI (stepsV m.2.2.2 x.2.2.2) (stepsV m.2.2.2 y.2.2.2)) (cfId x y) = cfSt m.2.2.2 x y) := rfl
  have HG := hidP hG
  have HI := hidP (pById x y)
  clear hm hx hy hB hL hG tx ty z1
  go_enter Try.func160, Try.ntmps160
  go_wp2_with fail
  rw [← hW]
  clear hW
  generalize stepsV m.2.2.2 x.2.2.2 = vx at *
  generalize stepsV m.2.2.2 y.2.2.2 = vy at *
  have HC := hidP (pCompare vx vy)
  generalize cmpI vx vy = c1 at *
  generalize cfId x y = c2 at *
  have G0 := Grows.refl W
  generalize w.heap.size = A at *
  obtain ⟨a0, a1, b0, b1, z1⟩ := HK.out W (Below.refl _ _)
  go_region_held3 (fun w' => w'.cell? ⟨A, 0, none⟩ = some (.int .i64 x.1) ∧ w'.cell? ⟨A, 1, none⟩ = some (.slice x.2.1 x.2.2.2.length x.2.2.1) ∧ w'.cell? ⟨A + 1, 0, none⟩ = some (.int .i64 y.1) ∧ w'.cell? ⟨A + 1, 1, none⟩ = some (.slice y.2.1 y.2.2.2.length y.2.2.1) ∧ w'.cell? ⟨B, 1, none⟩ = some (.slice m.2.1 m.2.2.2.length m.2.2.1))
    (first
      | (refine HK.out _ ?_; repeat' (first | (with_reducible exact Below.refl _ _) | (with_reducible exact Grows.below G2) | (with_reducible exact Grows.below G1) | (with_reducible refine Below.drew ?_) | (with_reducible refine below_alloc ?_ _)))
      | go_keep)
    (first
      | (go_at_call_of 162 (Value.agg #[.int .i64 x.1, .slice x.2.1 x.2.2.2.length x.2.2.1]); refine (HT1.out _ G0.drew).mono ?_; rintro e w1 ⟨rfl, G1⟩)
      | (go_at_call_of 162 (Value.agg #[.int .i64 y.1, .slice y.2.1 y.2.2.2.length y.2.2.1]); refine (HT2.out _ G1).mono ?_; rintro e w2 ⟨rfl, G2⟩)
      | (go_at_call 159; refine (HC.out _).mono ?_; rintro e w3 ⟨rfl, rfl⟩)
      | (go_at_call 127; refine (HI.out _).mono ?_; rintro e w4 ⟨rfl, rfl⟩)
      | (go_at_call 161; refine (pOr _ c1 c2 _ (by go_simp) (by go_simp)).mono ?_; rintro e w5 ⟨rfl, rfl⟩))
  all_goals
    have HE := hidP (HG.out.trans G2)
    clear G1 G2 G0
    go_wp2_with fail
    go_ret
    refine ⟨ret_int HV.out, ?_⟩
    repeat' (first | (with_reducible exact HE.out) | (with_reducible refine Grows.drew ?_) | (with_reducible refine Grows.alloc ?_ _))

end Go.Proofs.Ythddhblmnfjciaa
