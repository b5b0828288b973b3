/-
  The given draws DrawAlike, DrawClose, DrawParts, DrawApart.
-/
import Derived.Test.YtiddimmifjklmaaWDraw
import Derived.OwnWalk
namespace Go.Proofs.Ytiddimmifjklmaa
open Go Go.RowKit

theorem grown_bare {w w' : World} {r : Option Nat} (h : w.drew.grownBy w' r) : w.grownBy w' r := ⟨h.os, h.tape, h.output, h.size, h.block⟩
/-- Some are taken, and the region goes on. -/
theorem calm_goes {P : Program} {Q : Exit → Act → World → Prop} {ops : Array Oper} {S : World → Prop} {listed : Array Bool} {a : Act} {w : World} {n : Nat} (fuel : Nat) (calm : List Nat) (hn : n = fuel + calm.length) (hs : Region.noSelect ops = true) (hc : calmOk .any ops listed calm = true) (hS : S w)
    (h : wpCalm P ops S (fun a' => wpAnyH P .any ops (NoPanic Q) S fuel (come listed calm) a' w) calm a) : wpAnyH P .any ops (NoPanic Q) S n listed a w := by
  subst hn
  exact calm_takes (P := P) (md := .any) (Q := NoPanic Q) (ops := ops) (S := S) (w := w) hs (fun c a d v w h => h) hS calm fuel listed a hc h (fun a' h' => h')

set_option maxHeartbeats 400000 in
theorem nMax (x y : Int) (w : World) :
    Calls Try.prog 34 #[.int .i64 x, .int .i64 y] w fun e w' => e = .returned (.int .i64 (max x y)) ∧ w' = w := by
  by_cases h : x ≤ y
  · have HV := hidP (show max x y = y by omega)
    go_enter Try.func34, Try.ntmps34
    go_wp2
    go_ret
    exact ⟨by rw [HV.out]; rfl, rfl⟩
  · have HV := hidP (show max x y = x by omega)
    go_enter Try.func34, Try.ntmps34
    go_wp2
    go_ret
    exact ⟨by rw [HV.out]; rfl, rfl⟩

set_option maxHeartbeats 400000 in
theorem nMin (x y : Int) (w : World) :
    Calls Try.prog 35 #[.int .i64 x, .int .i64 y] w fun e w' => e = .returned (.int .i64 (min x y)) ∧ w' = w := by
  by_cases h : x < y
  · have HV := hidP (show min x y = x by omega)
    go_enter Try.func35, Try.ntmps35
    go_wp2
    go_ret
    exact ⟨by rw [HV.out]; rfl, rfl⟩
  · have HV := hidP (show min x y = y by omega)
    go_enter Try.func35, Try.ntmps35
    go_wp2
    go_ret
    exact ⟨by rw [HV.out]; rfl, rfl⟩

theorem alike_at8 (y : Nat) (h : y < 8) : ∃ v : Int, (#[.int .i64 1, .int .i64 2, .int .i64 4, .int .i64 8, .int .i64 4, .int .i64 2, .int .i64 3, .int .i64 0] : Array Value)[y]? = some (.int .i64 v) := by
  match y, h with
  | 0, _ => exact ⟨_, rfl⟩
  | 1, _ => exact ⟨_, rfl⟩
  | 2, _ => exact ⟨_, rfl⟩
  | 3, _ => exact ⟨_, rfl⟩
  | 4, _ => exact ⟨_, rfl⟩
  | 5, _ => exact ⟨_, rfl⟩
  | 6, _ => exact ⟨_, rfl⟩
  | 7, _ => exact ⟨_, rfl⟩

theorem parts_at8 (y : Nat) (h : y < 8) : ∃ v : Int, (#[.int .i64 1, .int .i64 2, .int .i64 4, .int .i64 8, .int .i64 0, .int .i64 3, .int .i64 16, .int .i64 (-1)] : Array Value)[y]? = some (.int .i64 v) := by
  match y, h with
  | 0, _ => exact ⟨_, rfl⟩
  | 1, _ => exact ⟨_, rfl⟩
  | 2, _ => exact ⟨_, rfl⟩
  | 3, _ => exact ⟨_, rfl⟩
  | 4, _ => exact ⟨_, rfl⟩
  | 5, _ => exact ⟨_, rfl⟩
  | 6, _ => exact ⟨_, rfl⟩
  | 7, _ => exact ⟨_, rfl⟩

set_option maxRecDepth 100000 in
set_option maxHeartbeats 4000000 in
theorem cAlikeD (ao : Option Addr) (n cap : Nat) (w : World) (hv : CodeV w ao n) (hn : n ≤ 4096) :
    Calls Try.prog 10 #[.slice ao n cap] w fun e w' => ∃ a c xs x y, e = .returned (.tuple #[.slice a xs.length c, .int .i64 x, .int .i64 y]) ∧ View w' a xs ∧ xs.length ≤ 61 ∧ Below w.heap.size w w' := by
  have HN := hidP (cNew ao n cap w hv hn)
  go_enter Try.func10, Try.ntmps10
  go_wp2_with fail
  refine HN.out.mono ?_
  rintro e w1 ⟨rfl, c1, L1⟩
  have hv1 := hv.below (Nat.le_refl _) L1
  clear HN
  go_wp2_with fail
  refine (c9Word _ ao n cap w1 c1 hv1 hn).mono ?_
  rintro e w2 ⟨⟨x, rfl⟩, c2, g2⟩
  have hv2 := hv1.grown c1 g2
  have L2 : Below w.heap.size w w2 := L1.grown g2 L1.size (by intro k hk; cases hk; exact Nat.le_refl _)
  clear hv1 c1 L1 g2
  go_wp2_with first
    | (go_at_call 35; refine (nMin 65535 x _).mono ?_; rintro e w' ⟨rfl, rfl⟩)
    | (go_at_call 34; refine (nMax 0 (min 65535 x) _).mono ?_; rintro e w' ⟨rfl, rfl⟩)
  refine (c9Words _ ao n cap _ _ c2 hv2 hn).mono ?_
  rintro e w3 ⟨⟨g, c, xs, rfl, hxl, hrow⟩, c3, g3⟩
  have hv3 := hv2.grown c2 g3
  have L3 := L2.grown g3 L2.size (by intro k hk; cases hk; exact Nat.le_refl _)
  have hq2 := c2.lt
  have hrl := hrow.lt
  clear hv2 c2 L2 g3
  go_wp2_with fail
  refine wp_region_takes (S := fun _ => True) (fuel := 7) [0, 1, 3] (by kernel_rfl) (by kernel_rfl) (by kernel_rfl) (by kernel_rfl) trivial (fun _ => ?_)
  iterate 3
    refine ⟨_, rfl, ?_⟩
    apply Exists.intro
    refine ⟨Or.inl ⟨by rfl, fun w' hw' => ?_⟩, ?_⟩
    · first
      | (go_simp; done)
      | (go_simp; with_reducible rfl)
    simp only [Act.put, List.getElem_toArray, List.getElem_cons_succ, List.getElem_cons_zero, List.setIfInBounds_toArray, List.set_cons_zero, List.set_cons_succ]
  refine ready_two 2 4 (by kernel_rfl) rfl rfl (fun K hK => ?_) (fun K hK => ?_)
  · obtain ⟨W5, hW5⟩ : ∃ W, W = w3.alloc (.cells #[.int .i64 1, .int .i64 2, .int .i64 4, .int .i64 8, .int .i64 4, .int .i64 2, .int .i64 3, .int .i64 0] 2) := ⟨_, rfl⟩
    have hc5 : Cur W5 w.heap.size ao n cap := by rw [hW5]; exact c3.alloc _
    have ga5 : w3.grownBy W5 (some w.heap.size) := by rw [hW5]; exact World.grownBy_alloc w3 (.cells #[.int .i64 1, .int .i64 2, .int .i64 4, .int .i64 8, .int .i64 4, .int .i64 2, .int .i64 3, .int .i64 0] 2) (some w.heap.size)
    have hL5 := heap_alloc_new w3 (.cells #[.int .i64 1, .int .i64 2, .int .i64 4, .int .i64 8, .int .i64 4, .int .i64 2, .int .i64 3, .int .i64 0] 2)
    rw [← hW5] at hL5
    have hz6 : W5.heap.size = w3.heap.size + 1 := by rw [hW5]; simp
    have v5 := hv3.grown c3 ga5
    have HB2 := hidP (cBelow w.heap.size ao n cap 8 W5.drew hc5.drew (v5 : CodeV W5 ao n) hn (by omega) (by omega))
    have HZ := hidP hz6
    have HQ := hidP c3.lt
    have HL5 := hidP hL5
    have HGA := hidP ga5
    clear ga5 hz6 hL5 hc5 v5 c3 hv3
    go_simp
    (try rw [← hW5])
    clear hW5
    refine hK.out _ _ trivial (fun _ => ?_)
    clear hK K
    refine calm_one 4 (by kernel_rfl) rfl (fun K hK => ?_)
    go_simp
    refine HB2.out.mono ?_
    rintro e w6 ⟨⟨u, u0, u1, rfl⟩, c6, g6'⟩
    have g6 := grown_bare g6'
    obtain ⟨un, rfl⟩ := Int.eq_ofNat_of_zero_le u0
    obtain ⟨v, hv8⟩ := alike_at8 un (by omega)
    have g36 := grown_trans HGA.out g6
    have hlit : w6.cell? ⟨w3.heap.size, un, none⟩ = some (.int .i64 v) := by
      have hb : w6.heap[w3.heap.size]? = _ := (g6.block _ (by have := HZ.out; omega) (by have := HQ.out; simp; omega)).trans HL5.out
      simp only [World.cell?, hb]
      exact hv8
    have L6 : Below w.heap.size w w6 := L3.grown g36 L3.size (by intro k hk; cases hk; exact Nat.le_refl _)
    have HE := hidP (And.intro (hrow.kept g36 (by simp; omega)).view L6)
    have hu2 : (un : Int) < 8 := by omega
    clear L3 hrow g36 L6 c6 g6 g6' HB2 HZ HQ HL5 HGA
    refine hK.out _ _ trivial (fun _ => ?_)
    clear hK K
    refine calm_goes 2 [5, 7, 8] (by kernel_rfl) (by kernel_rfl) (by kernel_rfl) trivial ?_
    iterate 3
      refine ⟨_, rfl, ?_⟩
      apply Exists.intro
      refine ⟨Or.inl ⟨by rfl, fun w' hw' => ?_⟩, ?_⟩
      · first
        | (go_simp; done)
        | (go_simp; with_reducible rfl)
      simp only [Act.put, List.getElem_toArray, List.getElem_cons_succ, List.getElem_cons_zero, List.setIfInBounds_toArray, List.set_cons_zero, List.set_cons_succ]
    refine calm_one 6 (by kernel_rfl) rfl (fun K hK => ?_)
    go_simp
    refine hK.out _ _ trivial (fun _ => ?_)
    clear hK K
    refine calm_rest [9] rfl (by kernel_rfl) (by kernel_rfl) (by kernel_rfl) trivial ?_
    iterate 1
      refine ⟨_, rfl, ?_⟩
      apply Exists.intro
      refine ⟨Or.inl ⟨by rfl, fun w' hw' => ?_⟩, ?_⟩
      · first
        | (go_simp; done)
        | (go_simp; with_reducible rfl)
      simp only [Act.put, List.getElem_toArray, List.getElem_cons_succ, List.getElem_cons_zero, List.setIfInBounds_toArray, List.set_cons_zero, List.set_cons_succ]
    refine NoPanic.normal (NoPanic.normal ?_)
    go_wp2_with fail
    go_ret3
    exact ⟨_, c, xs, x, v, rfl, HE.out.1, hxl, HE.out.2⟩
  · have HB2 := hidP (cBelow w.heap.size ao n cap 8 w3.drew c3.drew (hv3 : CodeV w3 ao n) hn (by omega) (by omega))
    have HQ := hidP c3.lt
    clear c3 hv3
    go_simp
    refine HB2.out.mono ?_
    rintro e w6 ⟨⟨u, u0, u1, rfl⟩, c6, g6'⟩
    have g6 := grown_bare g6'
    obtain ⟨un, rfl⟩ := Int.eq_ofNat_of_zero_le u0
    obtain ⟨v, hv8⟩ := alike_at8 un (by omega)
    have L6 : Below w.heap.size w w6 := L3.grown g6 L3.size (by intro k hk; cases hk; exact Nat.le_refl _)
    obtain ⟨W7, hW7⟩ : ∃ W, W = w6.alloc (.cells #[.int .i64 1, .int .i64 2, .int .i64 4, .int .i64 8, .int .i64 4, .int .i64 2, .int .i64 3, .int .i64 0] 2) := ⟨_, rfl⟩
    have hL7 := heap_alloc_new w6 (.cells #[.int .i64 1, .int .i64 2, .int .i64 4, .int .i64 8, .int .i64 4, .int .i64 2, .int .i64 3, .int .i64 0] 2)
    have L7 : Below w.heap.size w W7 := by rw [hW7]; exact L6.alloc L6.size _
    have A7 : Below w6.heap.size w6 W7 := by rw [hW7]; exact (Below.refl _ _).alloc (Nat.le_refl _) _
    rw [← hW7] at hL7
    have hlit : W7.cell? ⟨w6.heap.size, un, none⟩ = some (.int .i64 v) := by
      simp only [World.cell?, hL7]
      exact hv8
    have HE := hidP (And.intro ((hrow.kept g6 (by simp; have := HQ.out; omega)).below A7).view L7)
    have hu2 : (un : Int) < 8 := by omega
    clear L3 hrow L6 L7 A7 hL7 c6 g6 g6' HB2 HQ
    refine hK.out _ _ trivial (fun _ => ?_)
    clear hK K
    refine calm_goes 4 [7, 8] (by kernel_rfl) (by kernel_rfl) (by kernel_rfl) trivial ?_
    iterate 2
      refine ⟨_, rfl, ?_⟩
      apply Exists.intro
      refine ⟨Or.inl ⟨by rfl, fun w' hw' => ?_⟩, ?_⟩
      · first
        | (go_simp; done)
        | (go_simp; with_reducible rfl)
      simp only [Act.put, List.getElem_toArray, List.getElem_cons_succ, List.getElem_cons_zero, List.setIfInBounds_toArray, List.set_cons_zero, List.set_cons_succ]
    refine calm_one 2 (by kernel_rfl) rfl (fun K hK => ?_)
    go_simp
    (try rw [← hW7])
    clear hW7
    refine hK.out _ _ trivial (fun _ => ?_)
    clear hK K
    refine calm_goes 2 [5] (by kernel_rfl) (by kernel_rfl) (by kernel_rfl) trivial ?_
    iterate 1
      refine ⟨_, rfl, ?_⟩
      apply Exists.intro
      refine ⟨Or.inl ⟨by rfl, fun w' hw' => ?_⟩, ?_⟩
      · first
        | (go_simp; done)
        | (go_simp; with_reducible rfl)
      simp only [Act.put, List.getElem_toArray, List.getElem_cons_succ, List.getElem_cons_zero, List.setIfInBounds_toArray, List.set_cons_zero, List.set_cons_succ]
    refine calm_one 6 (by kernel_rfl) rfl (fun K hK => ?_)
    go_simp
    refine hK.out _ _ trivial (fun _ => ?_)
    clear hK K
    refine calm_rest [9] rfl (by kernel_rfl) (by kernel_rfl) (by kernel_rfl) trivial ?_
    iterate 1
      refine ⟨_, rfl, ?_⟩
      apply Exists.intro
      refine ⟨Or.inl ⟨by rfl, fun w' hw' => ?_⟩, ?_⟩
      · first
        | (go_simp; done)
        | (go_simp; with_reducible rfl)
      simp only [Act.put, List.getElem_toArray, List.getElem_cons_succ, List.getElem_cons_zero, List.setIfInBounds_toArray, List.set_cons_zero, List.set_cons_succ]
    refine NoPanic.normal (NoPanic.normal ?_)
    go_wp2_with fail
    go_ret3
    exact ⟨_, c, xs, x, v, rfl, HE.out.1, hxl, HE.out.2⟩

set_option maxRecDepth 100000 in
set_option maxHeartbeats 4000000 in
theorem cCloseD (ao : Option Addr) (n cap : Nat) (w : World) (hv : CodeV w ao n) (hn : n ≤ 4096) :
    Calls Try.prog 12 #[.slice ao n cap] w fun e w' => ∃ a c xs x y, e = .returned (.tuple #[.slice a xs.length c, .int .i64 x, .int .i64 y]) ∧ View w' a xs ∧ xs.length ≤ 61 ∧ Below w.heap.size w w' := by
  have HN := hidP (cNew ao n cap w hv hn)
  go_enter Try.func12, Try.ntmps12
  go_wp2_with fail
  refine HN.out.mono ?_
  rintro e w1 ⟨rfl, c1, L1⟩
  have hv1 := hv.below (Nat.le_refl _) L1
  clear HN
  go_wp2_with fail
  refine (c9Word _ ao n cap w1 c1 hv1 hn).mono ?_
  rintro e w2 ⟨⟨x, rfl⟩, c2, g2⟩
  have hv2 := hv1.grown c1 g2
  have L2 : Below w.heap.size w w2 := L1.grown g2 L1.size (by intro k hk; cases hk; exact Nat.le_refl _)
  clear hv1 c1 L1 g2
  go_wp2_with first
    | (go_at_call 35; refine (nMin 65535 x _).mono ?_; rintro e w' ⟨rfl, rfl⟩)
    | (go_at_call 34; refine (nMax 0 (min 65535 x) _).mono ?_; rintro e w' ⟨rfl, rfl⟩)
  refine (c9Words _ ao n cap _ _ c2 hv2 hn).mono ?_
  rintro e w3 ⟨⟨g, c, xs, rfl, hxl, hrow⟩, c3, g3⟩
  have hv3 := hv2.grown c2 g3
  have L3 := L2.grown g3 L2.size (by intro k hk; cases hk; exact Nat.le_refl _)
  have hq2 := c2.lt
  have hrl := hrow.lt
  clear hv2 c2 L2 g3
  go_wp2_with fail
  refine (cFrom w.heap.size ao n cap (-1) 9 _ c3 hv3 hn (by omega) (by omega) (by omega) (by omega)).mono ?_
  rintro e w4 ⟨⟨y, y0, y1, rfl⟩, c4, g4⟩
  have L4 : Below w.heap.size w w4 := L3.grown g4 L3.size (by intro k hk; cases hk; exact Nat.le_refl _)
  have hvw := (hrow.kept g4 (by simp; omega)).view
  clear hrow L3 c3 hv3 c4 g4
  go_wp2_with fail
  go_ret3
  exact ⟨_, c, xs, x, y, rfl, hvw, hxl, L4⟩

set_option maxRecDepth 100000 in
set_option maxHeartbeats 4000000 in
theorem cPartsD (ao : Option Addr) (n cap : Nat) (w : World) (hv : CodeV w ao n) (hn : n ≤ 4096) :
    Calls Try.prog 14 #[.slice ao n cap] w fun e w' => (∃ x y : Int, e = .returned (.tuple #[.int .i64 x, .int .i64 y])) ∧ Below w.heap.size w w' := by
  have HN := hidP (cNew ao n cap w hv hn)
  go_enter Try.func14, Try.ntmps14
  go_wp2_with fail
  refine HN.out.mono ?_
  rintro e w1 ⟨rfl, c1, L1⟩
  have hv1 := hv.below (Nat.le_refl _) L1
  clear HN
  go_wp2_with fail
  refine (c9Word _ ao n cap w1 c1 hv1 hn).mono ?_
  rintro e w2 ⟨⟨x, rfl⟩, c2, g2⟩
  have hv2 := hv1.grown c1 g2
  have L2 : Below w.heap.size w w2 := L1.grown g2 L1.size (by intro k hk; cases hk; exact Nat.le_refl _)
  clear hv1 c1 L1 g2
  obtain ⟨w3, hw3⟩ : ∃ w3, w2 = w3 := ⟨_, rfl⟩
  rw [hw3] at c2 hv2 L2 ⊢
  have c3 := c2
  have hv3 := hv2
  have L3 := L2
  clear hw3 c2 hv2 L2
  go_wp2_with fail
  refine wp_region_takes (S := fun _ => True) (fuel := 6) [0, 2] (by kernel_rfl) (by kernel_rfl) (by kernel_rfl) (by kernel_rfl) trivial (fun _ => ?_)
  iterate 2
    refine ⟨_, rfl, ?_⟩
    apply Exists.intro
    refine ⟨Or.inl ⟨by rfl, fun w' hw' => ?_⟩, ?_⟩
    · first
      | (go_simp; done)
      | (go_simp; with_reducible rfl)
    simp only [Act.put, List.getElem_toArray, List.getElem_cons_succ, List.getElem_cons_zero, List.setIfInBounds_toArray, List.set_cons_zero, List.set_cons_succ]
  refine ready_two 1 3 (by kernel_rfl) rfl rfl (fun K hK => ?_) (fun K hK => ?_)
  · obtain ⟨W5, hW5⟩ : ∃ W, W = w3.alloc (.cells #[.int .i64 1, .int .i64 2, .int .i64 4, .int .i64 8, .int .i64 0, .int .i64 3, .int .i64 16, .int .i64 (-1)] 2) := ⟨_, rfl⟩
    have hc5 : Cur W5 w.heap.size ao n cap := by rw [hW5]; exact c3.alloc _
    have ga5 : w3.grownBy W5 (some w.heap.size) := by rw [hW5]; exact World.grownBy_alloc w3 (.cells #[.int .i64 1, .int .i64 2, .int .i64 4, .int .i64 8, .int .i64 0, .int .i64 3, .int .i64 16, .int .i64 (-1)] 2) (some w.heap.size)
    have hL5 := heap_alloc_new w3 (.cells #[.int .i64 1, .int .i64 2, .int .i64 4, .int .i64 8, .int .i64 0, .int .i64 3, .int .i64 16, .int .i64 (-1)] 2)
    rw [← hW5] at hL5
    have hz6 : W5.heap.size = w3.heap.size + 1 := by rw [hW5]; simp
    have v5 := hv3.grown c3 ga5
    have HB2 := hidP (cBelow w.heap.size ao n cap 8 W5.drew hc5.drew (v5 : CodeV W5 ao n) hn (by omega) (by omega))
    have HZ := hidP hz6
    have HQ := hidP c3.lt
    have HL5 := hidP hL5
    have HGA := hidP ga5
    clear ga5 hz6 hL5 hc5 v5 c3 hv3
    go_simp
    (try rw [← hW5])
    clear hW5
    refine hK.out _ _ trivial (fun _ => ?_)
    clear hK K
    refine calm_one 3 (by kernel_rfl) rfl (fun K hK => ?_)
    go_simp
    refine HB2.out.mono ?_
    rintro e w6 ⟨⟨u, u0, u1, rfl⟩, c6, g6'⟩
    have g6 := grown_bare g6'
    obtain ⟨un, rfl⟩ := Int.eq_ofNat_of_zero_le u0
    obtain ⟨v, hv8⟩ := parts_at8 un (by omega)
    have g36 := grown_trans HGA.out g6
    have hlit : w6.cell? ⟨w3.heap.size, un, none⟩ = some (.int .i64 v) := by
      have hb : w6.heap[w3.heap.size]? = _ := (g6.block _ (by have := HZ.out; omega) (by have := HQ.out; simp; omega)).trans HL5.out
      simp only [World.cell?, hb]
      exact hv8
    have L6 : Below w.heap.size w w6 := L3.grown g36 L3.size (by intro k hk; cases hk; exact Nat.le_refl _)
    have HE := hidP L6
    have hu2 : (un : Int) < 8 := by omega
    clear L3 g36 L6 c6 g6 g6' HB2 HZ HQ HL5 HGA
    refine hK.out _ _ trivial (fun _ => ?_)
    clear hK K
    refine calm_goes 2 [4, 6] (by kernel_rfl) (by kernel_rfl) (by kernel_rfl) trivial ?_
    iterate 2
      refine ⟨_, rfl, ?_⟩
      apply Exists.intro
      refine ⟨Or.inl ⟨by rfl, fun w' hw' => ?_⟩, ?_⟩
      · first
        | (go_simp; done)
        | (go_simp; with_reducible rfl)
      simp only [Act.put, List.getElem_toArray, List.getElem_cons_succ, List.getElem_cons_zero, List.setIfInBounds_toArray, List.set_cons_zero, List.set_cons_succ]
    refine calm_one 5 (by kernel_rfl) rfl (fun K hK => ?_)
    go_simp
    refine hK.out _ _ trivial (fun _ => ?_)
    clear hK K
    refine calm_rest [7] rfl (by kernel_rfl) (by kernel_rfl) (by kernel_rfl) trivial ?_
    iterate 1
      refine ⟨_, rfl, ?_⟩
      apply Exists.intro
      refine ⟨Or.inl ⟨by rfl, fun w' hw' => ?_⟩, ?_⟩
      · first
        | (go_simp; done)
        | (go_simp; with_reducible rfl)
      simp only [Act.put, List.getElem_toArray, List.getElem_cons_succ, List.getElem_cons_zero, List.setIfInBounds_toArray, List.set_cons_zero, List.set_cons_succ]
    refine NoPanic.normal (NoPanic.normal ?_)
    go_wp2_with fail
    go_ret2
    exact ⟨⟨x, v, rfl⟩, HE.out⟩
  · have HB2 := hidP (cBelow w.heap.size ao n cap 8 w3.drew c3.drew (hv3 : CodeV w3 ao n) hn (by omega) (by omega))
    have HQ := hidP c3.lt
    clear c3 hv3
    go_simp
    refine HB2.out.mono ?_
    rintro e w6 ⟨⟨u, u0, u1, rfl⟩, c6, g6'⟩
    have g6 := grown_bare g6'
    obtain ⟨un, rfl⟩ := Int.eq_ofNat_of_zero_le u0
    obtain ⟨v, hv8⟩ := parts_at8 un (by omega)
    have L6 : Below w.heap.size w w6 := L3.grown g6 L3.size (by intro k hk; cases hk; exact Nat.le_refl _)
    obtain ⟨W7, hW7⟩ : ∃ W, W = w6.alloc (.cells #[.int .i64 1, .int .i64 2, .int .i64 4, .int .i64 8, .int .i64 0, .int .i64 3, .int .i64 16, .int .i64 (-1)] 2) := ⟨_, rfl⟩
    have hL7 := heap_alloc_new w6 (.cells #[.int .i64 1, .int .i64 2, .int .i64 4, .int .i64 8, .int .i64 0, .int .i64 3, .int .i64 16, .int .i64 (-1)] 2)
    have L7 : Below w.heap.size w W7 := by rw [hW7]; exact L6.alloc L6.size _
    have A7 : Below w6.heap.size w6 W7 := by rw [hW7]; exact (Below.refl _ _).alloc (Nat.le_refl _) _
    rw [← hW7] at hL7
    have hlit : W7.cell? ⟨w6.heap.size, un, none⟩ = some (.int .i64 v) := by
      simp only [World.cell?, hL7]
      exact hv8
    have HE := hidP L7
    have hu2 : (un : Int) < 8 := by omega
    clear L3 L6 L7 A7 hL7 c6 g6 g6' HB2 HQ
    refine hK.out _ _ trivial (fun _ => ?_)
    clear hK K
    refine calm_goes 4 [6] (by kernel_rfl) (by kernel_rfl) (by kernel_rfl) trivial ?_
    iterate 1
      refine ⟨_, rfl, ?_⟩
      apply Exists.intro
      refine ⟨Or.inl ⟨by rfl, fun w' hw' => ?_⟩, ?_⟩
      · first
        | (go_simp; done)
        | (go_simp; with_reducible rfl)
      simp only [Act.put, List.getElem_toArray, List.getElem_cons_succ, List.getElem_cons_zero, List.setIfInBounds_toArray, List.set_cons_zero, List.set_cons_succ]
    refine calm_one 1 (by kernel_rfl) rfl (fun K hK => ?_)
    go_simp
    (try rw [← hW7])
    clear hW7
    refine hK.out _ _ trivial (fun _ => ?_)
    clear hK K
    refine calm_goes 2 [4] (by kernel_rfl) (by kernel_rfl) (by kernel_rfl) trivial ?_
    iterate 1
      refine ⟨_, rfl, ?_⟩
      apply Exists.intro
      refine ⟨Or.inl ⟨by rfl, fun w' hw' => ?_⟩, ?_⟩
      · first
        | (go_simp; done)
        | (go_simp; with_reducible rfl)
      simp only [Act.put, List.getElem_toArray, List.getElem_cons_succ, List.getElem_cons_zero, List.setIfInBounds_toArray, List.set_cons_zero, List.set_cons_succ]
    refine calm_one 5 (by kernel_rfl) rfl (fun K hK => ?_)
    go_simp
    refine hK.out _ _ trivial (fun _ => ?_)
    clear hK K
    refine calm_rest [7] rfl (by kernel_rfl) (by kernel_rfl) (by kernel_rfl) trivial ?_
    iterate 1
      refine ⟨_, rfl, ?_⟩
      apply Exists.intro
      refine ⟨Or.inl ⟨by rfl, fun w' hw' => ?_⟩, ?_⟩
      · first
        | (go_simp; done)
        | (go_simp; with_reducible rfl)
      simp only [Act.put, List.getElem_toArray, List.getElem_cons_succ, List.getElem_cons_zero, List.setIfInBounds_toArray, List.set_cons_zero, List.set_cons_succ]
    refine NoPanic.normal (NoPanic.normal ?_)
    go_wp2_with fail
    go_ret2
    exact ⟨⟨x, v, rfl⟩, HE.out⟩

set_option maxRecDepth 100000 in
set_option maxHeartbeats 4000000 in
theorem cApartD (ao : Option Addr) (n cap : Nat) (w : World) (hv : CodeV w ao n) (hn : n ≤ 4096) :
    Calls Try.prog 16 #[.slice ao n cap] w fun e w' => (∃ x y : Int, e = .returned (.tuple #[.int .i64 x, .int .i64 y])) ∧ Below w.heap.size w w' := by
  have HN := hidP (cNew ao n cap w hv hn)
  go_enter Try.func16, Try.ntmps16
  go_wp2_with fail
  refine HN.out.mono ?_
  rintro e w1 ⟨rfl, c1, L1⟩
  have hv1 := hv.below (Nat.le_refl _) L1
  clear HN
  go_wp2_with fail
  refine (c9Word _ ao n cap w1 c1 hv1 hn).mono ?_
  rintro e w2 ⟨⟨x, rfl⟩, c2, g2⟩
  have hv2 := hv1.grown c1 g2
  have L2 : Below w.heap.size w w2 := L1.grown g2 L1.size (by intro k hk; cases hk; exact Nat.le_refl _)
  clear hv1 c1 L1 g2
  go_wp2_with fail
  refine (c9Word _ ao n cap w2 c2 hv2 hn).mono ?_
  rintro e w3 ⟨⟨y, rfl⟩, c3, g3⟩
  have L3 := L2.grown g3 L2.size (by intro k hk; cases hk; exact Nat.le_refl _)
  clear hv2 c2 L2 g3
  go_wp2_with fail
  go_ret2
  exact ⟨⟨x, y, rfl⟩, L3⟩
end Go.Proofs.Ytiddimmifjklmaa
