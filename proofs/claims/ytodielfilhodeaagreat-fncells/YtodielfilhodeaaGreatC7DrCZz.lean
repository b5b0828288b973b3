/-
  The draws of chapter 7: DrawCell.
  The draws of chapter 7: DrawInCell.
  The draws of chapter 7: DrawNear.
  What FnCells calls, each with its answer in view.
-/
import Derived.Test.YtodielfilhodeaaGreatC7DrawZz
import Derived.Test.YtodielfilhodeaaGreatLastZz
import Derived.Test.YtodielfilhodeaaGreatGMapZz
import Derived.Test.YtodielfilhodeaaGreatGOfZz
import Derived.Test.YtodielfilhodeaaGreatC7LikeZz
import Derived.Test.YtodielfilhodeaaGreatGKeepZz
import Derived.Test.YtodielfilhodeaaGreatNNearZz
import Derived.Test.YtodielfilhodeaaGreatWithZz
namespace Go.Proofs.YtodielfilhodeaaGreat
open Go Go.RowKit

theorem eight_at (y : Nat) (h : y < 8) : ∃ v : Int, (#[Value.int .i64 0, .int .i64 1, .int .i64 2, .int .i64 3, .int .i64 5, .int .i64 1000, .int .i64 1001, .int .i64 (-1)] : Array Value)[y]? = some (.int .i64 v) := by
  match y, h with
  | 0, _ => exact ⟨_, rfl⟩
  | 1, _ => exact ⟨_, rfl⟩
  | 2, _ => exact ⟨_, rfl⟩
  | 3, _ => exact ⟨_, rfl⟩
  | 4, _ => exact ⟨_, rfl⟩
  | 5, _ => exact ⟨_, rfl⟩
  | 6, _ => exact ⟨_, rfl⟩
  | 7, _ => exact ⟨_, rfl⟩

/-- Two may come up: the one or the other. -/
theorem calm_two {P : Program} {md : Region.Mode} {Q : Exit → Act → World → Prop} {ops : Array Oper} {S : World → Prop} {fuel : Nat} {listed : Array Bool} {a : Act} {w : World} {o o' : Oper} (i j : Nat) (hr : Region.ready md ops listed = [i, j]) (ho : ops[i]? = some o) (ho' : ops[j]? = some o')
    (h : ∀ K : Act → World → Prop, Shut (∀ a w, S w → (S w → wpAnyH P md ops Q S fuel (listed.setIfInBounds i true) a w) → K a w) → if Region.wanted o (yielded ops a.tmps) = true then Oper.wp P o a w K Q else K (a.put o.dst undef) w)
    (h' : ∀ K : Act → World → Prop, Shut (∀ a w, S w → (S w → wpAnyH P md ops Q S fuel (listed.setIfInBounds j true) a w) → K a w) → if Region.wanted o' (yielded ops a.tmps) = true then Oper.wp P o' a w K Q else K (a.put o'.dst undef) w) : wpAnyH P md ops Q S (fuel + 1) listed a w :=
  wpAnyH_ready hr (by simp) (AllReadyH.cons ho h (AllReadyH.cons ho' h' AllReadyH.nil))

theorem grown_undrew {w w' : World} {r : Option Nat} (h : w.drew.grownBy w' r) : w.grownBy w' r := ⟨h.os, h.tape, h.output, h.size, h.block⟩
/-- Behind a call: some are taken, and the region goes on. -/
theorem calm_more {P : Program} {Q : Exit → Act → World → Prop} {ops : Array Oper} {S : World → Prop} {listed : Array Bool} {a : Act} {w : World} {n : Nat} (fuel : Nat) (calm : List Nat) (hn : n = fuel + calm.length) (hs : Region.noSelect ops = true) (hc : calmOk .any ops listed calm = true) (hS : S w)
    (h : wpCalm P ops S (fun a' => wpAnyH P .any ops (NoPanic Q) S fuel (come listed calm) a' w) calm a) : wpAnyH P .any ops (NoPanic Q) S n listed a w := by
  subst hn
  exact calm_takes (P := P) (md := .any) (Q := NoPanic Q) (ops := ops) (S := S) (w := w) hs (fun c a d v w h => h) hS calm fuel listed a hc h (fun a' h' => h')

set_option maxRecDepth 100000 in
set_option maxHeartbeats 4000000 in
theorem cCellD (ao : Option Addr) (n cap : Nat) (w : World) (hv : CodeV w ao n) (hn : n ≤ 4096) :
    Calls Tryz.prog 27 #[.slice ao n cap] w fun e w' => ∃ a c xs x, e = .returned (.tuple #[.slice a xs.length c, .int .i64 x]) ∧ View w' a xs ∧ xs.length ≤ 4 ∧ Below w.heap.size w w' := by
  have HN := hidP (cNew ao n cap w hv hn)
  go_enter Tryz.func27, Tryz.ntmps27
  go_wp2_with fail
  refine HN.out.mono ?_
  rintro e w1 ⟨rfl, c1, L1⟩
  have hv1 := hv.below (Nat.le_refl _) L1
  have HB := hidP (cBelow _ ao n cap 4 w1 c1 hv1 hn (by omega) (by omega))
  go_wp2_with fail
  refine HB.out.mono ?_
  rintro e w2 ⟨⟨y, y0, y1, rfl⟩, c2, g2⟩
  obtain ⟨yn, rfl⟩ := Int.eq_ofNat_of_zero_le y0
  have hv2 := hv1.grown c1 g2
  have L2 : Below w.heap.size w w2 := L1.grown g2 L1.size (by intro k hk; cases hk; exact Nat.le_refl _)
  have hx : IntKind.i64.wrap (1 + (yn : Int)) = ((1 + yn : Nat) : Int) := by rw [IntWalk.i64_in _ ⟨by omega, by omega⟩]; omega
  have HP := hidP (cPoint _ ao n cap (1 + yn) w2 c2 hv2 hn (by omega))
  go_wp2_with fail
  refine HP.out.mono ?_
  rintro e w3 ⟨⟨g, c, xs, rfl, hxl, hrow⟩, c3, g3⟩
  have hv3 := hv2.grown c2 g3
  have L3 : Below w.heap.size w w3 := L2.grown g3 L2.size (by intro k hk; cases hk; exact Nat.le_refl _)
  have h4 : xs.length ≤ 4 := by omega
  have hz1 := c1.lt
  have hz2 := g2.size
  have hrl := World.ownsRow.lt hrow g rfl
  have hz3 := g3.size
  clear HN HB HP hv1 c1 L1 hv2 c2 L2 g2 g3 hxl hx
  go_wp2_with fail
  refine wp_region_takes (S := fun _ => True) (fuel := 6) [0, 2] (by kernel_rfl) (by kernel_rfl) (by kernel_rfl) (by kernel_rfl) trivial (fun _ => ?_)
  iterate 2
    refine ⟨_, rfl, ?_⟩
    apply Exists.intro
    refine ⟨Or.inl ⟨by rfl, fun w' hw' => ?_⟩, ?_⟩
    · first
      | (go_simp; done)
      | (go_simp; with_reducible rfl)
    simp only [Act.put, List.getElem_toArray, List.getElem_cons_succ, List.getElem_cons_zero, List.setIfInBounds_toArray, List.set_cons_zero, List.set_cons_succ]
  refine calm_two 1 3 (by kernel_rfl) rfl rfl (fun K hK => ?_) (fun K hK => ?_)
  · obtain ⟨W5, hW5⟩ : ∃ W, W = w3.alloc (.cells #[.int .i64 0, .int .i64 1, .int .i64 2, .int .i64 3, .int .i64 5, .int .i64 1000, .int .i64 1001, .int .i64 (-1)] 2) := ⟨_, rfl⟩
    have hc5 : Cur W5 w.heap.size ao n cap := by rw [hW5]; exact c3.alloc _
    have ga5 : w3.grownBy W5 (some w.heap.size) := by rw [hW5]; exact World.grownBy_alloc w3 (.cells #[.int .i64 0, .int .i64 1, .int .i64 2, .int .i64 3, .int .i64 5, .int .i64 1000, .int .i64 1001, .int .i64 (-1)] 2) (some w.heap.size)
    have hL5 := heap_alloc_new w3 (.cells #[.int .i64 0, .int .i64 1, .int .i64 2, .int .i64 3, .int .i64 5, .int .i64 1000, .int .i64 1001, .int .i64 (-1)] 2)
    rw [← hW5] at hL5
    have hz6 : W5.heap.size = w3.heap.size + 1 := by rw [hW5]; simp
    have v5 := hv3.grown c3 ga5
    have HB2 := hidP (cBelow w.heap.size ao n cap 8 W5.drew hc5.drew (v5 : CodeV W5 ao n) hn (by omega) (by omega))
    have HR := hidP (And.intro hrow (And.intro L3 (And.intro ga5 (And.intro hz1 (And.intro hz2 (And.intro hz3 (And.intro hrl (And.intro hz6 hL5))))))))
    clear hrow L3 ga5 hz1 hz2 hz3 hrl hz6 hL5 hc5 v5 c3 hv3
    go_simp
    rw [← hW5]
    clear hW5
    refine hK.out _ _ trivial (fun _ => ?_)
    clear hK K
    refine calm_one 3 (by kernel_rfl) rfl (fun K hK => ?_)
    go_simp
    refine HB2.out.mono ?_
    rintro e w6 ⟨⟨u, u0, u1, rfl⟩, c6, g6'⟩
    have g6 := grown_undrew g6'
    obtain ⟨un, rfl⟩ := Int.eq_ofNat_of_zero_le u0
    obtain ⟨v, hv8⟩ := eight_at un (by omega)
    obtain ⟨hrow, L3, ga5, hz1, hz2, hz3, hrl, hz6, hL5⟩ := HR.out
    have g36 := grown_trans ga5 g6
    have hlit : w6.cell? ⟨w3.heap.size, un, none⟩ = some (.int .i64 v) := by
      have hb : w6.heap[w3.heap.size]? = _ := (g6.block _ (by omega) (by simp; omega)).trans hL5
      simp only [World.cell?, hb]
      exact hv8
    have hrow6 : Row w2.heap.size w6 g c xs := World.ownsRow.kept hrow g36 (Or.inr (by simp [Value.ownBlock]; omega))
    have L6 : Below w.heap.size w w6 := L3.grown g36 L3.size (by intro k hk; cases hk; exact Nat.le_refl _)
    have HE := hidP (And.intro hrow6.view L6)
    have hu2 : (un : Int) < 8 := by omega
    clear hrow L3 ga5 hz1 hz2 hz3 hrl hz6 hL5 g36 hrow6 L6 c6 g6 g6' HR HB2
    refine hK.out _ _ trivial (fun _ => ?_)
    clear hK K
    refine calm_more 2 [4, 6] (by kernel_rfl) (by kernel_rfl) (by kernel_rfl) trivial ?_
    iterate 2
      refine ⟨_, rfl, ?_⟩
      apply Exists.intro
      refine ⟨Or.inl ⟨by rfl, fun w' hw' => ?_⟩, ?_⟩
      · first
        | (go_simp; done)
        | (go_simp; with_reducible rfl)
      simp only [Act.put, List.getElem_toArray, List.getElem_cons_succ, List.getElem_cons_zero, List.setIfInBounds_toArray, List.set_cons_zero, List.set_cons_succ]
    refine calm_one 5 (by kernel_rfl) rfl (fun K hK => ?_)
    go_simp
    refine hK.out _ _ trivial (fun _ => ?_)
    clear hK K
    refine calm_rest [7] rfl (by kernel_rfl) (by kernel_rfl) (by kernel_rfl) trivial ?_
    iterate 1
      refine ⟨_, rfl, ?_⟩
      apply Exists.intro
      refine ⟨Or.inl ⟨by rfl, fun w' hw' => ?_⟩, ?_⟩
      · first
        | (go_simp; done)
        | (go_simp; with_reducible rfl)
      simp only [Act.put, List.getElem_toArray, List.getElem_cons_succ, List.getElem_cons_zero, List.setIfInBounds_toArray, List.set_cons_zero, List.set_cons_succ]
    refine NoPanic.normal (NoPanic.normal ?_)
    go_wp2_with fail
    go_ret2
    exact ⟨_, c, xs, v, rfl, HE.out.1, h4, HE.out.2⟩
  · have HB2 := hidP (cBelow w.heap.size ao n cap 8 w3.drew c3.drew (hv3 : CodeV w3 ao n) hn (by omega) (by omega))
    have HR := hidP (And.intro hrow (And.intro L3 (And.intro hz1 (And.intro hz2 (And.intro hz3 hrl)))))
    clear hrow L3 hz1 hz2 hz3 hrl c3 hv3
    go_simp
    refine HB2.out.mono ?_
    rintro e w6 ⟨⟨u, u0, u1, rfl⟩, c6, g6'⟩
    have g6 := grown_undrew g6'
    obtain ⟨un, rfl⟩ := Int.eq_ofNat_of_zero_le u0
    obtain ⟨v, hv8⟩ := eight_at un (by omega)
    obtain ⟨hrow, L3, hz1, hz2, hz3, hrl⟩ := HR.out
    have hrow6 : Row w2.heap.size w6 g c xs := World.ownsRow.kept hrow g6 (Or.inr (by simp [Value.ownBlock]; omega))
    have L6 : Below w.heap.size w w6 := L3.grown g6 L3.size (by intro k hk; cases hk; exact Nat.le_refl _)
    obtain ⟨W7, hW7⟩ : ∃ W, W = w6.alloc (.cells #[.int .i64 0, .int .i64 1, .int .i64 2, .int .i64 3, .int .i64 5, .int .i64 1000, .int .i64 1001, .int .i64 (-1)] 2) := ⟨_, rfl⟩
    have hL7 := heap_alloc_new w6 (.cells #[.int .i64 0, .int .i64 1, .int .i64 2, .int .i64 3, .int .i64 5, .int .i64 1000, .int .i64 1001, .int .i64 (-1)] 2)
    have hrow7 : Row w2.heap.size W7 g c xs := by rw [hW7]; exact World.ownsRow.alloc hrow6 _
    have L7 : Below w.heap.size w W7 := by rw [hW7]; exact L6.alloc L6.size _
    rw [← hW7] at hL7
    have hlit : W7.cell? ⟨w6.heap.size, un, none⟩ = some (.int .i64 v) := by
      simp only [World.cell?, hL7]
      exact hv8
    have HE := hidP (And.intro hrow7.view L7)
    have hu2 : (un : Int) < 8 := by omega
    clear hrow L3 hz1 hz2 hz3 hrl hL7 hrow6 L6 hrow7 L7 c6 g6 g6' HR HB2
    refine hK.out _ _ trivial (fun _ => ?_)
    clear hK K
    refine calm_more 4 [6] (by kernel_rfl) (by kernel_rfl) (by kernel_rfl) trivial ?_
    iterate 1
      refine ⟨_, rfl, ?_⟩
      apply Exists.intro
      refine ⟨Or.inl ⟨by rfl, fun w' hw' => ?_⟩, ?_⟩
      · first
        | (go_simp; done)
        | (go_simp; with_reducible rfl)
      simp only [Act.put, List.getElem_toArray, List.getElem_cons_succ, List.getElem_cons_zero, List.setIfInBounds_toArray, List.set_cons_zero, List.set_cons_succ]
    refine calm_one 1 (by kernel_rfl) rfl (fun K hK => ?_)
    go_simp
    rw [← hW7]
    clear hW7
    refine hK.out _ _ trivial (fun _ => ?_)
    clear hK K
    refine calm_more 2 [4] (by kernel_rfl) (by kernel_rfl) (by kernel_rfl) trivial ?_
    iterate 1
      refine ⟨_, rfl, ?_⟩
      apply Exists.intro
      refine ⟨Or.inl ⟨by rfl, fun w' hw' => ?_⟩, ?_⟩
      · first
        | (go_simp; done)
        | (go_simp; with_reducible rfl)
      simp only [Act.put, List.getElem_toArray, List.getElem_cons_succ, List.getElem_cons_zero, List.setIfInBounds_toArray, List.set_cons_zero, List.set_cons_succ]
    refine calm_one 5 (by kernel_rfl) rfl (fun K hK => ?_)
    go_simp
    refine hK.out _ _ trivial (fun _ => ?_)
    clear hK K
    refine calm_rest [7] rfl (by kernel_rfl) (by kernel_rfl) (by kernel_rfl) trivial ?_
    iterate 1
      refine ⟨_, rfl, ?_⟩
      apply Exists.intro
      refine ⟨Or.inl ⟨by rfl, fun w' hw' => ?_⟩, ?_⟩
      · first
        | (go_simp; done)
        | (go_simp; with_reducible rfl)
      simp only [Act.put, List.getElem_toArray, List.getElem_cons_succ, List.getElem_cons_zero, List.setIfInBounds_toArray, List.set_cons_zero, List.set_cons_succ]
    refine NoPanic.normal (NoPanic.normal ?_)
    go_wp2_with fail
    go_ret2
    exact ⟨_, c, xs, v, rfl, HE.out.1, h4, HE.out.2⟩

end Go.Proofs.YtodielfilhodeaaGreat
namespace Go.Proofs.YtodielfilhodeaaGreat
open Go Go.RowKit

theorem cellL_i64 (p : List Int) (s : Int) : I64s (cellL p s) := by
  unfold cellL
  split
  · rename_i h
    exact cellV_i64 h.1 ((gsideB_iff s).1 h.2).1
  · exact i64s_nil

set_option maxRecDepth 100000 in
set_option maxHeartbeats 4000000 in
theorem cInCellD (ao : Option Addr) (n cap : Nat) (w : World) (hv : CodeV w ao n) (hn : n ≤ 4096) :
    Calls Tryz.prog 25 #[.slice ao n cap] w fun e w' => ∃ s a c ms a' c' xs, e = .returned (.tuple #[.agg #[.int .i64 s, .slice a ms.length c], .slice a' xs.length c']) ∧ MView w' a ms ∧ MSmall ms ∧ ms.length ≤ 8 ∧ View w' a' xs ∧ I64s xs ∧ xs.length ≤ 4 ∧ Below w.heap.size w w' := by
  obtain ⟨W0, hW0⟩ : ∃ W, W = w.alloc (.cells #[.int .i64 0, .slice none 0 0] 46) := ⟨_, rfl⟩
  have L0 : Below w.heap.size w W0 := by rw [hW0]; exact alloc_below w _
  have T0 : Two W0 w.heap.size (.int .i64 0) (.slice none 0 0) 46 := by rw [hW0]; exact Two.new w _ _ _
  have hz0 : W0.heap.size = w.heap.size + 1 := by rw [hW0]; simp
  have HZ0 := hidP hz0
  clear hz0
  have HN := hidP (cNew ao n cap W0 (hv.below (Nat.le_refl _) L0) hn)
  have HV0 := hidP (hv.below (Nat.le_refl _) L0)
  go_enter Tryz.func25, Tryz.ntmps25
  go_wp2_with fail
  rw [← hW0]
  clear hW0
  refine HN.out.mono ?_
  rintro e w1 ⟨rfl, c1, L1⟩
  have hv1 := HV0.out.below (Nat.le_refl _) L1
  have HD := hidP (c7Draw _ ao n cap w1 c1 hv1 hn)
  have T1 := T0.below L1
  go_wp2_with fail
  refine HD.out.mono ?_
  rintro e w2 ⟨⟨s, g, c, ms, base, rfl, hb, hnew⟩, c2, g2⟩
  have hz0 := HZ0.out
  have hz1 := c1.lt
  have hz2 := g2.size
  have hv2 := hv1.grown c1 g2
  have T2 : Two w2 w.heap.size (.int .i64 0) (.slice none 0 0) 46 := (g2.block _ (by omega) (by simp; omega)).trans T1
  have L2 : Below W0.heap.size W0 w2 := L1.grown g2 L1.size (by intro k hk; cases hk; exact Nat.le_refl _)
  have L02 := chain L0 L2
  obtain ⟨W3, hW3⟩ : ∃ W, W = w2.alloc (.cells #[.int .i64 s, .slice (some ⟨g, 0, none⟩) ms.length c] 46) := ⟨_, rfl⟩
  have ga3 := World.grownBy_alloc w2 (.cells #[.int .i64 s, .slice (some ⟨g, 0, none⟩) ms.length c] 46) (some W0.heap.size)
  have hc3 := c2.alloc (.cells #[.int .i64 s, .slice (some ⟨g, 0, none⟩) ms.length c] 46)
  have A3 := Two.new w2 (.int .i64 s) (.slice (some ⟨g, 0, none⟩) ms.length c) 46
  have hz3 : W3.heap.size = w2.heap.size + 1 := by rw [hW3]; simp
  rw [← hW3] at ga3 hc3 A3
  have v3 := hv2.grown c2 ga3
  have T3 : Two W3 w.heap.size (.int .i64 0) (.slice none 0 0) 46 := (ga3.block _ (by omega) (by simp; omega)).trans T2
  have hnew3 := hnew.kept ga3 (by intro k hk; cases hk; omega)
  have L03 : Below w.heap.size w W3 := L02.grown ga3 L02.size (by intro k hk; cases hk; omega)
  have m1 := A3.c1
  have HZ := hidP (And.intro hz0 (And.intro hz1 (And.intro hz2 hz3)))
  have h8 : ms.length ≤ 8 := by have := hnew3.1; omega
  have HV3 := hidP v3
  have HP3 := hidP (And.intro hnew3 (And.intro T3 (And.intro A3 (And.intro L03 hc3))))
  clear HD HN hv1 T1 hv2 T2 L2 L02 c1 L1 c2 g2 hnew ga3 hz0 hz1 hz2 hz3 hnew3 T3 A3 L03 hc3 v3
  by_cases h0 : 0 < (ms.length : Int)
  · go_wp2_with fail
    rw [← hW3]
    clear hW3
    obtain ⟨hnew3, T3, A3, L03, hc3⟩ := HP3.out
    refine (cOnce W0.heap.size ao n cap 4 W3 hc3 HV3.out hn (by omega) (by omega)).mono ?_
    rintro e w4 ⟨⟨x, rfl⟩, cX, g4⟩
    obtain ⟨hz0, hz1, hz2, hz3⟩ := HZ.out
    have hz4 := g4.size
    have vX := HV3.out.grown hc3 g4
    have hnewX := hnew3.kept g4 (by intro k hk; cases hk; omega)
    have TX : Two w4 w.heap.size (.int .i64 0) (.slice none 0 0) 46 := (g4.block _ (by omega) (by simp; omega)).trans T3
    have AX : Two w4 w2.heap.size (.int .i64 s) (.slice (some ⟨g, 0, none⟩) ms.length c) 46 := (g4.block _ (by omega) (by simp; omega)).trans A3
    have LX : Below w.heap.size w w4 := L03.grown g4 L03.size (by intro k hk; cases hk; omega)
    clear hnew3 T3 A3 L03 hc3 g4 HP3 HV3 HZ m1
    cases x with
    | true =>
      have HZZ := hidP (And.intro hz0 (And.intro hz1 (And.intro hz2 (And.intro hz3 hz4))))
      clear hz0 hz1 hz2 hz3 hz4
      go_wp2_with fail
      obtain ⟨hz0, hz1, hz2, hz3, hz4⟩ := HZZ.out
      have HPt : Hid (Calls Tryz.prog 84 #[.pointer (some ⟨W0.heap.size, 0, none⟩), .int .i64 2] w4.drew _) := hidP (cPointW W0.heap.size ao n cap 2 w4.drew cX.drew (vX : CodeV w4 ao n) hn (by omega))
      have HPX := hidP (And.intro hnewX (And.intro TX (And.intro AX (And.intro LX (And.intro hz0 (And.intro hz1 (And.intro hz2 (And.intro hz3 hz4))))))))
      have m0 := AX.c0
      have m2 := AX.c1
      clear hnewX TX AX LX cX vX hz0 hz1 hz2 hz3 hz4
      refine wp_region_takes (S := fun X => X.cell? ⟨w2.heap.size, 0, none⟩ = some (.int .i64 s) ∧ X.cell? ⟨w2.heap.size, 1, none⟩ = some (.slice (some ⟨g, 0, none⟩) ms.length c)) (fuel := 3) [0, 1] (by kernel_rfl) (by kernel_rfl) (by kernel_rfl) (by kernel_rfl) ⟨m0, m2⟩ (fun hS => ?_)
      iterate 2
        refine ⟨_, rfl, ?_⟩
        apply Exists.intro
        refine ⟨Or.inl ⟨by rfl, fun w' hw' => ?_⟩, ?_⟩
        · first
          | (go_simp; done)
          | (go_simp; with_reducible rfl)
        simp only [Act.put, List.getElem_toArray, List.getElem_cons_succ, List.getElem_cons_zero, List.setIfInBounds_toArray, List.set_cons_zero, List.set_cons_succ]
      refine calm_one 2 (by kernel_rfl) rfl (fun K hK => ?_)
      go_simp
      refine HPt.out.mono ?_
      rintro e w5 ⟨⟨g', c', xs, rfl, hxe, hxw, hrow⟩, c5, g5'⟩
      have hxl : xs.length ≤ 4 := by omega
      have g5 := grown_undrew g5'
      obtain ⟨hnew4, T4, A4, L04, hz0, hz1, hz2, hz3, hz4⟩ := HPX.out
      have hrl := World.ownsRow.lt hrow g' rfl
      have hrl2 : w4.heap.size ≤ g' := hrl.1
      have hz5 := g5.size
      have hnew5 := hnew4.kept g5 (by intro k hk; cases hk; omega)
      have T5 : Two w5 w.heap.size (.int .i64 0) (.slice none 0 0) 46 := (g5.block _ (by omega) (by simp; omega)).trans T4
      have A5 : Two w5 w2.heap.size (.int .i64 s) (.slice (some ⟨g, 0, none⟩) ms.length c) 46 := (g5.block _ (by omega) (by simp; omega)).trans A4
      have L05 : Below w.heap.size w w5 := L04.grown g5 L04.size (by intro k hk; cases hk; omega)
      have hrow5 : Row w4.heap.size w5 g' c' xs := hrow
      refine hK.out _ _ ⟨A5.c0, A5.c1⟩ (fun _ => ?_)
      clear hK K hxe hS HPt HPX hnew4 T4 A4 L04 hrow c5 g5 g5' m0 m2
      have f0 := T5.frozen 0
      have f1 := T5.frozen 1
      have x0 := T5.c0
      have x1 := T5.c1
      have s1 := grown_setCell w5 w.heap.size 0 (.int .i64 s)
      have s2 := grown_setCell (w5.setCell ⟨w.heap.size, 0, none⟩ (.int .i64 s)) w.heap.size 1 (.slice (some ⟨g, 0, none⟩) ms.length c)
      have T6 := (T5.set0 (.int .i64 s)).set1 (.slice (some ⟨g, 0, none⟩) ms.length c)
      have A6 := (A5.far (x := (.int .i64 s)) (q := w.heap.size) (i := 0) (by omega)).far (x := (.slice (some ⟨g, 0, none⟩) ms.length c)) (q := w.heap.size) (i := 1) (by omega)
      have hnew6 := (hnew5.kept s1 (by intro k hk; cases hk; omega)).kept s2 (by intro k hk; cases hk; omega)
      have hrow6 : Row w4.heap.size _ g' c' xs := World.ownsRow.kept (World.ownsRow.kept hrow5 s1 (Or.inr (by simp [Value.ownBlock]; omega))) s2 (Or.inr (by simp [Value.ownBlock]; omega))
      have L06 := (L05.grown s1 L05.size (by intro k hk; cases hk; exact Nat.le_refl _)).grown s2 (by rw [setCell_size]; exact L05.size) (by intro k hk; cases hk; exact Nat.le_refl _)
      obtain ⟨W6, hW6⟩ : ∃ W6, W6 = (w5.setCell ⟨w.heap.size, 0, none⟩ (.int .i64 s)).setCell ⟨w.heap.size, 1, none⟩ (.slice (some ⟨g, 0, none⟩) ms.length c) := ⟨_, rfl⟩
      rw [← hW6] at T6 A6 hnew6 hrow6 L06
      have HE := hidP (And.intro hnew6 (And.intro hrow6 L06))
      have y0 := T6.c0
      have y1 := T6.c1
      clear hz0 hz1 hz2 hz3 hz4 hz5 hrl hrl2
      refine calm_one 3 (by kernel_rfl) rfl (fun K hK => ?_)
      go_simp
      rw [← hW6]
      refine hK.out _ _ ⟨A6.c0, A6.c1⟩ (fun h6 => ?_)
      clear hK K hW6 T5 A5 T6 A6 hnew5 hnew6 hrow5 hrow6 L05 L06 s1 s2 f0 f1 x0 x1
      refine calm_rest [4] rfl (by kernel_rfl) (by kernel_rfl) (by kernel_rfl) h6 ?_
      iterate 1
        refine ⟨_, rfl, ?_⟩
        apply Exists.intro
        refine ⟨Or.inl ⟨by rfl, fun w' hw' => ?_⟩, ?_⟩
        · first
          | (go_simp; done)
          | (go_simp; with_reducible rfl)
        simp only [Act.put, List.getElem_toArray, List.getElem_cons_succ, List.getElem_cons_zero, List.setIfInBounds_toArray, List.set_cons_zero, List.set_cons_succ]
      refine NoPanic.normal (NoPanic.normal ?_)
      go_wp2_with fail
      refine bodyPost_ret (v := .tuple #[.agg #[.int .i64 s, .slice (some ⟨g, 0, none⟩) ms.length c], .slice (some ⟨g', 0, none⟩) xs.length c']) (by simp [results, Tryz.results25, go_sem, y0, y1]) rfl ?_
      exact ⟨s, _, c, ms, _, c', xs, rfl, HE.out.1.view, HE.out.1.small (by omega), h8, HE.out.2.1.view, hxw, hxl, HE.out.2.2⟩
    | false =>
      have HB := hidP (cBelow W0.heap.size ao n cap ms.length w4.drew cX.drew (vX : CodeV w4 ao n) hn (by omega) (by omega))
      have HPX := hidP (And.intro hnewX (And.intro TX (And.intro AX (And.intro LX (And.intro hz0 (And.intro hz1 (And.intro hz2 (And.intro hz3 hz4))))))))
      have m0 := AX.c0
      have m2 := AX.c1
      clear hnewX TX AX LX cX vX hz0 hz1 hz2 hz3 hz4
      go_wp2_with fail
      refine wp_region_takes (S := fun X => X.cell? ⟨w2.heap.size, 0, none⟩ = some (.int .i64 s) ∧ X.cell? ⟨w2.heap.size, 1, none⟩ = some (.slice (some ⟨g, 0, none⟩) ms.length c)) (fuel := 7) [0, 1, 2, 3, 4, 9, 10] (by kernel_rfl) (by kernel_rfl) (by kernel_rfl) (by kernel_rfl) ⟨m0, m2⟩ (fun hS => ?_)
      iterate 7
        refine ⟨_, rfl, ?_⟩
        apply Exists.intro
        refine ⟨Or.inl ⟨by rfl, fun w' hw' => ?_⟩, ?_⟩
        · first
          | (go_simp; done)
          | (go_simp; with_reducible rfl)
        simp only [Act.put, List.getElem_toArray, List.getElem_cons_succ, List.getElem_cons_zero, List.setIfInBounds_toArray, List.set_cons_zero, List.set_cons_succ]
      refine calm_one 5 (by kernel_rfl) rfl (fun K hK => ?_)
      go_simp
      refine HB.out.mono ?_
      rintro e w7 ⟨⟨u, u0, u1, rfl⟩, c7, g7'⟩
      obtain ⟨un, rfl⟩ := Int.eq_ofNat_of_zero_le u0
      have hul : un < ms.length := by omega
      have g7 := grown_undrew g7'
      obtain ⟨hnew4, T4, A4, L04, hz0, hz1, hz2, hz3, hz4⟩ := HPX.out
      have hz7 := g7.size
      have hnew7 := hnew4.kept g7 (by intro k hk; cases hk; omega)
      have T7 : Two w7 w.heap.size (.int .i64 0) (.slice none 0 0) 46 := (g7.block _ (by omega) (by simp; omega)).trans T4
      have A7 : Two w7 w2.heap.size (.int .i64 s) (.slice (some ⟨g, 0, none⟩) ms.length c) 46 := (g7.block _ (by omega) (by simp; omega)).trans A4
      have L07 : Below w.heap.size w w7 := L04.grown g7 L04.size (by intro k hk; cases hk; omega)
      obtain ⟨b0, o0, e0, _, hseg⟩ := hnew7.view.resolve_left (fun e => by rw [e] at hul; simp at hul)
      cases e0
      obtain ⟨_, ae, ce, hce, hve⟩ := hseg un hul
      rw [Nat.zero_add] at hce
      obtain ⟨P, hP⟩ : ∃ P, P = (mnth ms un).2 := ⟨_, rfl⟩
      have hPl : P.length ≤ 1048576 := by rw [hP]; exact (hnew7.small (by omega)).2 un
      rw [← hP] at hce hve
      have HC := hidP (sCell ae ce P s w7 hve hPl)
      have HP7 := hidP (And.intro hnew7 (And.intro T7 (And.intro A7 (And.intro L07 (And.intro hz0 (And.intro hz1 (And.intro hz2 (And.intro hz3 (Nat.le_trans hz4 hz7)))))))))
      have h70 := A7.c0
      have h71 := A7.c1
      have hui : (un : Int) < (ms.length : Int) := by omega
      clear hnew4 T4 A4 L04 hz0 hz1 hz2 hz3 hz4 hz7 hnew7 T7 A7 L07 hseg hve HB HPX g7 g7' c7 m0 m2 hS hP hul hPl
      refine hK.out _ _ ⟨h70, h71⟩ (fun h7 => ?_)
      clear hK K h70 h71
      refine calm_more 4 [6, 7] (by kernel_rfl) (by kernel_rfl) (by kernel_rfl) h7 ?_
      iterate 2
        refine ⟨_, rfl, ?_⟩
        apply Exists.intro
        refine ⟨Or.inl ⟨by rfl, fun w' hw' => ?_⟩, ?_⟩
        · first
          | (go_simp; done)
          | (go_simp; with_reducible rfl)
        simp only [Act.put, List.getElem_toArray, List.getElem_cons_succ, List.getElem_cons_zero, List.setIfInBounds_toArray, List.set_cons_zero, List.set_cons_succ]
      refine calm_one 8 (by kernel_rfl) rfl (fun K hK => ?_)
      go_simp
      refine hK.out _ _ h7 (fun _ => ?_)
      clear hK K
      refine calm_one 11 (by kernel_rfl) rfl (fun K hK => ?_)
      go_simp
      refine HC.out.mono ?_
      rintro e w5 ⟨g', c', rfl, hrow, L5⟩
      have g5 : w7.grownBy w5 none := ⟨L5.os, L5.tape, L5.output, L5.size, fun i hi _ => L5.block i hi⟩
      obtain ⟨hnew7, T7, A7, L07, hz0, hz1, hz2, hz3, hz4⟩ := HP7.out
      have hrl := World.ownsRow.lt hrow g' rfl
      have hz5 := g5.size
      have hnew5 := hnew7.kept g5 (by intro k hk; cases hk)
      have T5 := T7.below L5
      have A5 := A7.below L5
      have L05 : Below w.heap.size w w5 := chain L07 L5
      have hxw : I64s (cellL P s) := cellL_i64 P s
      have hxl := cellL_short P s
      have hrow5 : Row w7.heap.size w5 g' c' (cellL P s) := hrow
      generalize cellL P s = xs at *
      refine hK.out _ _ ⟨A5.c0, A5.c1⟩ (fun _ => ?_)
      clear hK K HC HP7 hnew7 T7 A7 L07 hrow g5 L5 h7 hce
      have f0 := T5.frozen 0
      have f1 := T5.frozen 1
      have x0 := T5.c0
      have x1 := T5.c1
      have s1 := grown_setCell w5 w.heap.size 0 (.int .i64 s)
      have s2 := grown_setCell (w5.setCell ⟨w.heap.size, 0, none⟩ (.int .i64 s)) w.heap.size 1 (.slice (some ⟨g, 0, none⟩) ms.length c)
      have T6 := (T5.set0 (.int .i64 s)).set1 (.slice (some ⟨g, 0, none⟩) ms.length c)
      have A6 := (A5.far (x := (.int .i64 s)) (q := w.heap.size) (i := 0) (by omega)).far (x := (.slice (some ⟨g, 0, none⟩) ms.length c)) (q := w.heap.size) (i := 1) (by omega)
      have hnew6 := (hnew5.kept s1 (by intro k hk; cases hk; omega)).kept s2 (by intro k hk; cases hk; omega)
      have hrow6 : Row w7.heap.size _ g' c' xs := World.ownsRow.kept (World.ownsRow.kept hrow5 s1 (Or.inr (by simp [Value.ownBlock]; omega))) s2 (Or.inr (by simp [Value.ownBlock]; omega))
      have L06 := (L05.grown s1 L05.size (by intro k hk; cases hk; exact Nat.le_refl _)).grown s2 (by rw [setCell_size]; exact L05.size) (by intro k hk; cases hk; exact Nat.le_refl _)
      obtain ⟨W6, hW6⟩ : ∃ W6, W6 = (w5.setCell ⟨w.heap.size, 0, none⟩ (.int .i64 s)).setCell ⟨w.heap.size, 1, none⟩ (.slice (some ⟨g, 0, none⟩) ms.length c) := ⟨_, rfl⟩
      rw [← hW6] at T6 A6 hnew6 hrow6 L06
      have HE := hidP (And.intro hnew6 (And.intro hrow6 L06))
      have y0 := T6.c0
      have y1 := T6.c1
      clear hz0 hz1 hz2 hz3 hz4 hz5 hrl
      refine calm_one 12 (by kernel_rfl) rfl (fun K hK => ?_)
      go_simp
      rw [← hW6]
      refine hK.out _ _ ⟨A6.c0, A6.c1⟩ (fun h6 => ?_)
      clear hK K hW6 T5 A5 T6 A6 hnew5 hnew6 hrow5 hrow6 L05 L06 s1 s2 f0 f1 x0 x1
      refine calm_rest [13] rfl (by kernel_rfl) (by kernel_rfl) (by kernel_rfl) h6 ?_
      iterate 1
        refine ⟨_, rfl, ?_⟩
        apply Exists.intro
        refine ⟨Or.inl ⟨by rfl, fun w' hw' => ?_⟩, ?_⟩
        · first
          | (go_simp; done)
          | (go_simp; with_reducible rfl)
        simp only [Act.put, List.getElem_toArray, List.getElem_cons_succ, List.getElem_cons_zero, List.setIfInBounds_toArray, List.set_cons_zero, List.set_cons_succ]
      refine NoPanic.normal (NoPanic.normal ?_)
      go_wp2_with fail
      refine bodyPost_ret (v := .tuple #[.agg #[.int .i64 s, .slice (some ⟨g, 0, none⟩) ms.length c], .slice (some ⟨g', 0, none⟩) xs.length c']) (by simp [results, Tryz.results25, go_sem, y0, y1]) rfl ?_
      exact ⟨s, _, c, ms, _, c', xs, rfl, HE.out.1.view, HE.out.1.small (by omega), h8, HE.out.2.1.view, hxw, hxl, HE.out.2.2⟩
  · go_wp2_with fail
    rw [← hW3]
    clear hW3
    obtain ⟨hnewX, TX, AX, LX, cX⟩ := HP3.out
    have vX := HV3.out
    obtain ⟨hz0, hz1, hz2, hz3⟩ := HZ.out
    have hz4 : W3.heap.size ≤ W3.heap.size := Nat.le_refl _
    clear HP3 HV3 HZ m1
    have HPt : Hid (Calls Tryz.prog 84 #[.pointer (some ⟨W0.heap.size, 0, none⟩), .int .i64 2] W3.drew _) := hidP (cPointW W0.heap.size ao n cap 2 W3.drew cX.drew (vX : CodeV W3 ao n) hn (by omega))
    have HPX := hidP (And.intro hnewX (And.intro TX (And.intro AX (And.intro LX (And.intro hz0 (And.intro hz1 (And.intro hz2 (And.intro hz3 hz4))))))))
    have m0 := AX.c0
    have m2 := AX.c1
    clear hnewX TX AX LX cX vX hz0 hz1 hz2 hz3 hz4
    refine wp_region_takes (S := fun X => X.cell? ⟨w2.heap.size, 0, none⟩ = some (.int .i64 s) ∧ X.cell? ⟨w2.heap.size, 1, none⟩ = some (.slice (some ⟨g, 0, none⟩) ms.length c)) (fuel := 3) [0, 1] (by kernel_rfl) (by kernel_rfl) (by kernel_rfl) (by kernel_rfl) ⟨m0, m2⟩ (fun hS => ?_)
    iterate 2
      refine ⟨_, rfl, ?_⟩
      apply Exists.intro
      refine ⟨Or.inl ⟨by rfl, fun w' hw' => ?_⟩, ?_⟩
      · first
        | (go_simp; done)
        | (go_simp; with_reducible rfl)
      simp only [Act.put, List.getElem_toArray, List.getElem_cons_succ, List.getElem_cons_zero, List.setIfInBounds_toArray, List.set_cons_zero, List.set_cons_succ]
    refine calm_one 2 (by kernel_rfl) rfl (fun K hK => ?_)
    go_simp
    refine HPt.out.mono ?_
    rintro e w5 ⟨⟨g', c', xs, rfl, hxe, hxw, hrow⟩, c5, g5'⟩
    have hxl : xs.length ≤ 4 := by omega
    have g5 := grown_undrew g5'
    obtain ⟨hnew4, T4, A4, L04, hz0, hz1, hz2, hz3, hz4⟩ := HPX.out
    have hrl := World.ownsRow.lt hrow g' rfl
    have hrl2 : W3.heap.size ≤ g' := hrl.1
    have hz5 := g5.size
    have hnew5 := hnew4.kept g5 (by intro k hk; cases hk; omega)
    have T5 : Two w5 w.heap.size (.int .i64 0) (.slice none 0 0) 46 := (g5.block _ (by omega) (by simp; omega)).trans T4
    have A5 : Two w5 w2.heap.size (.int .i64 s) (.slice (some ⟨g, 0, none⟩) ms.length c) 46 := (g5.block _ (by omega) (by simp; omega)).trans A4
    have L05 : Below w.heap.size w w5 := L04.grown g5 L04.size (by intro k hk; cases hk; omega)
    have hrow5 : Row W3.heap.size w5 g' c' xs := hrow
    refine hK.out _ _ ⟨A5.c0, A5.c1⟩ (fun _ => ?_)
    clear hK K hxe hS HPt HPX hnew4 T4 A4 L04 hrow c5 g5 g5' m0 m2
    have f0 := T5.frozen 0
    have f1 := T5.frozen 1
    have x0 := T5.c0
    have x1 := T5.c1
    have s1 := grown_setCell w5 w.heap.size 0 (.int .i64 s)
    have s2 := grown_setCell (w5.setCell ⟨w.heap.size, 0, none⟩ (.int .i64 s)) w.heap.size 1 (.slice (some ⟨g, 0, none⟩) ms.length c)
    have T6 := (T5.set0 (.int .i64 s)).set1 (.slice (some ⟨g, 0, none⟩) ms.length c)
    have A6 := (A5.far (x := (.int .i64 s)) (q := w.heap.size) (i := 0) (by omega)).far (x := (.slice (some ⟨g, 0, none⟩) ms.length c)) (q := w.heap.size) (i := 1) (by omega)
    have hnew6 := (hnew5.kept s1 (by intro k hk; cases hk; omega)).kept s2 (by intro k hk; cases hk; omega)
    have hrow6 : Row W3.heap.size _ g' c' xs := World.ownsRow.kept (World.ownsRow.kept hrow5 s1 (Or.inr (by simp [Value.ownBlock]; omega))) s2 (Or.inr (by simp [Value.ownBlock]; omega))
    have L06 := (L05.grown s1 L05.size (by intro k hk; cases hk; exact Nat.le_refl _)).grown s2 (by rw [setCell_size]; exact L05.size) (by intro k hk; cases hk; exact Nat.le_refl _)
    obtain ⟨W6, hW6⟩ : ∃ W6, W6 = (w5.setCell ⟨w.heap.size, 0, none⟩ (.int .i64 s)).setCell ⟨w.heap.size, 1, none⟩ (.slice (some ⟨g, 0, none⟩) ms.length c) := ⟨_, rfl⟩
    rw [← hW6] at T6 A6 hnew6 hrow6 L06
    have HE := hidP (And.intro hnew6 (And.intro hrow6 L06))
    have y0 := T6.c0
    have y1 := T6.c1
    clear hz0 hz1 hz2 hz3 hz4 hz5 hrl hrl2
    refine calm_one 3 (by kernel_rfl) rfl (fun K hK => ?_)
    go_simp
    rw [← hW6]
    refine hK.out _ _ ⟨A6.c0, A6.c1⟩ (fun h6 => ?_)
    clear hK K hW6 T5 A5 T6 A6 hnew5 hnew6 hrow5 hrow6 L05 L06 s1 s2 f0 f1 x0 x1
    refine calm_rest [4] rfl (by kernel_rfl) (by kernel_rfl) (by kernel_rfl) h6 ?_
    iterate 1
      refine ⟨_, rfl, ?_⟩
      apply Exists.intro
      refine ⟨Or.inl ⟨by rfl, fun w' hw' => ?_⟩, ?_⟩
      · first
        | (go_simp; done)
        | (go_simp; with_reducible rfl)
      simp only [Act.put, List.getElem_toArray, List.getElem_cons_succ, List.getElem_cons_zero, List.setIfInBounds_toArray, List.set_cons_zero, List.set_cons_succ]
    refine NoPanic.normal (NoPanic.normal ?_)
    go_wp2_with fail
    refine bodyPost_ret (v := .tuple #[.agg #[.int .i64 s, .slice (some ⟨g, 0, none⟩) ms.length c], .slice (some ⟨g', 0, none⟩) xs.length c']) (by simp [results, Tryz.results25, go_sem, y0, y1]) rfl ?_
    exact ⟨s, _, c, ms, _, c', xs, rfl, HE.out.1.view, HE.out.1.small (by omega), h8, HE.out.2.1.view, hxw, hxl, HE.out.2.2⟩

end Go.Proofs.YtodielfilhodeaaGreat
namespace Go.Proofs.YtodielfilhodeaaGreat
open Go Go.RowKit

set_option maxRecDepth 100000 in
set_option maxHeartbeats 4000000 in
theorem cNearD (ao : Option Addr) (n cap : Nat) (w : World) (hv : CodeV w ao n) (hn : n ≤ 4096) :
    Calls Tryz.prog 26 #[.slice ao n cap] w fun e w' => ∃ s a c ms a' c' xs x, e = .returned (.tuple #[.agg #[.int .i64 s, .slice a ms.length c], .slice a' xs.length c', .int .i64 x]) ∧ MView w' a ms ∧ MSmall ms ∧ ms.length ≤ 8 ∧ View w' a' xs ∧ xs.length ≤ 6 ∧ Below w.heap.size w w' := by
  obtain ⟨W0, hW0⟩ : ∃ W, W = w.alloc (.cells #[.int .i64 0, .slice none 0 0] 46) := ⟨_, rfl⟩
  have L0 : Below w.heap.size w W0 := by rw [hW0]; exact alloc_below w _
  have T0 : Two W0 w.heap.size (.int .i64 0) (.slice none 0 0) 46 := by rw [hW0]; exact Two.new w _ _ _
  have hz0 : W0.heap.size = w.heap.size + 1 := by rw [hW0]; simp
  have HZ0 := hidP hz0
  clear hz0
  have HN := hidP (cNew ao n cap W0 (hv.below (Nat.le_refl _) L0) hn)
  have HV0 := hidP (hv.below (Nat.le_refl _) L0)
  go_enter Tryz.func26, Tryz.ntmps26
  go_wp2_with fail
  rw [← hW0]
  clear hW0
  refine HN.out.mono ?_
  rintro e w1 ⟨rfl, c1, L1⟩
  have hv1 := HV0.out.below (Nat.le_refl _) L1
  have HD := hidP (c7Draw _ ao n cap w1 c1 hv1 hn)
  have T1 := T0.below L1
  go_wp2_with fail
  refine HD.out.mono ?_
  rintro e w2 ⟨⟨s, g, c, ms, base, rfl, hb, hnew⟩, c2, g2⟩
  have hz0 := HZ0.out
  have hz1 := c1.lt
  have hz2 := g2.size
  have hv2 := hv1.grown c1 g2
  have T2 : Two w2 w.heap.size (.int .i64 0) (.slice none 0 0) 46 := (g2.block _ (by omega) (by simp; omega)).trans T1
  have L2 : Below W0.heap.size W0 w2 := L1.grown g2 L1.size (by intro k hk; cases hk; exact Nat.le_refl _)
  have L02 := chain L0 L2
  obtain ⟨W3, hW3⟩ : ∃ W, W = w2.alloc (.cells #[.int .i64 s, .slice (some ⟨g, 0, none⟩) ms.length c] 46) := ⟨_, rfl⟩
  have ga3 := World.grownBy_alloc w2 (.cells #[.int .i64 s, .slice (some ⟨g, 0, none⟩) ms.length c] 46) (some W0.heap.size)
  have hc3 := c2.alloc (.cells #[.int .i64 s, .slice (some ⟨g, 0, none⟩) ms.length c] 46)
  have A3 := Two.new w2 (.int .i64 s) (.slice (some ⟨g, 0, none⟩) ms.length c) 46
  have hz3 : W3.heap.size = w2.heap.size + 1 := by rw [hW3]; simp
  rw [← hW3] at ga3 hc3 A3
  have v3 := hv2.grown c2 ga3
  have T3 : Two W3 w.heap.size (.int .i64 0) (.slice none 0 0) 46 := (ga3.block _ (by omega) (by simp; omega)).trans T2
  have hnew3 := hnew.kept ga3 (by intro k hk; cases hk; omega)
  have L03 : Below w.heap.size w W3 := L02.grown ga3 L02.size (by intro k hk; cases hk; omega)
  have HQ := hidP (cQuery W0.heap.size ao n cap _ c ms W3 hc3 v3 hn hnew3.view hnew3.2.2.2)
  have m1 := A3.c1
  have HZ := hidP (And.intro hz0 (And.intro hz1 (And.intro hz2 hz3)))
  clear HD HN hv1 T1 hv2 T2 L2 L02 c1 L1 c2 g2 hnew ga3 hz0 hz1 hz2 hz3
  go_wp2_with fail
  rw [← hW3]
  clear hW3
  refine HQ.out.mono ?_
  rintro e w4 ⟨⟨g', c', xs, rfl, hxl, hrow⟩, c4, g4⟩
  obtain ⟨hz0, hz1, hz2, hz3⟩ := HZ.out
  have hz4 := g4.size
  have v4 := v3.grown hc3 g4
  have hnew4 := hnew3.kept g4 (by intro k hk; cases hk; omega)
  have T4 : Two w4 w.heap.size (.int .i64 0) (.slice none 0 0) 46 := (g4.block _ (by omega) (by simp; omega)).trans T3
  have A4 : Two w4 w2.heap.size (.int .i64 s) (.slice (some ⟨g, 0, none⟩) ms.length c) 46 := (g4.block _ (by omega) (by simp; omega)).trans A3
  have L04 : Below w.heap.size w w4 := L03.grown g4 L03.size (by intro k hk; cases hk; omega)
  have HF := hidP (cFrom W0.heap.size ao n cap (-1) 90 w4.drew c4.drew (v4 : CodeV w4 ao n) hn (by omega) (by omega) (by omega) (by omega))
  have HP := hidP (And.intro hnew4 (And.intro T4 (And.intro A4 (And.intro L04 hrow))))
  have m0 := A4.c0
  have m2 := A4.c1
  have HZ4 := hidP hz4
  clear HQ v3 hnew3 T3 A3 L03 hc3 g4 c4 v4 hnew4 T4 A4 L04 hrow m1 hz0 hz1 hz2 hz3 hz4
  go_wp2_with fail
  refine wp_region_takes (S := fun X => X.cell? ⟨w2.heap.size, 0, none⟩ = some (.int .i64 s) ∧ X.cell? ⟨w2.heap.size, 1, none⟩ = some (.slice (some ⟨g, 0, none⟩) ms.length c)) (fuel := 4)
    [0, 1, 2] (by kernel_rfl) (by kernel_rfl) (by kernel_rfl) (by kernel_rfl) ⟨m0, m2⟩ (fun hS => ?_)
  iterate 3
    refine ⟨_, rfl, ?_⟩
    apply Exists.intro
    refine ⟨Or.inl ⟨by rfl, fun w' hw' => ?_⟩, ?_⟩
    · first
      | (go_simp; done)
      | (go_simp; with_reducible rfl)
    simp only [Act.put, List.setIfInBounds_toArray]
  refine calm_one 3 (by kernel_rfl) rfl (fun K hK => ?_)
  go_simp
  refine HF.out.mono ?_
  rintro e w5 ⟨⟨x, xa, xb, rfl⟩, c5, g5'⟩
  have g5 : w4.grownBy w5 (some W0.heap.size) := ⟨g5'.os, g5'.tape, g5'.output, g5'.size, g5'.block⟩
  obtain ⟨hnew4, T4, A4, L04, hrow⟩ := HP.out
  obtain ⟨hz0, hz1, hz2, hz3⟩ := HZ.out
  have hz4 := HZ4.out
  have hrl := World.ownsRow.lt hrow g' rfl
  have hz5 := g5.size
  have hnew5 := hnew4.kept g5 (by intro k hk; cases hk; omega)
  have T5 : Two w5 w.heap.size (.int .i64 0) (.slice none 0 0) 46 := (g5.block _ (by omega) (by simp; omega)).trans T4
  have A5 : Two w5 w2.heap.size (.int .i64 s) (.slice (some ⟨g, 0, none⟩) ms.length c) 46 := (g5.block _ (by omega) (by simp; omega)).trans A4
  have L05 : Below w.heap.size w w5 := L04.grown g5 L04.size (by intro k hk; cases hk; omega)
  have hrow5 : Row W3.heap.size w5 g' c' xs := World.ownsRow.kept hrow g5 (Or.inr (by simp [Value.ownBlock]; omega))
  refine hK.out _ _ ⟨A5.c0, A5.c1⟩ (fun _ => ?_)
  clear hK K
  have f0 := T5.frozen 0
  have f1 := T5.frozen 1
  have x0 := T5.c0
  have x1 := T5.c1
  have s1 := grown_setCell w5 w.heap.size 0 (.int .i64 s)
  have s2 := grown_setCell (w5.setCell ⟨w.heap.size, 0, none⟩ (.int .i64 s)) w.heap.size 1 (.slice (some ⟨g, 0, none⟩) ms.length c)
  have T6 := (T5.set0 (.int .i64 s)).set1 (.slice (some ⟨g, 0, none⟩) ms.length c)
  have A6 := (A5.far (x := (.int .i64 s)) (q := w.heap.size) (i := 0) (by omega)).far (x := (.slice (some ⟨g, 0, none⟩) ms.length c)) (q := w.heap.size) (i := 1) (by omega)
  have hnew6 := (hnew5.kept s1 (by intro k hk; cases hk; omega)).kept s2 (by intro k hk; cases hk; omega)
  have hrow6 : Row W3.heap.size _ g' c' xs := World.ownsRow.kept (World.ownsRow.kept hrow5 s1 (Or.inr (by simp [Value.ownBlock]; omega))) s2 (Or.inr (by simp [Value.ownBlock]; omega))
  have L06 := (L05.grown s1 L05.size (by intro k hk; cases hk; exact Nat.le_refl _)).grown s2 (by rw [setCell_size]; exact L05.size) (by intro k hk; cases hk; exact Nat.le_refl _)
  obtain ⟨W6, hW6⟩ : ∃ W6, W6 = (w5.setCell ⟨w.heap.size, 0, none⟩ (.int .i64 s)).setCell ⟨w.heap.size, 1, none⟩ (.slice (some ⟨g, 0, none⟩) ms.length c) := ⟨_, rfl⟩
  rw [← hW6] at T6 A6 hnew6 hrow6 L06
  have HE := hidP (And.intro hnew6 (And.intro hrow6 L06))
  clear hz0 hz1 hz2 hz3 hz4 hz5 hrl
  have y0 := T6.c0
  have y1 := T6.c1
  refine calm_one 4 (by kernel_rfl) rfl (fun K hK => ?_)
  go_simp
  rw [← hW6]
  refine hK.out _ _ ⟨A6.c0, A6.c1⟩ (fun h6 => ?_)
  clear hK K hW6 T5 A5 T6 A6 hnew5 hnew6 hrow5 hrow6 L05 L06 s1 s2 f0 f1 x0 x1 m0 m2 hS HF HP c5 g5 g5' hnew4 T4 A4 L04 hrow
  refine calm_rest [5, 6] rfl (by kernel_rfl) (by kernel_rfl) (by kernel_rfl) h6 ?_
  iterate 2
    refine ⟨_, rfl, ?_⟩
    apply Exists.intro
    refine ⟨Or.inl ⟨by rfl, fun w' hw' => ?_⟩, ?_⟩
    · first
      | (go_simp; done)
      | (go_simp; with_reducible rfl)
    simp only [Act.put, List.getElem_toArray, List.getElem_cons_succ, List.getElem_cons_zero, List.setIfInBounds_toArray, List.set_cons_zero, List.set_cons_succ]
  refine NoPanic.normal (NoPanic.normal ?_)
  go_wp2_with fail
  refine bodyPost_ret (v := .tuple #[.agg #[.int .i64 s, .slice (some ⟨g, 0, none⟩) ms.length c], .slice (some ⟨g', 0, none⟩) xs.length c', .int .i64 x]) (by simp [results, Tryz.results26, go_sem, y0, y1]) rfl ?_
  exact ⟨s, _, c, ms, _, c', xs, x, rfl, HE.out.1.view, HE.out.1.small (by omega), by have := HE.out.1.1; omega, HE.out.2.1.view, hxl, HE.out.2.2⟩

end Go.Proofs.YtodielfilhodeaaGreat
namespace Go.Proofs.YtodielfilhodeaaGreat
open Go Go.RowKit

/-- A grid in memory. -/
def GdV (w : World) (A : Nat) (s : Int) (a : Option Addr) (c : Nat) (ms : List Mk) : Prop := Two w A (.int .i64 s) (.slice a ms.length c) 46 ∧ MView w a ms ∧ MSmall ms
theorem GdV.below {w w' : World} {A : Nat} {s : Int} {a : Option Addr} {c : Nat} {ms : List Mk} (h : GdV w A s a c ms) (hb : Below w.heap.size w w') : GdV w' A s a c ms := ⟨h.1.below hb, h.2.1.next hb, h.2.2⟩

theorem iCellsV (ao : Option Addr) (cap : Nat) (s : Int) (ms : List Mk) (w : World) (hv : MView w ao ms) (hsm : MSmall ms) :
    Calls Tryz.prog 24 #[.agg #[.int .i64 s, .slice ao ms.length cap]] w fun e w' => ∃ a c, e = .returned (.slice a (cellsL s ms).length c) ∧ LView w' a (cellsL s ms) ∧ Below w.heap.size w w' := by
  refine (iCells ao cap s ms w hv hsm).mono ?_
  rintro e w' (⟨rfl, h, L⟩ | ⟨g, c, rs, rfl, h, m, L⟩)
  · exact ⟨none, 0, by rw [h]; rfl, Or.inl h, L⟩
  · exact ⟨some ⟨g, 0, none⟩, c, by rw [← h, nums_length], by rw [← h]; exact m.view, L⟩
theorem sCellsV (ao : Option Addr) (cap : Nat) (s : Int) (ms : List Mk) (w : World) (hv : MView w ao ms) (hsm : MSmall ms) :
    Calls Tryz.prog 29 #[.agg #[.int .i64 s, .slice ao ms.length cap]] w fun e w' => ∃ a c, e = .returned (.slice a (cellsL s ms).length c) ∧ LView w' a (cellsL s ms) ∧ Below w.heap.size w w' := by
  refine (sCells ao cap s ms w hv hsm).mono ?_
  rintro e w' ⟨g, c, rs, rfl, h, m, L⟩
  exact ⟨some ⟨g, 0, none⟩, c, by rw [← h, nums_length], by rw [← h]; exact m.view, L⟩
theorem iInV (ao qa : Option Addr) (cap qc : Nat) (s : Int) (ms : List Mk) (cell : List Int) (w : World) (hv : MView w ao ms) (hsm : MSmall ms) (hq : View w qa cell) (hi : I64s cell) :
    Calls Tryz.prog 31 #[.agg #[.int .i64 s, .slice ao ms.length cap], .slice qa cell.length qc] w fun e w' => ∃ a c, e = .returned (.slice a (inCellL s ms cell).length c) ∧ View w' a (inCellL s ms cell) ∧ Below w.heap.size w w' := by
  refine (iInCell ao qa cap qc s ms cell w hv hsm hq hi).mono ?_
  rintro e w' ⟨a, c, rfl, h, L⟩
  obtain ⟨a', c', e', v⟩ := h.view
  cases e'
  exact ⟨a, c, rfl, v, L⟩
theorem sInV (ao qa : Option Addr) (cap qc : Nat) (s : Int) (ms : List Mk) (cell : List Int) (w : World) (hv : MView w ao ms) (hsm : MSmall ms) (hq : View w qa cell) :
    Calls Tryz.prog 32 #[.agg #[.int .i64 s, .slice ao ms.length cap], .slice qa cell.length qc] w fun e w' => ∃ a c, e = .returned (.slice a (inCellL s ms cell).length c) ∧ View w' a (inCellL s ms cell) ∧ Below w.heap.size w w' := by
  refine (sInCell ao qa cap qc s ms cell w hv hsm hq).mono ?_
  rintro e w' ⟨g, c, rfl, h, L⟩
  exact ⟨_, c, rfl, h.view, L⟩
theorem iNearV (ao qa : Option Addr) (cap qc : Nat) (s : Int) (ms : List Mk) (q : List Int) (most : Int) (w : World) (hv : MView w ao ms) (hsm : MSmall ms) (hq : View w qa q) (hqn : q.length ≤ 1048576) :
    Calls Tryz.prog 33 #[.agg #[.int .i64 s, .slice ao ms.length cap], .slice qa q.length qc, .int .i64 most] w fun e w' => ∃ a c, e = .returned (.slice a (nearV s ms q most).length c) ∧ HView w' a (nearV s ms q most) ∧ Below w.heap.size w w' := by
  refine (iNear7 ao qa cap qc s ms q most w hv hsm hq hqn).mono ?_
  rintro e w' ⟨v, rfl, h, L⟩
  obtain ⟨a, c, rfl, hv⟩ := h.view
  exact ⟨a, c, rfl, hv, L⟩
theorem sNearV (ao qa : Option Addr) (cap qc : Nat) (s : Int) (ms : List Mk) (q : List Int) (most : Int) (w : World) (hv : MView w ao ms) (hsm : MSmall ms) (hq : View w qa q) (hqn : q.length ≤ 1048576) :
    Calls Tryz.prog 34 #[.agg #[.int .i64 s, .slice ao ms.length cap], .slice qa q.length qc, .int .i64 most] w fun e w' => ∃ a c, e = .returned (.slice a (nearV s ms q most).length c) ∧ HView w' a (nearV s ms q most) ∧ Below w.heap.size w w' := by
  refine (sNear7 ao qa cap qc s ms q most w hv hsm hq hqn).mono ?_
  rintro e w' ⟨g, c, rfl, h, L⟩
  exact ⟨_, c, rfl, h.view, L⟩
theorem iCellW (ao : Option Addr) (cap : Nat) (p : List Int) (s : Int) (w : World) (hv : View w ao p) (hn : p.length ≤ 1048576) :
    Calls Tryz.prog 35 #[.slice ao p.length cap, .int .i64 s] w fun e w' => ∃ a c, e = .returned (.slice a (cellL p s).length c) ∧ View w' a (cellL p s) ∧ Below w.heap.size w w' := by
  refine (iCell ao cap p s w hv hn).mono ?_
  rintro e w' ⟨a, rfl, h, L⟩
  exact ⟨a, _, rfl, h.view, L⟩
theorem sCellW (ao : Option Addr) (cap : Nat) (p : List Int) (s : Int) (w : World) (hv : View w ao p) (hn : p.length ≤ 1048576) :
    Calls Tryz.prog 36 #[.slice ao p.length cap, .int .i64 s] w fun e w' => ∃ a c, e = .returned (.slice a (cellL p s).length c) ∧ View w' a (cellL p s) ∧ Below w.heap.size w w' := by
  refine (sCell ao cap p s w hv hn).mono ?_
  rintro e w' ⟨g, c, rfl, h, L⟩
  exact ⟨_, c, rfl, Row.view h, L⟩
theorem likeI (ao ao' : Option Addr) (cap cap' : Nat) (xs : List Int) (w : World) (hv : View w ao xs) (hv' : View w ao' xs) (hn : xs.length ≤ 1048576) :
    Calls Tryz.prog 30 #[.slice ao xs.length cap, .slice ao' xs.length cap'] w fun e w' => e = .returned (.bool true) ∧ Below w.heap.size w w' := by
  refine (likeS ao ao' cap cap' xs xs w hv hv' hn).mono ?_
  rintro e w' ⟨rfl, n, rfl⟩
  exact ⟨by simp, below_drewN (Below.refl _ _) n⟩
theorem likeH (ao ao' : Option Addr) (cap cap' : Nat) (hs : List Ht) (w : World) (hv : HView w ao hs) (hv' : HView w ao' hs) (hn : hs.length ≤ 4194304) :
    Calls Tryz.prog 14 #[.slice ao hs.length cap, .slice ao' hs.length cap'] w fun e w' => e = .returned (.bool true) ∧ Below w.heap.size w w' := by
  refine (likeHS ao ao' cap cap' hs hs w hv hv' hn).mono ?_
  rintro e w' ⟨rfl, n, rfl⟩
  exact ⟨by simp, below_drewN (Below.refl _ _) n⟩
theorem likeL (ao ao' : Option Addr) (cap cap' : Nat) (ls : List (List Int)) (w : World) (hv : LView w ao ls) (hv' : LView w ao' ls) (hn : ls.length ≤ 1048576) (hat : ∀ l ∈ ls, l.length ≤ 1048576) :
    Calls Tryz.prog 28 #[.slice ao ls.length cap, .slice ao' ls.length cap'] w fun e w' => e = .returned (.bool true) ∧ Below w.heap.size w w' := by
  refine (likeSS ao ao' cap cap' ls w hv hv' hn hat).mono ?_
  rintro e w' ⟨rfl, n, rfl⟩
  exact ⟨rfl, below_drewN (Below.refl _ _) n⟩
theorem risesB (ao : Option Addr) (cap : Nat) (xs : List Int) (w : World) (hv : View w ao xs) (hn : xs.length ≤ 1048576) (hr : ∀ j, j + 1 < xs.length → nth xs j < nth xs (j + 1)) :
    Calls Tryz.prog 39 #[.slice ao xs.length cap] w fun e w' => e = .returned (.bool true) ∧ Below w.heap.size w w' := by
  refine (risesS ao cap xs w hv hn hr).mono ?_
  rintro e w' ⟨rfl, n, rfl⟩
  exact ⟨rfl, below_drewN (Below.refl _ _) n⟩
theorem cells_small {s : Int} {ms : List Mk} (hs : MSmall ms) : (cellsL s ms).length ≤ ms.length ∧ ∀ l ∈ cellsL s ms, l.length ≤ 1048576 := by
  unfold cellsL
  split
  · refine ⟨keysG_length _ _, fun l hl => ?_⟩
    obtain ⟨m, hm, rfl⟩ := (keysG_mem _ _ _).1 hl
    obtain ⟨i, hi, rfl⟩ := List.getElem_of_mem hm
    have h := hs.2 i
    have e : mat ms i = ms[i].2 := by simp [mat, List.getD, hi]
    rw [e] at h
    simpa [cellM, cellV_length] using h
  · simp
theorem in_small (s : Int) (ms : List Mk) (c : List Int) : (inCellL s ms c).length ≤ ms.length := by
  unfold inCellL
  split
  · exact idsL_length s c ms
  · simp
theorem near_small (s : Int) (ms : List Mk) (q : List Int) (most : Int) (h : ms.length ≤ 8) : (nearV s ms q most).length ≤ 4194304 := by
  unfold nearV
  split
  · unfold withinL
    split
    · refine Nat.le_trans (List.length_filter_le _ _) ?_
      rw [sortL_length, hitsL_length]; omega
    · simp
  · simp

end Go.Proofs.YtodielfilhodeaaGreat
