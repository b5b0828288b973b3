/-
  The draws of chapter 7: l7Draw, DrawCells.
-/
import Derived.Test.YtodielfilhodeaaGreatBytesZz
import Derived.Test.YtodielfilhodeaaGreatBSpecZz
import Derived.Test.YtodielfilhodeaaGreatGGridZz
import Derived.Test.YtodielfilhodeaaGreatHDrawZz
namespace Go.Proofs.YtodielfilhodeaaGreat
open Go Go.RowKit

/-- The blocks from lo on and ahead of hi are as they were. -/
def Kin (lo hi : Nat) (w w' : World) : Prop := w.heap.size ≤ w'.heap.size ∧ ∀ i, lo ≤ i → i < hi → w'.heap[i]? = w.heap[i]?
theorem Kin.refl (lo hi : Nat) (w : World) : Kin lo hi w w := ⟨Nat.le_refl _, fun _ _ _ => rfl⟩
theorem Kin.grown {lo hi : Nat} {w w1 w2 : World} {r : Option Nat} (h : Kin lo hi w w1) (hh : hi ≤ w.heap.size) (g : w1.grownBy w2 r) (hr : ∀ k, r = some k → k < lo ∨ hi ≤ k) : Kin lo hi w w2 :=
  ⟨Nat.le_trans h.1 g.size, fun i h1 h2 => (g.block i (by have := h.1; omega) (fun e => by have := hr i e.symm; omega)).trans (h.2 i h1 h2)⟩
theorem MNew.kin {base : Nat} {w w' : World} {g c : Nat} {ms : List Mk} {most : Int} (h : MNew base w g c ms most) (k : Kin base w.heap.size w w') : MNew base w' g c ms most := by
  obtain ⟨h1, h2, ⟨a1, a2, a3, a4⟩, h4⟩ := h
  have hc : ∀ b j, base ≤ b → b < w.heap.size → w'.cell? ⟨b, j, none⟩ = w.cell? ⟨b, j, none⟩ := fun b j hb hl => by simp only [World.cell?, k.2 b hb hl]
  refine ⟨h1, h2, ⟨a1, Nat.lt_of_lt_of_le a2 k.1, fun i hi => ?_, fun i hi his => ?_⟩, h4⟩
  · obtain ⟨c0, v, c1⟩ := a3 i hi
    exact ⟨(hc g _ a1 a2).trans c0, v, (hc g _ a1 a2).trans c1⟩
  · obtain ⟨b, cap, e, hb, hbs, hbg, hs⟩ := a4 i hi his
    exact ⟨b, cap, (hc g _ a1 a2).trans e, hb, Nat.lt_of_lt_of_le hbs k.1, hbg, fun j hj => (hc b _ hb hbs).trans (hs j hj)⟩
theorem side_at (y : Nat) (h : y < 4) : ∃ v : Int, (#[Value.int .i64 0, .int .i64 (-1), .int .i64 1000, .int .i64 1001] : Array Value)[y]? = some (.int .i64 v) := by
  match y, h with
  | 0, _ => exact ⟨_, rfl⟩
  | 1, _ => exact ⟨_, rfl⟩
  | 2, _ => exact ⟨_, rfl⟩
  | 3, _ => exact ⟨_, rfl⟩

set_option maxRecDepth 100000 in
set_option maxHeartbeats 4000000 in
theorem c7Draw (q : Nat) (ao : Option Addr) (n cap : Nat) (w : World) (hc : Cur w q ao n cap) (hv : CodeV w ao n) (hn : n ≤ 4096) :
    Calls Tryz.prog 77 #[.pointer (some ⟨q, 0, none⟩)] w fun e w' => (∃ s g c ms base, e = .returned (.agg #[.int .i64 s, .slice (some ⟨g, 0, none⟩) ms.length c]) ∧ w.heap.size ≤ base ∧ MNew base w' g c ms 8) ∧ Cur w' q ao n cap ∧ w.grownBy w' (some q) := by
  have hq := hc.lt
  have ga := World.grownBy_alloc w (.cells #[.int .i64 0, .slice none 0 0] 46) (some q)
  have hc0 := hc.alloc (.cells #[.int .i64 0, .slice none 0 0] 46)
  have hv0 := hv.grown hc ga
  have T0 := Two.new w (.int .i64 0) (.slice none 0 0) 46
  obtain ⟨W0, hW0⟩ : ∃ W, W = w.alloc (.cells #[.int .i64 0, .slice none 0 0] 46) := ⟨_, rfl⟩
  have hz0 : W0.heap.size = w.heap.size + 1 := by rw [hW0]; simp
  rw [← hW0] at ga hc0 hv0 T0
  have HB := hidP (cBelow q ao n cap 6 W0 hc0 hv0 hn (by omega) (by omega))
  go_enter Tryz.func77, Tryz.ntmps77
  go_wp2_with fail
  rw [← hW0]
  clear hW0
  refine HB.out.mono ?_
  rintro e w1 ⟨⟨y, y0, y1, rfl⟩, c1, g1⟩
  have v1 := hv0.grown hc0 g1
  have hx1 : IntKind.i64.wrap (1 + y) = 1 + y := IntWalk.i64_in _ ⟨by omega, by omega⟩
  have HM := hidP (cMarksAny q ao n cap 8 w1 c1 v1 hn (by omega) (by omega))
  have hz1 := g1.size
  have T1 : Two w1 w.heap.size (.int .i64 0) (.slice none 0 0) 46 := (g1.block _ (by omega) (by simp; omega)).trans T0
  have g01 := grown_trans ga g1
  clear HB hc0 hv0 T0 ga g1
  go_wp2_with fail
  refine HM.out.mono ?_
  rintro e w2 ⟨⟨g, c, ms, rfl, hnew⟩, c2, g2⟩
  have v2 := v1.grown c1 g2
  have hz2 := g2.size
  have g02 := grown_trans g01 g2
  have T2 : Two w2 w.heap.size (.int .i64 0) (.slice none 0 0) 46 := (g2.block _ (by omega) (by simp; omega)).trans T1
  obtain ⟨W3, hW3⟩ : ∃ W, W = w2.alloc (.cells #[.int .i64 (1 + y), .slice (some ⟨g, 0, none⟩) ms.length c] 46) := ⟨_, rfl⟩
  have ga3 := World.grownBy_alloc w2 (.cells #[.int .i64 (1 + y), .slice (some ⟨g, 0, none⟩) ms.length c] 46) (some q)
  have hc3 := c2.alloc (.cells #[.int .i64 (1 + y), .slice (some ⟨g, 0, none⟩) ms.length c] 46)
  have A3 := Two.new w2 (.int .i64 (1 + y)) (.slice (some ⟨g, 0, none⟩) ms.length c) 46
  have hz3 : W3.heap.size = w2.heap.size + 1 := by rw [hW3]; simp
  rw [← hW3] at ga3 hc3 A3
  have v3 := v2.grown c2 ga3
  have T3 : Two W3 w.heap.size (.int .i64 0) (.slice none 0 0) 46 := (ga3.block _ (by omega) (by simp; omega)).trans T2
  have K3 : Kin w1.heap.size w2.heap.size w2 W3 := (Kin.refl _ _ _).grown (Nat.le_refl _) ga3 (fun k e => by cases e; omega)
  have g03 := grown_trans g02 ga3
  have HO := hidP (cOnce q ao n cap 14 W3 hc3 v3 hn (by omega) (by omega))
  clear HM c1 v1 T1 T2 g2 c2 v2 ga3 g01 g02
  go_wp2_with fail
  rw [← hW3]
  clear hW3
  refine HO.out.mono ?_
  rintro e w4 ⟨⟨x, rfl⟩, c4, g4⟩
  have v4 := v3.grown hc3 g4
  have hz4 := g4.size
  have T4 : Two w4 w.heap.size (.int .i64 0) (.slice none 0 0) 46 := (g4.block _ (by omega) (by simp; omega)).trans T3
  have A4 : Two w4 w2.heap.size (.int .i64 (1 + y)) (.slice (some ⟨g, 0, none⟩) ms.length c) 46 := (g4.block _ (by omega) (by simp; omega)).trans A3
  have K4 := K3.grown (Nat.le_refl _) g4 (fun k e => by cases e; omega)
  have g04 := grown_trans g03 g4
  clear HO hc3 v3 T3 A3 K3 g03 g4
  /- the end: what the two stores into the answer's block leave -/
  have HEND : Hid (∀ (s : Int) (w5 : World), Two w5 w.heap.size (.int .i64 0) (.slice none 0 0) 46 → Kin w1.heap.size w2.heap.size w2 w5 → Cur w5 q ao n cap → w.grownBy w5 (some q) → ∀ W6, W6 = (w5.setCell ⟨w.heap.size, 0, none⟩ (.int .i64 s)).setCell ⟨w.heap.size, 1, none⟩ (.slice (some ⟨g, 0, none⟩) ms.length c) → (Two W6 w.heap.size (.int .i64 s) (.slice (some ⟨g, 0, none⟩) ms.length c) 46) ∧ MNew w1.heap.size W6 g c ms 8 ∧ Cur W6 q ao n cap ∧ w.grownBy W6 (some q)) := fun s w5 t5 k5 c5 g5 W6 e6 => by
    have s1 := grown_setCell w5 w.heap.size 0 (.int .i64 s)
    have s2 := grown_setCell (w5.setCell ⟨w.heap.size, 0, none⟩ (.int .i64 s)) w.heap.size 1 (.slice (some ⟨g, 0, none⟩) ms.length c)
    rw [← e6] at s2
    have k6 := (k5.grown (Nat.le_refl _) s1 (fun k e => by cases e; omega)).grown (Nat.le_refl _) s2 (fun k e => by cases e; omega)
    refine ⟨by rw [e6]; exact (t5.set0 _).set1 _, hnew.kin k6, (c5.grown s1 (by simp; omega)).grown s2 (by simp; omega), grown_far (grown_far g5 s1 (by intro k hk; cases hk; omega)) s2 (by intro k hk; cases hk; omega)⟩
  have hb1 : w.heap.size ≤ w1.heap.size := by omega
  clear hnew
  cases x with
  | false =>
    have E := hidP (HEND.out (1 + y) w4 T4 K4 c4 g04 _ rfl)
    have a0 := A4.c0
    have a1 := A4.c1
    have t0 := T4.c0
    have t1 := T4.c1
    have f0 := T4.frozen 0
    have f1 := T4.frozen 1
    have k0 := E.out.1.c0
    have k1 := E.out.1.c1
    clear HEND T4 A4 K4 c4 v4 g04
    go_wp2_with fail
    refine bodyPost_ret (v := .agg #[.int .i64 (1 + y), .slice (some ⟨g, 0, none⟩) ms.length c]) (by simp [results, Tryz.results77, go_sem, k0, k1]) rfl ?_
    exact ⟨⟨_, g, c, ms, w1.heap.size, rfl, hb1, E.out.2.1⟩, E.out.2.2⟩
  | true =>
    obtain ⟨W5, hW5⟩ : ∃ W, W = w4.alloc (.cells #[.int .i64 0, .int .i64 (-1), .int .i64 1000, .int .i64 1001] 2) := ⟨_, rfl⟩
    have ga5 := World.grownBy_alloc w4 (.cells #[.int .i64 0, .int .i64 (-1), .int .i64 1000, .int .i64 1001] 2) (some q)
    have hc5 := c4.alloc (.cells #[.int .i64 0, .int .i64 (-1), .int .i64 1000, .int .i64 1001] 2)
    have hL5 := heap_alloc_new w4 (.cells #[.int .i64 0, .int .i64 (-1), .int .i64 1000, .int .i64 1001] 2)
    have hz5 : W5.heap.size = w4.heap.size + 1 := by rw [hW5]; simp
    rw [← hW5] at ga5 hc5 hL5
    have v5 := v4.grown c4 ga5
    have HB2 := hidP (cBelow q ao n cap 4 W5 hc5 v5 hn (by omega) (by omega))
    go_wp2_with fail
    rw [← hW5]
    clear hW5
    refine HB2.out.mono ?_
    rintro e w6 ⟨⟨u, u0, u1, rfl⟩, c6, g6⟩
    obtain ⟨un, rfl⟩ := Int.eq_ofNat_of_zero_le u0
    obtain ⟨v, hv3⟩ := side_at un (by omega)
    have g46 := grown_trans ga5 g6
    have hlit : w6.cell? ⟨w4.heap.size, un, none⟩ = some (.int .i64 v) := by
      have hb : w6.heap[w4.heap.size]? = _ := (g6.block _ (by omega) (by simp; omega)).trans hL5
      simp only [World.cell?, hb]
      exact hv3
    have T6 : Two w6 w.heap.size (.int .i64 0) (.slice none 0 0) 46 := (g46.block _ (by omega) (by simp; omega)).trans T4
    have A6 : Two w6 w2.heap.size (.int .i64 (1 + y)) (.slice (some ⟨g, 0, none⟩) ms.length c) 46 := (g46.block _ (by omega) (by simp; omega)).trans A4
    have K6 := K4.grown (Nat.le_refl _) g46 (fun k e => by cases e; omega)
    have g06 := grown_trans g04 g46
    have s7 := grown_setCell w6 w2.heap.size 0 (.int .i64 v)
    have A7 := A6.set0 (.int .i64 v)
    have T7 : Two (w6.setCell ⟨w2.heap.size, 0, none⟩ (.int .i64 v)) w.heap.size (.int .i64 0) (.slice none 0 0) 46 := (s7.block _ (by have := g06.size; have := T6.lt; omega) (by simp; omega)).trans T6
    have K7 := K6.grown (Nat.le_refl _) s7 (fun k e => by cases e; exact Or.inr (Nat.le_refl _))
    have c7 := c6.grown s7 (by simp; omega)
    have g07 := grown_far g06 s7 (by intro k hk; cases hk; omega)
    have E := hidP (HEND.out v _ T7 K7 c7 g07 _ rfl)
    have b0 := A6.c0
    have fb := A6.frozen 0
    have a0 := A7.c0
    have a1 := A7.c1
    have t0 := T7.c0
    have t1 := T7.c1
    have f0 := T7.frozen 0
    have f1 := T7.frozen 1
    have k0 := E.out.1.c0
    have k1 := E.out.1.c1
    have hu2 : (un : Int) < 4 := by omega
    clear HEND T4 A4 K4 c4 v4 g04 T6 A6 K6 g06 s7 A7 T7 K7 c7 g07 HB2 ga5 hc5 hL5 v5 g46 g6 c6 hz5 hv3
    go_wp2_with fail
    refine bodyPost_ret (v := .agg #[.int .i64 v, .slice (some ⟨g, 0, none⟩) ms.length c]) (by simp [results, Tryz.results77, go_sem, k0, k1]) rfl ?_
    exact ⟨⟨_, g, c, ms, w1.heap.size, rfl, hb1, E.out.2.1⟩, E.out.2.2⟩

set_option maxRecDepth 100000 in
set_option maxHeartbeats 2000000 in
theorem cCellsD (ao : Option Addr) (n cap : Nat) (w : World) (hv : CodeV w ao n) (hn : n ≤ 4096) :
    Calls Tryz.prog 23 #[.slice ao n cap] w fun e w' => ∃ s a c ms, e = .returned (.agg #[.int .i64 s, .slice a ms.length c]) ∧ MView w' a ms ∧ MSmall ms ∧ ms.length ≤ 8 ∧ Below w.heap.size w w' := by
  obtain ⟨W0, hW0⟩ : ∃ W, W = w.alloc (.cells #[.int .i64 0, .slice none 0 0] 46) := ⟨_, rfl⟩
  have L0 : Below w.heap.size w W0 := by rw [hW0]; exact alloc_below w _
  have T0 : Two W0 w.heap.size (.int .i64 0) (.slice none 0 0) 46 := by rw [hW0]; exact Two.new w _ _ _
  have hz0 : W0.heap.size = w.heap.size + 1 := by rw [hW0]; simp
  have HZ0 := hidP hz0
  clear hz0
  have HN := hidP (cNew ao n cap W0 (hv.below (Nat.le_refl _) L0) hn)
  have HV0 := hidP (hv.below (Nat.le_refl _) L0)
  go_enter Tryz.func23, Tryz.ntmps23
  go_wp2_with fail
  rw [← hW0]
  clear hW0
  refine HN.out.mono ?_
  rintro e w1 ⟨rfl, c1, L1⟩
  have hv1 := HV0.out.below (Nat.le_refl _) L1
  have HD := hidP (c7Draw _ ao n cap w1 c1 hv1 hn)
  have T1 := T0.below L1
  go_wp2_with fail
  refine HD.out.mono ?_
  rintro e w2 ⟨⟨s, g, c, ms, base, rfl, hb, hnew⟩, c2, g2⟩
  have hz0 := HZ0.out
  have hz1 := c1.lt
  have T2 : Two w2 w.heap.size (.int .i64 0) (.slice none 0 0) 46 := (g2.block _ (by omega) (by simp; omega)).trans T1
  have L2 : Below W0.heap.size W0 w2 := L1.grown g2 L1.size (by intro k hk; cases hk; exact Nat.le_refl _)
  have L02 := chain L0 L2
  have s1 := grown_setCell w2 w.heap.size 0 (.int .i64 s)
  have s2 := grown_setCell (w2.setCell ⟨w.heap.size, 0, none⟩ (.int .i64 s)) w.heap.size 1 (.slice (some ⟨g, 0, none⟩) ms.length c)
  have T3 := (T2.set0 (.int .i64 s)).set1 (.slice (some ⟨g, 0, none⟩) ms.length c)
  have hnew3 := (hnew.kept s1 (by intro k hk; cases hk; omega)).kept s2 (by intro k hk; cases hk; omega)
  have L3 := (L02.grown s1 L02.size (by intro k hk; cases hk; exact Nat.le_refl _)).grown s2 (by rw [setCell_size]; exact L02.size) (by intro k hk; cases hk; exact Nat.le_refl _)
  have HE := hidP (And.intro hnew3 L3)
  have t0 := T2.c0
  have t1 := T2.c1
  have f0 := T2.frozen 0
  have f1 := T2.frozen 1
  have k0 := T3.c0
  have k1 := T3.c1
  clear hnew hnew3 L3 s1 s2 L2 L02 T1 T2 T3 c1 c2 g2 hv1 HD HN L1 hz0 hz1
  go_wp2_with fail
  refine bodyPost_ret (v := .agg #[.int .i64 s, .slice (some ⟨g, 0, none⟩) ms.length c]) (by simp [results, Tryz.results23, go_sem, k0, k1]) rfl ?_
  exact ⟨s, _, c, ms, rfl, HE.out.1.view, HE.out.1.small (by omega), by have := HE.out.1.1; omega, HE.out.2⟩

end Go.Proofs.YtodielfilhodeaaGreat
