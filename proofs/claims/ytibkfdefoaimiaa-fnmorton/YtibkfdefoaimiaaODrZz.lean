/-
  The given draws of points on the line.
-/
import Derived.Test.YtibkfdefoaimiaaODrawZz
import Derived.Test.YtibkfdefoaimiaaOUnwZz
import Derived.Test.YtibkfdefoaimiaaOBelZz
namespace Go.Proofs.Ytibkfdefoaimiaa
open Go Go.RowKit

theorem line_at4 (y : Nat) (h : y < 4) : ∃ v, (#[.int .i64 (-1), .int .i64 1023, .int .i64 1024, .int .i64 4611686018427387904] : Array Value)[y]? = some (.int .i64 v) := by
  rcases (show y = 0 ∨ y = 1 ∨ y = 2 ∨ y = 3 by omega) with rfl | rfl | rfl | rfl <;> exact ⟨_, rfl⟩

set_option maxRecDepth 100000 in
set_option maxHeartbeats 1000000 in
theorem c8Draw (q : Nat) (ao : Option Addr) (n cap m : Nat) (w : World) (hc : Cur w q ao n cap) (hv : CodeV w ao n) (hn : n ≤ 4096) (hm : m ≤ 100) :
    Calls Try.prog 37 #[.pointer (some ⟨q, 0, none⟩), .int .i64 m] w fun e w' => (∃ g c xs, e = .returned (.slice (some ⟨g, 0, none⟩) xs.length c) ∧ xs.length = m ∧ Row w.heap.size w' g c xs) ∧ Cur w' q ao n cap ∧ w.grownBy w' (some q) := by
  have hq := hc.lt
  obtain ⟨i0, hi0, hz0, hz1, hz2⟩ := info_parts Try.info2
  go_enter Try.func37, Try.ntmps37
  go_wp2_with fail
  go_loopw [1, 5] (fun s v wr => ∃ (xs : List Int) (g c : Nat), xs.length ≤ m ∧ s = .int .i64 ((m : Int) - xs.length) ∧ v = .slice (some ⟨g, 0, none⟩) xs.length c ∧ Row w.heap.size wr g c xs ∧ Cur wr q ao n cap ∧ w.grownBy wr (some q)) (fun s _ _ => (intOf s).toNat)
  case atStart =>
    exact ⟨[], w.heap.size, 0, Nat.zero_le _, by simp, rfl, World.ownsRow_lit w #[] 0 (Nat.le_refl _) (Nat.zero_le _) rfl, hc.alloc _, World.grownBy_alloc w _ _⟩
  case round =>
    obtain ⟨xs, g, c, hk, rfl, rfl, hrow, hcr, hg⟩ := hrel
    have hvr := hv.grown hc hg
    have hgl := hrow.lt g rfl
    by_cases hlt : xs.length < m
    · go_wp2_with fail
      refine (cBelowM q ao n cap 10 _ hcr hvr hn (by omega)).mono ?_
      rintro e w0 ⟨⟨y, hy0, hy1, rfl⟩, c0, g0⟩
      have hv0 := hvr.grown hcr g0
      obtain ⟨y', rfl⟩ : ∃ y' : Nat, y = (y' : Int) := ⟨y.toNat, by omega⟩
      go_wp2_with fail
      refine (cBelowM q ao n cap _ _ c0 hv0 hn (two_wrap (by omega)).1).mono ?_
      rintro e w1 ⟨⟨x, hx0, hx1, rfl⟩, c1, g1'⟩
      have g1 := grown_trans g0 g1'
      have hrow1 : Row w.heap.size w1 g c xs := World.ownsRow.kept hrow g1 (Or.inr (by simp [Value.ownBlock]; omega))
      have hs1 := g1.size
      clear hrow hcr hvr hv0 c0 g0 g1' hx0 hx1
      go_wp2_with (at_builtin; refine wpList_append_lies _ rfl (.tmp 11) (.tmp 19) 24 rfl w.heap.size 2 i0 _ 1 8 Try.underlying24 hi0 hz0 hz1 hz2 rfl (by omega) (.slice (some ⟨g, 0, none⟩) xs.length c) xs.length (xs.map (Value.int .i64)) rfl (World.ownsRow.alloc hrow1 _) ⟨w1.heap.size, 0, none⟩ 1 1 [.int .i64 x] rfl rfl (World.news_of_block (cs := #[.int .i64 x]) (t := 2) (fr := (0, 0)) (heap_alloc_new w1 _)) (by simp [Value.oneCell']) (by omega) (by unfold maxLen; omega) (by omega) (by simp; omega) (w1.heap.size + 1) (by simp) ?_; intro gg cc w2 hown2 hgrow hat hlt1)
      go_wp2
      go_roundw
      case rel =>
        refine ⟨xs ++ [x], gg, cc, by simp; omega, ?_, ?_, ?_, ?_, ?_⟩
        · rw [List.length_append, List.length_singleton, show ((xs.length + 1 : Nat) : Int) = (xs.length : Int) + 1 by omega]; congr 1; omega
        · rw [List.length_append, List.length_singleton]
        · unfold Row; rw [List.length_append, List.length_singleton, List.map_append]; exact hown2
        · exact (c1.alloc _).grown hgrow (by simp [Value.ownBlock]; omega)
        · exact grown_far (grown_far (grown_trans hg g1) (World.grownBy_alloc w1 _ none) (by simp)) hgrow (by intro k hk; simp [Value.ownBlock] at hk; omega)
      case measure => simp [intOf]; omega
    · have hml : xs.length = m := by omega
      go_wp2_with fail
      refine (cOnce q ao n cap 14 _ hcr hvr hn (by omega) (by omega)).mono ?_
      rintro e w1 ⟨⟨x, rfl⟩, c1, g1⟩
      have hrow1 : Row w.heap.size w1 g c xs := World.ownsRow.kept hrow g1 (Or.inr (by simp [Value.ownBlock]; omega))
      have hg1 := grown_trans hg g1
      have hv1 := hv.grown hc hg1
      have hs1 := g1.size
      have HM := hideP hml
      clear hrow hcr hvr g1 hg hml
      cases x with
      | false =>
        go_wp2_with fail
        go_ret
        exact ⟨⟨g, c, xs, rfl, HM.out, hrow1⟩, c1, hg1⟩
      | true =>
        by_cases h0 : xs.length = 0
        · have h0b : ¬ ((0 : Int) < (xs.length : Int)) := by omega
          have H0 := hideP h0
          clear h0
          go_wp2_with fail
          go_ret
          exact ⟨⟨g, c, xs, rfl, HM.out, hrow1⟩, c1, hg1⟩
        · have h0b : (0 : Int) < (xs.length : Int) := by omega
          go_wp2_with fail
          refine (cBelow q ao n cap 4 _ (c1.alloc _) (hv.grown hc (grown_far hg1 (World.grownBy_alloc w1 _ none) (by simp))) hn (by omega) (by omega)).mono ?_
          rintro e w2 ⟨⟨y, hy0, hy1, rfl⟩, c2, g2⟩
          obtain ⟨yn, rfl⟩ := Int.eq_ofNat_of_zero_le hy0
          obtain ⟨v, hv6⟩ := line_at4 yn (by omega)
          have ht : w2.cell? ⟨w1.heap.size, yn, none⟩ = some (.int .i64 v) := g2.cell (by rw [World.cell?_alloc_at _ _ _ _ rfl]; exact hv6) (by simp; omega)
          have hrow2 : Row w.heap.size w2 g c xs := World.ownsRow.kept (World.ownsRow.alloc hrow1 _) g2 (Or.inr (by simp [Value.ownBlock]; omega))
          have hl0 : 0 < (xs.map (Value.int .i64)).length := by simp; omega
          have hcg := World.ownsRow.cellAt hrow2 0 (by omega)
          rw [List.getElem?_eq_getElem hl0] at hcg
          have hfg := World.ownsRow.frozenAt hrow2 0
          have R := World.ownsRow.stored hrow2 0 (.int .i64 v)
          have HR := hideP R
          clear R
          have hy2 : (yn : Int) < 4 := by omega
          have hgw := grown_far (grown_trans hg1 (grown_refl _ _)) (World.grownBy_alloc w1 (.cells #[.int .i64 (-1), .int .i64 1023, .int .i64 1024, .int .i64 4611686018427387904] 2) none) (by simp)
          have hgw2 := grown_trans hgw g2
          clear g2 hgw hg1 hrow1
          go_wp2_with fail
          go_ret
          have e1 : (xs.set 0 v).length = xs.length := by simp
          refine ⟨⟨g, c, xs.set 0 v, ?_, by rw [e1]; exact HM.out, ?_⟩, ?_, ?_⟩
          · rw [e1]; rfl
          · unfold Row; rw [e1, List.map_set]; exact HR.out.1
          · exact c2.grown HR.out.2 (by simp; omega)
          · exact grown_far hgw2 HR.out.2 (by intro k hk; cases hk; omega)


set_option maxHeartbeats 1000000 in
theorem cWeaveD (ao : Option Addr) (n cap : Nat) (w : World) (hv : CodeV w ao n) (hn : n ≤ 4096) :
    Calls Try.prog 11 #[.slice ao n cap] w fun e w' => (∃ g c xs, e = .returned (.slice (some ⟨g, 0, none⟩) xs.length c) ∧ xs.length ≤ 5 ∧ View w' (some ⟨g, 0, none⟩) xs) ∧ Below w.heap.size w w' := by
  go_enter Try.func11, Try.ntmps11
  go_wp2_with fail
  refine (cNew ao n cap _ hv hn).mono ?_
  rintro e w1 ⟨rfl, c1, L1⟩
  have hv1 := hv.below (Nat.le_refl _) L1
  go_wp2_with fail
  refine (cBelow _ ao n cap 6 _ c1 hv1 hn (by omega) (by omega)).mono ?_
  rintro e w2 ⟨⟨y, hy0, hy1, rfl⟩, c2, g2⟩
  have L2 : Below w.heap.size w w2 := L1.grown g2 L1.size (by intro k hk; cases hk; exact Nat.le_refl _)
  have hv2 := hv1.grown c1 g2
  clear hv1 c1 g2 L1
  obtain ⟨y', rfl⟩ : ∃ y' : Nat, y = (y' : Int) := ⟨y.toNat, by omega⟩
  go_wp2_with fail
  refine (c8Draw w.heap.size ao n cap y' _ c2 hv2 hn (by omega)).mono ?_
  rintro e w3 ⟨⟨g, c, xs, rfl, hl, hrow⟩, c3, g3⟩
  have L3 : Below w.heap.size w w3 := L2.grown g3 L2.size (by intro k hk; cases hk; exact Nat.le_refl _)
  go_wp2_with fail
  go_ret
  exact ⟨⟨g, c, xs, by rw [hl]; rfl, by omega, hrow.view⟩, L3⟩

theorem code_at4 (y : Nat) (h : y < 4) : ∃ v, (#[.int .i64 (-1), .int .i64 1099511627775, .int .i64 1099511627776, .int .i64 1048576] : Array Value)[y]? = some (.int .i64 v) := by
  rcases (show y = 0 ∨ y = 1 ∨ y = 2 ∨ y = 3 by omega) with rfl | rfl | rfl | rfl <;> exact ⟨_, rfl⟩

set_option maxRecDepth 100000 in
set_option maxHeartbeats 1000000 in
theorem cUnwD (ao : Option Addr) (n cap : Nat) (w : World) (hv : CodeV w ao n) (hn : n ≤ 4096) :
    Calls Try.prog 13 #[.slice ao n cap] w fun e w' => (∃ a b : Int, e = .returned (.tuple #[.int .i64 a, .int .i64 b])) ∧ Below w.heap.size w w' := by
  go_enter Try.func13, Try.ntmps13
  go_wp2_with fail
  refine (cNew ao n cap _ hv hn).mono ?_
  rintro e w1 ⟨rfl, c1, L1⟩
  have hv1 := hv.below (Nat.le_refl _) L1
  go_wp2_with fail
  refine (cFrom _ ao n cap 0 6 _ c1 hv1 hn (by omega) (by omega) (by omega) (by omega)).mono ?_
  rintro e w2 ⟨⟨y, hy0, hy1, rfl⟩, c2, g2⟩
  have L2 : Below w.heap.size w w2 := L1.grown g2 L1.size (by intro k hk; cases hk; exact Nat.le_refl _)
  have hv2 := hv1.grown c1 g2
  clear hv1 c1 g2 L1
  obtain ⟨m', hm'⟩ : ∃ m' : Nat, max 1 y = (m' : Int) := ⟨(max 1 y).toNat, by omega⟩
  have hm6 : m' ≤ 6 := by omega
  have HX : Hid (∀ W, Calls Try.prog 42 #[.int .i64 1, .int .i64 y] W fun e w' => e = .returned (.int .i64 (m' : Int)) ∧ w' = W) := fun W => by
    have := oMax 1 y W
    rwa [hm'] at this
  clear hm'
  go_wp2_with fail
  refine (HX.out _).mono ?_
  rintro e w2' ⟨rfl, hw2⟩
  obtain rfl := hw2.symm
  go_wp2_with fail
  refine (c8Draw w.heap.size ao n cap m' _ c2 hv2 hn (by omega)).mono ?_
  rintro e w3 ⟨⟨g, c, xs, rfl, hl, hrow⟩, c3, g3⟩
  have L3 : Below w.heap.size w w3 := L2.grown g3 L2.size (by intro k hk; cases hk; exact Nat.le_refl _)
  have hv3 := hv2.grown c2 g3
  have hl6 : xs.length ≤ 6 := by omega
  clear hv2 c2 g3 L2 hl
  go_wp2_with fail
  refine (sWeave _ c xs _ hrow.view (by omega)).mono ?_
  rintro e w4 ⟨rfl, hw4⟩
  obtain rfl := hw4.symm
  generalize weaveV xs = cv
  clear hrow hl6
  go_wp2_with fail
  refine (cOnce _ ao n cap 8 _ c3 hv3 hn (by omega) (by omega)).mono ?_
  rintro e w6 ⟨⟨t, rfl⟩, c6, g6⟩
  have L6 : Below w.heap.size w w6 := L3.grown g6 L3.size (by intro k hk; cases hk; exact Nat.le_refl _)
  have hv6 := hv3.grown c3 g6
  clear hv3 c3 g6 L3
  cases t with
  | false =>
    go_wp2_with fail
    go_ret2
    exact ⟨⟨_, _, rfl⟩, L6⟩
  | true =>
    go_wp2_with fail
    refine (cBelow _ ao n cap 4 _ (c6.alloc _) (hv6.below (Nat.le_refl _) ((Below.refl _ _).alloc (Nat.le_refl _) _)) hn (by omega) (by omega)).mono ?_
    rintro e w7 ⟨⟨y2, hz0, hz1, rfl⟩, c7, g7⟩
    obtain ⟨y3, rfl⟩ : ∃ y' : Nat, y2 = (y' : Int) := ⟨y2.toNat, by omega⟩
    have hy3 : y3 < 4 := by omega
    have hlt6 := c6.lt
    obtain ⟨v, hvv⟩ := code_at4 y3 hy3
    have hcell : w7.cell? ⟨w6.heap.size, y3, none⟩ = some (.int .i64 v) := by
      refine g7.cell ?_ (by simp; omega)
      rw [World.cell?_alloc_at _ _ _ _ rfl]
      exact hvv
    have L7 : Below w.heap.size w w7 := (L6.alloc L6.size _).grown g7 (by have := L6.size; simp; omega) (by intro k hk; cases hk; exact Nat.le_refl _)
    go_wp2_with fail
    go_ret2
    exact ⟨⟨_, _, rfl⟩, L7⟩
end Go.Proofs.Ytibkfdefoaimiaa
