/-
  The laws' draws of points: whatever the bytes are, each draw hands back rows of new memory, of at most five numbers.
-/
import Derived.Test.YthkaiienfkihmaaCur
namespace Go.Proofs.Ythkaiienfkihmaa
open Go Go.RowKit

theorem Cur.lt {w : World} {q : Nat} {ao : Option Addr} {n cap : Nat} (h : Cur w q ao n cap) : q < w.heap.size := by
  obtain ⟨i, x, _, h⟩ := h
  rcases Nat.lt_or_ge q w.heap.size with h1 | h1
  · exact h1
  · rw [Array.getElem?_eq_none h1] at h; cases h
theorem Cur.grown {w w' : World} {q : Nat} {r : Option Nat} {ao : Option Addr} {n cap : Nat} (h : Cur w q ao n cap) (hg : w.grownBy w' r) (hne : some q ≠ r) : Cur w' q ao n cap := by
  have := h.lt
  obtain ⟨i, x, hi, hb⟩ := h
  exact ⟨i, x, hi, (hg.block q this hne).trans hb⟩
theorem Cur.alloc {w : World} {q : Nat} {ao : Option Addr} {n cap : Nat} (h : Cur w q ao n cap) (o : Obj) : Cur (w.alloc o) q ao n cap := h.grown (World.grownBy_alloc w o none) (by simp)
theorem Cur.drew {w : World} {q : Nat} {ao : Option Addr} {n cap : Nat} (h : Cur w q ao n cap) : Cur w.drew q ao n cap := h
/-- Behind a step that writes into a row of the call's own alone. -/
theorem grown_far {w w1 w2 : World} {q : Nat} {r : Option Nat} (h : w.grownBy w1 (some q)) (k : w1.grownBy w2 r) (hr : ∀ g, r = some g → w.heap.size ≤ g) : w.grownBy w2 (some q) :=
  ⟨k.os.trans h.os, k.tape.trans h.tape, k.output.trans h.output, Nat.le_trans h.size k.size, fun i hi hne => (k.block i (Nat.lt_of_lt_of_le hi h.size) (fun e => by have := hr i e.symm; omega)).trans (h.block i hi hne)⟩

theorem six_at (y : Nat) (h : y < 6) : ∃ v, (#[.int .i64 1000, .int .i64 (-1000), .int .i64 1001, .int .i64 (-1001), .int .i64 4611686018427387904, .int .i64 (-9223372036854775808)] : Array Value)[y]? = some (.int .i64 v) := by
  match y, h with
  | 0, _ => exact ⟨_, rfl⟩
  | 1, _ => exact ⟨_, rfl⟩
  | 2, _ => exact ⟨_, rfl⟩
  | 3, _ => exact ⟨_, rfl⟩
  | 4, _ => exact ⟨_, rfl⟩
  | 5, _ => exact ⟨_, rfl⟩

/-- What a draw of numbers hands back: a row of its own, from block base on. -/
def Row (base : Nat) (w : World) (g c : Nat) (xs : List Int) : Prop := w.ownsRow base 2 1 (.slice (some ⟨g, 0, none⟩) xs.length c) xs.length (xs.map (Value.int .i64))

set_option maxRecDepth 100000 in
set_option maxHeartbeats 1000000 in
theorem cPoint (q : Nat) (ao : Option Addr) (n cap m : Nat) (w : World) (hc : Cur w q ao n cap) (hv : CodeV w ao n) (hn : n ≤ 4096) (hm : m ≤ 100) :
    Calls Try.prog 59 #[.pointer (some ⟨q, 0, none⟩), .int .i64 m] w fun e w' => (∃ g c xs, e = .returned (.slice (some ⟨g, 0, none⟩) xs.length c) ∧ xs.length = m ∧ Row w.heap.size w' g c xs) ∧ Cur w' q ao n cap ∧ w.grownBy w' (some q) := by
  have hq := hc.lt
  obtain ⟨i0, hi0, hz0, hz1, hz2⟩ := info_parts Try.info2
  go_enter Try.func59, Try.ntmps59
  go_wp2_with fail
  go_loopw [1, 5] (fun s v wr => ∃ (xs : List Int) (g c : Nat), xs.length ≤ m ∧ s = .int .i64 ((m : Int) - xs.length) ∧ v = .slice (some ⟨g, 0, none⟩) xs.length c ∧ Row w.heap.size wr g c xs ∧ Cur wr q ao n cap ∧ w.grownBy wr (some q)) (fun s _ _ => (intOf s).toNat)
  case atStart =>
    exact ⟨[], w.heap.size, 0, Nat.zero_le _, by simp, rfl, World.ownsRow_lit w #[] 0 (Nat.le_refl _) (Nat.zero_le _) rfl, hc.alloc _, World.grownBy_alloc w _ _⟩
  case round =>
    obtain ⟨xs, g, c, hk, rfl, rfl, hrow, hcr, hg⟩ := hrel
    have hvr := hv.grown hc hg
    have hgl := hrow.lt g rfl
    by_cases hlt : xs.length < m
    · go_wp2_with fail
      refine (cFrom q ao n cap (-6) 13 _ hcr hvr hn (by omega) (by omega) (by omega) (by omega)).mono ?_
      rintro e w1 ⟨⟨x, hx0, hx1, rfl⟩, c1, g1⟩
      have hrow1 : Row w.heap.size w1 g c xs := World.ownsRow.kept hrow g1 (Or.inr (by simp [Value.ownBlock]; omega))
      have hs1 := g1.size
      clear hrow hcr hvr
      go_wp2_with (at_builtin; refine wpList_append_lies _ rfl (.tmp 11) (.tmp 14) 24 rfl w.heap.size 2 i0 _ 1 8 Try.underlying24 hi0 hz0 hz1 hz2 rfl (by omega) (.slice (some ⟨g, 0, none⟩) xs.length c) xs.length (xs.map (Value.int .i64)) rfl (World.ownsRow.alloc hrow1 _) ⟨w1.heap.size, 0, none⟩ 1 1 [.int .i64 x] rfl rfl (World.news_of_block (cs := #[.int .i64 x]) (t := 2) (fr := (0, 0)) (heap_alloc_new w1 _)) (by simp [Value.oneCell']) (by omega) (by unfold maxLen; omega) (by omega) (by simp; omega) (w1.heap.size + 1) (by simp) ?_; intro gg cc w2 hown2 hgrow hat hlt1)
      go_wp2
      go_roundw
      case rel =>
        refine ⟨xs ++ [x], gg, cc, by simp; omega, ?_, ?_, ?_, ?_, ?_⟩
        · rw [List.length_append, List.length_singleton, show ((xs.length + 1 : Nat) : Int) = (xs.length : Int) + 1 by omega]; congr 1; omega
        · rw [List.length_append, List.length_singleton]
        · unfold Row; rw [List.length_append, List.length_singleton, List.map_append]; exact hown2
        · exact (c1.alloc _).grown hgrow (by simp [Value.ownBlock]; omega)
        · exact grown_far (grown_far (grown_trans hg g1) (World.grownBy_alloc w1 _ none) (by simp)) hgrow (by intro k hk; simp [Value.ownBlock] at hk; omega)
      case measure => simp [intOf]; omega
    · have hml : xs.length = m := by omega
      go_wp2_with fail
      refine (cOnce q ao n cap 20 _ hcr hvr hn (by omega) (by omega)).mono ?_
      rintro e w1 ⟨⟨x, rfl⟩, c1, g1⟩
      have hrow1 : Row w.heap.size w1 g c xs := World.ownsRow.kept hrow g1 (Or.inr (by simp [Value.ownBlock]; omega))
      have hg1 := grown_trans hg g1
      have hv1 := hv.grown hc hg1
      have hs1 := g1.size
      have HM := hideP hml
      clear hrow hcr hvr g1 hg hml
      cases x with
      | false =>
        go_wp2_with fail
        go_ret
        exact ⟨⟨g, c, xs, rfl, HM.out, hrow1⟩, c1, hg1⟩
      | true =>
        by_cases h0 : xs.length = 0
        · have h0b : ¬ ((0 : Int) < (xs.length : Int)) := by omega
          have H0 := hideP h0
          clear h0
          go_wp2_with fail
          go_ret
          exact ⟨⟨g, c, xs, rfl, HM.out, hrow1⟩, c1, hg1⟩
        · have h0b : (0 : Int) < (xs.length : Int) := by omega
          go_wp2_with fail
          refine (cBelow q ao n cap 6 _ (c1.alloc _) (hv.grown hc (grown_far hg1 (World.grownBy_alloc w1 _ none) (by simp))) hn (by omega) (by omega)).mono ?_
          rintro e w2 ⟨⟨y, hy0, hy1, rfl⟩, c2, g2⟩
          obtain ⟨yn, rfl⟩ := Int.eq_ofNat_of_zero_le hy0
          obtain ⟨v, hv6⟩ := six_at yn (by omega)
          have ht : w2.cell? ⟨w1.heap.size, yn, none⟩ = some (.int .i64 v) := g2.cell (by rw [World.cell?_alloc_at _ _ _ _ rfl]; exact hv6) (by simp; omega)
          have hrow2 : Row w.heap.size w2 g c xs := World.ownsRow.kept (World.ownsRow.alloc hrow1 _) g2 (Or.inr (by simp [Value.ownBlock]; omega))
          have hl0 : 0 < (xs.map (Value.int .i64)).length := by simp; omega
          have hcg := World.ownsRow.cellAt hrow2 0 (by omega)
          rw [List.getElem?_eq_getElem hl0] at hcg
          have hfg := World.ownsRow.frozenAt hrow2 0
          have R := World.ownsRow.stored hrow2 0 (.int .i64 v)
          have HR := hideP R
          clear R
          have hy2 : (yn : Int) < 6 := by omega
          have hgw := grown_far (grown_trans hg1 (grown_refl _ _)) (World.grownBy_alloc w1 (.cells #[.int .i64 1000, .int .i64 (-1000), .int .i64 1001, .int .i64 (-1001), .int .i64 4611686018427387904, .int .i64 (-9223372036854775808)] 2) none) (by simp)
          have hgw2 := grown_trans hgw g2
          clear g2 hgw hg1 hrow1
          go_wp2_with fail
          go_ret
          have e1 : (xs.set 0 v).length = xs.length := by simp
          refine ⟨⟨g, c, xs.set 0 v, ?_, by rw [e1]; exact HM.out, ?_⟩, ?_, ?_⟩
          · rw [e1]; rfl
          · unfold Row; rw [e1, List.map_set]; exact HR.out.1
          · exact c2.grown HR.out.2 (by simp; omega)
          · exact grown_far hgw2 HR.out.2 (by intro k hk; cases hk; omega)

set_option maxRecDepth 100000 in
set_option maxHeartbeats 1000000 in
theorem cAny (q : Nat) (ao : Option Addr) (n cap m : Nat) (w : World) (hc : Cur w q ao n cap) (hv : CodeV w ao n) (hn : n ≤ 4096) (hm : m ≤ 99) :
    Calls Try.prog 36 #[.pointer (some ⟨q, 0, none⟩), .int .i64 m] w fun e w' => (∃ g c xs, e = .returned (.slice (some ⟨g, 0, none⟩) xs.length c) ∧ xs.length ≤ m + 1 ∧ Row w.heap.size w' g c xs) ∧ Cur w' q ao n cap ∧ w.grownBy w' (some q) := by
  have hq := hc.lt
  obtain ⟨i0, hi0, hz0, hz1, hz2⟩ := info_parts Try.info2
  go_enter Try.func36, Try.ntmps36
  go_wp2_with fail
  refine (cPoint q ao n cap m _ hc hv hn (by omega)).mono ?_
  rintro e w1 ⟨⟨g, c, xs, rfl, hl, hrow⟩, c1, g1⟩
  have hv1 := hv.grown hc g1
  have hgl := hrow.lt g rfl
  have hl2 : xs.length ≤ m := by omega
  clear hl
  go_wp2_with fail
  refine (cOnce q ao n cap 20 _ c1 hv1 hn (by omega) (by omega)).mono ?_
  rintro e w2 ⟨⟨x, rfl⟩, c2, g2⟩
  have hrow2 : Row w.heap.size w2 g c xs := World.ownsRow.kept hrow g2 (Or.inr (by simp [Value.ownBlock]; omega))
  have hg2 := grown_trans g1 g2
  have hs2 := hg2.size
  clear hrow c1 g1 g2 hv1
  cases x with
  | false =>
    go_wp2_with fail
    go_ret
    exact ⟨⟨g, c, xs, rfl, by omega, hrow2⟩, c2, hg2⟩
  | true =>
    go_wp2_with (at_builtin; refine wpList_append_lies _ rfl (.tmp 11) (.tmp 12) 24 rfl w.heap.size 2 i0 _ 1 8 Try.underlying24 hi0 hz0 hz1 hz2 rfl (by omega) (.slice (some ⟨g, 0, none⟩) xs.length c) xs.length (xs.map (Value.int .i64)) rfl (World.ownsRow.alloc hrow2 _) ⟨w2.heap.size, 0, none⟩ 1 1 [.int .i64 1] rfl rfl (World.news_of_block (cs := #[.int .i64 1]) (t := 2) (fr := (0, 0)) (heap_alloc_new w2 _)) (by simp [Value.oneCell']) (by omega) (by unfold maxLen; omega) (by omega) (by simp; omega) (w2.heap.size + 1) (by simp) ?_; intro gg cc w3 hown3 hgrow hat hlt1)
    go_ret
    refine ⟨⟨gg, cc, xs ++ [1], ?_, by simp; omega, ?_⟩, ?_, ?_⟩
    · rw [List.length_append, List.length_singleton]; rfl
    · unfold Row; rw [List.length_append, List.length_singleton, List.map_append]; exact hown3
    · exact (c2.alloc _).grown hgrow (by simp [Value.ownBlock]; omega)
    · exact grown_far (grown_far hg2 (World.grownBy_alloc w2 _ none) (by simp)) hgrow (by intro k hk; simp [Value.ownBlock] at hk; omega)

theorem Row.view {base : Nat} {w : World} {g c : Nat} {xs : List Int} (h : Row base w g c xs) : View w (some ⟨g, 0, none⟩) xs := own_view h

theorem cAnyI (q : Nat) (ao : Option Addr) (n cap : Nat) (m : Int) (w : World) (hc : Cur w q ao n cap) (hv : CodeV w ao n) (hn : n ≤ 4096) (h0 : 0 ≤ m) (hm : m ≤ 4) :
    Calls Try.prog 36 #[.pointer (some ⟨q, 0, none⟩), .int .i64 m] w fun e w' => (∃ g c xs, e = .returned (.slice (some ⟨g, 0, none⟩) xs.length c) ∧ xs.length ≤ 5 ∧ Row w.heap.size w' g c xs) ∧ Cur w' q ao n cap ∧ w.grownBy w' (some q) := by
  obtain ⟨k, rfl⟩ := Int.eq_ofNat_of_zero_le h0
  refine (cAny q ao n cap k w hc hv hn (by omega)).mono ?_
  rintro e w' ⟨⟨g, c, xs, rfl, hl, hrow⟩, h⟩
  exact ⟨⟨g, c, xs, rfl, by omega, hrow⟩, h⟩

theorem CodeV.below {w w' : World} {B : Nat} {ao : Option Addr} {n : Nat} (hv : CodeV w ao n) (hB : w.heap.size ≤ B) (hw : Below B w w') : CodeV w' ao n := by
  rcases hv with h | ⟨b, off, rfl, hb, hby⟩
  · exact Or.inl h
  · exact Or.inr ⟨b, off, rfl, Nat.lt_of_lt_of_le hb hw.size, fun j hj => by
      obtain ⟨x, h1, h2, hx⟩ := hby j hj
      exact ⟨x, h1, h2, (hw.cell (p := ⟨b, off + j, none⟩) (by show b < B; omega)).trans hx⟩⟩

end Go.Proofs.Ythkaiienfkihmaa
