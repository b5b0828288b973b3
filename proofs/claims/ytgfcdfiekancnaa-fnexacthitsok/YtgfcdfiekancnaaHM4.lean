/-
  The program's own next, hasId, first and upTo.
-/
import Derived.Test.YtgfcdfiekancnaaHM3
namespace Go.Proofs.Ytgfcdfiekancnaa
open Go Go.RowKit

theorem HAt.other {base : Nat} {w w' : World} {p g c q : Nat} {l : List Ht} (h : HAt base w p g c l) (hg : w.grownBy w' (some q)) (h1 : p ≠ q) (h2 : g ≠ q) : HAt base w' p g c l :=
  ⟨h.1, (hg.block p h.lt (fun e => h1 (by injection e))).trans h.2.1, h.2.2.kept hg (fun e => h2 (by injection e))⟩
theorem assert_hit (v : Value) (w : World) : Sem.run Try.prog (Instr.typeAssert (.iface 68 v) 20 68 false) w = .ok v w := by
  unfold Instr.typeAssert
  simp [go_sem]

set_option maxRecDepth 100000 in
set_option maxHeartbeats 2000000 in
theorem iNext (base p g c n : Nat) (l : List Ht) (w : World) (h : HAt base w p g c l) (hl : l.length = n + 1) (hn : n ≤ 1048575) (hh : HeapN l l.length) :
    Calls Try.prog 71 #[.pointer (some ⟨p, 0, none⟩)] w fun e w' => e = .returned (.agg #[.int .i64 (hnth l 0).1, .int .i64 (hnth l 0).2]) ∧ ∃ l', HAt base w' p g c l' ∧ Chg p g w w' ∧ (hnth l 0 :: l').Perm l ∧ HeapN l' l'.length := by
  have hB := (Below.refl w.heap.size w).alloc (Nat.le_refl _) (.cells #[.int .i64 0, .int .i64 0] 68)
  have HP := hidP (iHPop base p g c n l _ (h.below hB) hl hn hh)
  have HB := hidP (And.intro hB (And.intro h.lt h.2.2.lt.2))
  have hx : (w.alloc (.cells #[.int .i64 0, .int .i64 0] 68)).heap[w.heap.size]? = some (.cells #[.int .i64 0, .int .i64 0] 68 (0, 0)) := by unfold World.alloc; simp only [Array.getElem?_push_size]
  have HX := hidP hx
  clear h hl hh hB hx
  go_enter Try.func71, Try.ntmps71
  go_wp2_with fail
  refine HP.out.mono ?_
  rintro e w2 ⟨rfl, l2, h2, hc2, hp2, hh2⟩
  have hb2 : w2.heap[w.heap.size]? = some (.cells #[.int .i64 0, .int .i64 0] 68 (0, 0)) := by
    obtain ⟨_, h1, h3⟩ := HB.out
    rw [hc2.2.2.2.2 w.heap.size (by simp) (by omega) (by omega)]
    exact HX.out
  have hc0 : w2.cell? ⟨w.heap.size, 0, none⟩ = some (.int .i64 0) := by simp [World.cell?, hb2]
  have hc1 : w2.cell? ⟨w.heap.size, 1, none⟩ = some (.int .i64 0) := by simp [World.cell?, hb2]
  have hf0 : w2.frozen? ⟨w.heap.size, 0, none⟩ = false := by simp [World.frozen?, hb2]
  have hf1 : w2.frozen? ⟨w.heap.size, 1, none⟩ = false := by simp [World.frozen?, hb2]
  have HE := hidP (And.intro h2 (And.intro hc2 (And.intro hp2 hh2)))
  clear h2 hc2 hp2 hh2 hb2
  have TA := assert_hit (.agg #[.int .i64 (hnth l 0).1, .int .i64 (hnth l 0).2]) w2
  go_wp2
  have k0 : ((w2.setCell ⟨w.heap.size, 0, none⟩ (.int .i64 (hnth l 0).1)).setCell ⟨w.heap.size, 1, none⟩ (.int .i64 (hnth l 0).2)).cell? ⟨w.heap.size, 0, none⟩ = some (.int .i64 (hnth l 0).1) := by
    rw [cell_setOther _ _ _ _ _ (by omega)]
    exact World.cell?_setCell_same _ _ _ hc0
  have k1 : ((w2.setCell ⟨w.heap.size, 0, none⟩ (.int .i64 (hnth l 0).1)).setCell ⟨w.heap.size, 1, none⟩ (.int .i64 (hnth l 0).2)).cell? ⟨w.heap.size, 1, none⟩ = some (.int .i64 (hnth l 0).2) :=
    World.cell?_setCell_same _ _ _ (by rw [cell_setOther _ _ _ _ _ (by omega)]; exact hc1)
  have hg : w2.grownBy ((w2.setCell ⟨w.heap.size, 0, none⟩ (.int .i64 (hnth l 0).1)).setCell ⟨w.heap.size, 1, none⟩ (.int .i64 (hnth l 0).2)) (some w.heap.size) := grown_set (grown_set (grown_refl _ _))
  refine bodyPost_ret (v := .agg #[.int .i64 (hnth l 0).1, .int .i64 (hnth l 0).2]) (by simp [results, Try.results71, go_sem, k0, k1]) rfl ?_
  obtain ⟨h2, hc2, hp2, hh2⟩ := HE.out
  obtain ⟨hB, hlp, hlg⟩ := HB.out
  exact ⟨rfl, l2, h2.other hg (by omega) (by omega), ((Chg.below hB).trans hc2).far hg (Nat.le_refl _), hp2, hh2⟩

end Go.Proofs.Ytgfcdfiekancnaa
