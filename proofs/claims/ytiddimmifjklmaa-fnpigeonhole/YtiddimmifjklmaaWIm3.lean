/-
  The closures of the program's Alike and Close.
-/
import Derived.Test.YtiddimmifjklmaaWIm2
namespace Go.Proofs.Ytiddimmifjklmaa
open Go Go.RowKit

set_option maxRecDepth 100000 in
set_option maxHeartbeats 1000000 in
theorem iAlikeFn (x q n m A Nb : Nat) (w : World) (hm : m * n = 16) (hA : Arr w A (bit16 q)) (hN : Boxed w Nb 2 (.int .i64 (n : Int))) :
    Calls Try.prog 42 #[.agg (rowC (bit16 x)), .pointer (some ⟨A, 0, none⟩), .pointer (some ⟨Nb, 0, none⟩)] w fun e w' => e = .returned (.bool (alikeB x q m n)) ∧ Below w.heap.size w w' := by
  obtain ⟨w1, hw1⟩ : ∃ w1, w.alloc (.cells (rowC (bit16 x)) 47) = w1 := ⟨_, rfl⟩
  have a0 : Arr w1 w.heap.size (bit16 x) := by rw [← hw1]; exact heap_alloc_new w _
  have a1 : Arr w1 A (bit16 q) := by rw [← hw1]; exact hA.alloc _
  have b1 : Boxed w1 Nb 2 (.int .i64 (n : Int)) := by rw [← hw1]; exact hN.alloc _
  have L1 : Below w.heap.size w w1 := by rw [← hw1]; exact (Below.refl _ _).alloc (Nat.le_refl _) _
  have c1 := b1.cell
  have HS := hidP (iShares (bit16 x) (bit16 q) n m w1 (bit16_len x) (bit16_len q) hm)
  have HE := hidP (shares_alike x q hm)
  have HL1 := hidP L1
  clear hA hN b1 hm L1
  go_enter Try.func42, Try.ntmps42
  go_upto_region 1 with fail
  clear hw1
  refine wp_region_list ?_
  refine wpList_load_row rfl 47 _ rfl w.heap.size rfl 47 (rowC (bit16 x)) (0, 0) _ a0 Try.underlying47 rfl (row16 (bit16_len x)) ?_
  refine wpList_load_row rfl 47 _ rfl A rfl 47 (rowC (bit16 q)) (0, 0) _ a1 Try.underlying47 rfl (row16 (bit16_len q)) ?_
  go_wp2_with fail
  refine HS.out.mono ?_
  rintro e w2 ⟨rfl, L2⟩
  rw [HE.out]
  go_wp2_with fail
  go_ret
  exact ⟨rfl, chain HL1.out L2⟩

set_option maxRecDepth 100000 in
set_option maxHeartbeats 1000000 in
theorem iCloseFn (x q A Nb : Nat) (most : Int) (w : World) (hA : Arr w A (bit16 q)) (hN : Boxed w Nb 2 (.int .i64 most)) :
    Calls Try.prog 45 #[.agg (rowC (bit16 x)), .pointer (some ⟨A, 0, none⟩), .pointer (some ⟨Nb, 0, none⟩)] w fun e w' => e = .returned (.bool (decide ((wtN (x ^^^ q) : Int) ≤ most))) ∧ Below w.heap.size w w' := by
  obtain ⟨w1, hw1⟩ : ∃ w1, w.alloc (.cells (rowC (bit16 x)) 47) = w1 := ⟨_, rfl⟩
  have a0 : Arr w1 w.heap.size (bit16 x) := by rw [← hw1]; exact heap_alloc_new w _
  have a1 : Arr w1 A (bit16 q) := by rw [← hw1]; exact hA.alloc _
  have b1 : Boxed w1 Nb 2 (.int .i64 most) := by rw [← hw1]; exact hN.alloc _
  have L1 : Below w.heap.size w w1 := by rw [← hw1]; exact (Below.refl _ _).alloc (Nat.le_refl _) _
  have HSS : Hid (∀ W, Below w1.heap.size w1 W → Arr W w.heap.size (bit16 x) ∧ Arr W A (bit16 q) ∧ W.cell? ⟨Nb, 0, none⟩ = some (.int .i64 most)) := fun W hW => ⟨a0.below a0.lt hW, a1.below a1.lt hW, (hW.cell (p := ⟨Nb, 0, none⟩) b1.lt).trans b1.cell⟩
  have HE := hidP (unlike_wt x q)
  have HL1 := hidP L1
  clear hA hN b1 L1 a0 a1
  go_enter Try.func45, Try.ntmps45
  go_upto_region 1 with fail
  clear hw1
  refine wp_region_takes (S := fun W => Arr W w.heap.size (bit16 x) ∧ Arr W A (bit16 q) ∧ W.cell? ⟨Nb, 0, none⟩ = some (.int .i64 most)) (fuel := 3) [0, 1, 3] (by kernel_rfl) (by kernel_rfl) (by kernel_rfl) (by kernel_rfl) (HSS.out _ (Below.refl _ _).drew) (fun hS => ?_)
  iterate 3
    refine ⟨_, rfl, ?_⟩
    apply Exists.intro
    refine ⟨Or.inl ⟨by rfl, fun w' hw' => ?_⟩, ?_⟩
    · first
      | exact load_yields rfl rfl hw'.1 (bit16_len x)
      | exact load_yields rfl rfl hw'.2.1 (bit16_len q)
      | (obtain ⟨_, _, h3⟩ := hw'; go_simp; done)
      | (obtain ⟨_, _, h3⟩ := hw'; go_simp; with_reducible rfl)
    simp only [Act.put, List.getElem_toArray, List.getElem_cons_succ, List.getElem_cons_zero, List.setIfInBounds_toArray, List.set_cons_zero, List.set_cons_succ]
  refine calm_one 2 (by kernel_rfl) rfl (fun K hK => ?_)
  go_simp
  refine (iApartW (bit16 x) (bit16 q) _ (bit16_len x) (bit16_len q)).mono ?_
  rintro e w3 ⟨rfl, hw3⟩
  have L3 : Below w1.heap.size w1 w3 := by rw [hw3]; exact (((Below.refl _ w1).drew).alloc (Nat.le_refl _) _).alloc (by simp) _
  clear hw3
  rw [HE.out]
  have hS3 := HSS.out _ L3
  refine hK.out _ _ hS3 (fun _ => ?_)
  clear hK K hS
  refine calm_rest [4, 5] (by kernel_rfl) (by kernel_rfl) (by kernel_rfl) (by kernel_rfl) hS3 ?_
  iterate 2
    refine ⟨_, rfl, ?_⟩
    apply Exists.intro
    refine ⟨Or.inl ⟨by rfl, fun w' hw' => ?_⟩, ?_⟩
    · first
      | (go_simp; done)
      | (go_simp; with_reducible rfl)
    simp only [Act.put, List.getElem_toArray, List.getElem_cons_succ, List.getElem_cons_zero, List.setIfInBounds_toArray, List.set_cons_zero, List.set_cons_succ]
  refine NoPanic.normal ?_
  refine NoPanic.normal ?_
  simp only [Exit.then]
  go_wp2_with fail
  go_ret
  exact ⟨rfl, chain HL1.out L3⟩
end Go.Proofs.Ytiddimmifjklmaa
