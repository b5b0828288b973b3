/-
  slices.Grow of nothing and slices.Concat of two lists of hits.
-/
import Derived.Test.YtgfcdfiekancnaaHM9
import Derived.Lib.AppendZerosOnto
namespace Go.Proofs.Ytgfcdfiekancnaa
open Go Go.RowKit

set_option maxHeartbeats 400000 in
theorem iGrow0 (w : World) :
    Calls Try.prog 69 #[.slice none 0 0, .int .i64 0] w fun e w' => e = .returned (.slice none 0 0) ∧ w' = w := by
  go_enter Try.func69, Try.ntmps69
  go_wp2
  go_ret
  exact ⟨rfl, rfl⟩

theorem zero_size (n : Nat) : (Builtin.zeroCells #[.int .i64 0, .int .i64 0] n).size = n * 2 := by simp [Builtin.zeroCells]

set_option maxRecDepth 100000 in
set_option maxHeartbeats 1000000 in
theorem iGrow (n : Nat) (w : World) (h0 : 0 < n) (hn : n ≤ 4194304) :
    Calls Try.prog 69 #[.slice none 0 0, .int .i64 n] w fun e w' => ∃ c, e = .returned (.slice (some ⟨w.heap.size, 0, none⟩) 0 c) ∧ HRow w.heap.size w' w.heap.size c [] ∧ Below w.heap.size w w' := by
  obtain ⟨j0, hj0, hy0, hy1, hy2⟩ := info_parts Try.info68
  have hold : (Builtin.firstCells j0.size 0 (.slice none 0 0)).run Try.prog w.drew = .ok (([] : List Value).toArray) w.drew := run_firstCells_none w.drew j0.size 0 0 0
  have hrz := fun ty => Lib.run_append_grow_zeros (P := Try.prog) w 28 3 ty 68 j0 _ .i64 .i64 Try.underlying28 Try.underlying3 hj0 hy0 none 0 0 [] hold n h0 (by omega) (by omega) (by omega) (by rw [hy2]; omega) (growslice_fits (by omega) (by rw [hy2]; omega))
  rw [Nat.zero_add] at hrz
  have hG1 := grownCap_ge w n 0 68
  have hG2 := grownCap_le_maxLen w n 0 68 (by unfold maxLen; omega)
  obtain ⟨G, hG⟩ : ∃ G, G = grownCap w n 0 68 := ⟨_, rfl⟩
  rw [← hG] at hrz hG1 hG2
  have hx : wrap64 ((n : Int) - (0 - 0)) = (n : Int) := by unfold wrap64; omega
  have HW : Hid (HRow w.heap.size (w.alloc (.cells (Builtin.zeroCells #[.int .i64 0, .int .i64 0] n ++ Builtin.zeroCells #[.int .i64 0, .int .i64 0] (G - n)) 68)).drew w.heap.size G [] ∧ Below w.heap.size w (w.alloc (.cells (Builtin.zeroCells #[.int .i64 0, .int .i64 0] n ++ Builtin.zeroCells #[.int .i64 0, .int .i64 0] (G - n)) 68)).drew) := by
    refine ⟨World.ownsRow_made (base := w.heap.size) (e := 68) (size := 2) w _ G (Nat.le_refl _) hG2 ?_, ((Below.refl w.heap.size w).alloc (Nat.le_refl _) _).drew⟩
    simp only [Array.size_append, zero_size]
    omega
  clear hG hold
  go_enter Try.func69, Try.ntmps69
  go_wp2_with (at_builtin; refine Lib.wpList_append_run _ rfl _ _ _ _ rfl _ _ rfl rfl _ _ (hrz _) ?_)
  go_ret
  exact ⟨G, rfl, HW.out.1, HW.out.2⟩

def catK (aa bb : List Ht) (k : Nat) : List Ht := if k = 0 then [] else if k = 1 then aa else aa ++ bb

set_option maxRecDepth 100000 in
set_option maxHeartbeats 4000000 in
theorem iConcat (A : Nat) (ao ao' : Option Addr) (cap cap' : Nat) (aa bb : List Ht) (w : World) (hA : A < w.heap.size) (hc0 : w.cell? ⟨A, 0, none⟩ = some (.slice ao aa.length cap)) (hc1 : w.cell? ⟨A, 1, none⟩ = some (.slice ao' bb.length cap'))
    (hv : HView w ao aa) (hv' : HView w ao' bb) (hn : aa.length ≤ 1048576) (hn' : bb.length ≤ 1048576) (hpos : 0 < aa.length + bb.length) :
    Calls Try.prog 44 #[.slice (some ⟨A, 0, none⟩) 2 2] w fun e w' => ∃ g c, e = .returned (.slice (some ⟨g, 0, none⟩) (aa.length + bb.length) c) ∧ HRow w.heap.size w' g c (aa ++ bb) ∧ Below w.heap.size w w' := by
  obtain ⟨j0, hj0, hy0, hy1, hy2⟩ := info_parts Try.info68
  go_enter Try.func44, Try.ntmps44
  go_wp2
  go_loop [3, 11] (fun s i => ∃ k : Nat, k ≤ 2 ∧ i = .int .i64 k ∧ s = .int .i64 ((catK aa bb k).length : Nat)) (fun _ i => 2 - (intOf i).toNat)
  case atStart => exact ⟨0, by omega, rfl, rfl⟩
  case round =>
    obtain ⟨k, hk, rfl, rfl⟩ := hrel
    match k, hk with
    | 0, _ =>
      have e0 : (catK aa bb 0).length = 0 := rfl
      have e1 : (catK aa bb 1).length = aa.length := rfl
      have HE := hidP e1
      rw [e0]
      clear e0 e1
      have d0 : ¬ ((aa.length : Int) < 0) := by omega
      go_wp2
      go_round
      case rel => exact ⟨1, by omega, by go_num, by rw [HE.out]⟩
      case measure => simp [intOf]
    | 1, _ =>
      have e0 : (catK aa bb 1).length = aa.length := rfl
      have e1 : (catK aa bb 2).length = aa.length + bb.length := by simp [catK]
      have HE := hidP e1
      rw [e0]
      clear e0 e1
      have x1 : wrap64 ((aa.length : Int) + (bb.length : Int)) = (aa.length : Int) + (bb.length : Int) := by unfold wrap64; omega
      have d0 : ¬ ((aa.length : Int) + (bb.length : Int) < 0) := by omega
      go_wp2
      go_round
      case rel => exact ⟨2, by omega, by go_num, by rw [HE.out]; go_num⟩
      case measure => simp [intOf]
    | 2, _ =>
      have e1 : (catK aa bb 2).length = aa.length + bb.length := by simp [catK]
      have HG := hidP (iGrow (aa.length + bb.length) w hpos (by omega))
      rw [e1]
      clear e1
      have HV := hidP (And.intro hv hv')
      clear hv hv'
      go_wp2_with fail
      refine HG.out.mono ?_
      rintro e w1 ⟨c1, rfl, hr1, L1⟩
      have HR1 := hidP (And.intro hr1 L1)
      clear hr1 L1 HG
      go_wp2
      go_loopw [6, 27] (fun v i wr => ∃ (k g c : Nat), k ≤ 2 ∧ i = .int .i64 k ∧ v = .slice (some ⟨g, 0, none⟩) (catK aa bb k).length c ∧ HRow w.heap.size wr g c (catK aa bb k) ∧ Below w.heap.size w wr) (fun _ i _ => 2 - (intOf i).toNat)
      case atStart => exact ⟨0, w.heap.size, c1, by omega, rfl, rfl, HR1.out.1, HR1.out.2⟩
      case round =>
        clear HR1
        obtain ⟨k, g, c, hk, rfl, rfl, hr, L⟩ := hrel
        have hz := L.size
        have HB := hidP L
        have ha0 := (L.cell (p := ⟨A, 0, none⟩) hA).trans hc0
        have ha1 := (L.cell (p := ⟨A, 1, none⟩) hA).trans hc1
        have HS0 := hidP (HV.out.1.next L).src
        have HS1 := hidP (HV.out.2.next L).src
        have hgl := hr.lt
        match k, hk with
        | 0, _ =>
          have HR : Hid (HRow w.heap.size wr g c []) := hr
          clear hr L
          have e0 : (catK aa bb 0).length = 0 := rfl
          rw [e0]
          clear e0
          go_wp2_with (at_builtin; refine wpList_append_at _ rfl (.tmp 31) (.tmp 32) 28 rfl w.heap.size 68 j0 _ 2 16 Try.underlying28 hj0 hy0 hy1 hy2 rfl (by omega) g 0 c (hCells []) rfl HR.out ao aa.length cap (hCells aa) rfl HS0.out (by unfold maxLen; omega) (by omega) hz wr.heap.size rfl ?_; intro gg cc w4 hown hgrow hat hltt)
          go_wp2
          have hr4 : HRow w.heap.size w4 gg cc aa := HRow.of hown (by omega) rfl
          go_roundw
          case rel => exact ⟨1, gg, cc, by omega, by go_num, rfl, hr4, HB.out.grown hgrow hz (by intro k hk; cases hk; omega)⟩
          case measure => simp [intOf]
        | 1, _ =>
          have HR : Hid (HRow w.heap.size wr g c aa) := hr
          clear hr L
          have e0 : (catK aa bb 1).length = aa.length := rfl
          rw [e0]
          clear e0
          go_wp2_with (at_builtin; refine wpList_append_at _ rfl (.tmp 31) (.tmp 32) 28 rfl w.heap.size 68 j0 _ 2 16 Try.underlying28 hj0 hy0 hy1 hy2 rfl (by omega) g aa.length c (hCells aa) rfl HR.out ao' bb.length cap' (hCells bb) rfl HS1.out (by unfold maxLen; omega) (by omega) hz wr.heap.size rfl ?_; intro gg cc w4 hown hgrow hat hltt)
          go_wp2
          have hr4 : HRow w.heap.size w4 gg cc (aa ++ bb) := HRow.of hown (by simp) (hCells_append aa bb).symm
          go_roundw
          case rel => exact ⟨2, gg, cc, by omega, by go_num, by simp [catK], hr4, HB.out.grown hgrow hz (by intro k hk; cases hk; omega)⟩
          case measure => simp [intOf]
        | 2, _ =>
          have HR : Hid (HRow w.heap.size wr g c (aa ++ bb)) := hr
          clear hr L
          have e0 : (catK aa bb 2).length = aa.length + bb.length := by simp [catK]
          rw [e0]
          clear e0
          go_wp2
          go_ret
          exact ⟨g, c, rfl, HR.out, HB.out⟩

end Go.Proofs.Ytgfcdfiekancnaa
