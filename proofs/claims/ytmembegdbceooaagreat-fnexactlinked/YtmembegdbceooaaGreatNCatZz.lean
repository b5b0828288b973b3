/-
  slices.Grow of nothing and slices.Concat of some rows of marks.
-/
import Derived.Test.YtmembegdbceooaaGreatSCellsZz
import Derived.Test.YtmembegdbceooaaGreatAppendZz
import Derived.Test.YtmembegdbceooaaGreatArgsZz
import Derived.Lib.AppendZerosOnto
namespace Go.Proofs.YtmembegdbceooaaGreat
open Go Go.RowKit

set_option maxHeartbeats 400000 in
theorem iGrowM0 (w : World) :
    Calls Tryz.prog 124 #[.slice none 0 0, .int .i64 0] w fun e w' => e = .returned (.slice none 0 0) ∧ w' = w := by
  go_enter Tryz.func124, Tryz.ntmps124
  go_wp2
  go_ret
  exact ⟨rfl, rfl⟩

theorem zeroM_size (n : Nat) : (Builtin.zeroCells #[.int .i64 0, .slice none 0 0] n).size = n * 2 := by simp [Builtin.zeroCells]

set_option maxRecDepth 100000 in
set_option maxHeartbeats 1000000 in
theorem iGrowM (n : Nat) (w : World) (h0 : 0 < n) (hn : n ≤ 4194304) :
    Calls Tryz.prog 124 #[.slice none 0 0, .int .i64 n] w fun e w' => ∃ c, e = .returned (.slice (some ⟨w.heap.size, 0, none⟩) 0 c) ∧ SRow w.heap.size w' w.heap.size c [] ∧ Below w.heap.size w w' := by
  obtain ⟨j0, hj0, hy0, hy1, hy2⟩ := info_parts Tryz.info30
  have hold : (Builtin.firstCells j0.size 0 (.slice none 0 0)).run Tryz.prog w.drew = .ok (([] : List Value).toArray) w.drew := run_firstCells_none w.drew j0.size 0 0 0
  have hrz := fun ty => Lib.run_append_grow_zeros (P := Tryz.prog) w 24 3 ty 30 j0 _ .i64 .i64 Tryz.underlying24 Tryz.underlying3 hj0 hy0 none 0 0 [] hold n h0 (by omega) (by omega) (by omega) (by rw [hy2]; omega) (growslice_fits (by omega) (by rw [hy2]; omega))
  rw [Nat.zero_add] at hrz
  have hG1 := grownCap_ge w n 0 30
  have hG2 := grownCap_le_maxLen w n 0 30 (by unfold maxLen; omega)
  obtain ⟨G, hG⟩ : ∃ G, G = grownCap w n 0 30 := ⟨_, rfl⟩
  rw [← hG] at hrz hG1 hG2
  have hx : wrap64 ((n : Int) - (0 - 0)) = (n : Int) := by unfold wrap64; omega
  have HW : Hid (SRow w.heap.size (w.alloc (.cells (Builtin.zeroCells #[.int .i64 0, .slice none 0 0] n ++ Builtin.zeroCells #[.int .i64 0, .slice none 0 0] (G - n)) 30)).drew w.heap.size G [] ∧ Below w.heap.size w (w.alloc (.cells (Builtin.zeroCells #[.int .i64 0, .slice none 0 0] n ++ Builtin.zeroCells #[.int .i64 0, .slice none 0 0] (G - n)) 30)).drew) := by
    refine ⟨World.ownsRow_made (base := w.heap.size) (e := 30) (size := 2) w _ G (Nat.le_refl _) hG2 ?_, ((Below.refl w.heap.size w).alloc (Nat.le_refl _) _).drew⟩
    simp only [Array.size_append, zeroM_size]
    omega
  clear hG hold
  go_enter Tryz.func124, Tryz.ntmps124
  go_wp2_with (at_builtin; refine Lib.wpList_append_run _ rfl _ _ _ _ rfl _ _ rfl rfl _ _ (hrz _) ?_)
  go_ret
  exact ⟨G, rfl, HW.out.1, HW.out.2⟩


theorem wrap60 {y : Int} (h0 : 0 ≤ y) (h1 : y ≤ 60) : wrap64 y = y := by unfold wrap64; omega
/-- Rows of marks: where each lies, its room, its marks. -/
abbrev RwC := Option Addr × Nat × List Sm
def catR (L : List RwC) : List Sm := L.flatMap (·.2.2)
theorem catR_take {L : List RwC} {k : Nat} (h : k < L.length) : catR (L.take (k + 1)) = catR (L.take k) ++ L[k].2.2 := by
  unfold catR
  rw [List.take_add_one, List.getElem?_eq_getElem h, List.flatMap_append]
  congr 1
  simp
theorem catR_len {L : List RwC} {k : Nat} : (catR (L.take k)).length ≤ (catR L).length := by
  have e : catR L = catR (L.take k) ++ catR (L.drop k) := by
    unfold catR
    rw [← List.flatMap_append, List.take_append_drop]
  rw [e]; simp

set_option maxRecDepth 100000 in
set_option maxHeartbeats 4000000 in
theorem iConcatM (A cap : Nat) (L : List RwC) (w : World) (hA : A < w.heap.size) (hc : ∀ i (h : i < L.length), w.cell? ⟨A, i, none⟩ = some (.slice L[i].1 L[i].2.2.length L[i].2.1)) (hv : ∀ i (h : i < L.length), SView w L[i].1 L[i].2.2) (hL : L.length ≤ 60) (h60 : (catR L).length ≤ 60) (hpos : 0 < (catR L).length) :
    Calls Tryz.prog 65 #[.slice (some ⟨A, 0, none⟩) L.length cap] w fun e w' => ∃ g c, e = .returned (.slice (some ⟨g, 0, none⟩) (catR L).length c) ∧ SRow w.heap.size w' g c (catR L) ∧ Below w.heap.size w w' := by
  obtain ⟨j0, hj0, hy0, hy1, hy2⟩ := info_parts Tryz.info30
  have HC := hidP (And.intro hc hv)
  clear hc hv
  go_enter Tryz.func65, Tryz.ntmps65
  go_wp2
  go_loop [3, 11] (fun s i => ∃ k : Nat, k ≤ L.length ∧ i = .int .i64 k ∧ s = .int .i64 ((catR (L.take k)).length : Nat)) (fun _ i => L.length - (intOf i).toNat)
  case atStart => exact ⟨0, by omega, rfl, rfl⟩
  case round =>
    obtain ⟨k, hk, rfl, rfl⟩ := hrel
    by_cases hlt : k < L.length
    · have hck := HC.out.1 k hlt
      have hadd : (catR (L.take (k + 1))).length = (catR (L.take k)).length + L[k].2.2.length := by rw [catR_take hlt, List.length_append]
      have hle := catR_len (L := L) (k := k + 1)
      have hi0 : (0 : Int) ≤ (k : Int) := Int.natCast_nonneg _
      have hi1 : (k : Int) < (L.length : Int) := by omega
      have HAD := hidP hadd
      have hNx : (catR (L.take k)).length + L[k].2.2.length ≤ 60 := by omega
      clear hle hadd
      generalize (catR (L.take k)).length = N at *
      generalize L[k] = x at *
      have x1 : wrap64 ((N : Int) + (x.2.2.length : Int)) = (N : Int) + (x.2.2.length : Int) := wrap60 (by omega) (by omega)
      have d0 : ¬ ((N : Int) + (x.2.2.length : Int) < 0) := by omega
      go_wp2
      go_round
      case rel => exact ⟨k + 1, by omega, by go_num, by rw [HAD.out]; go_num⟩
      case measure => simp [intOf]; omega
    · obtain rfl : k = L.length := by omega
      have e1 : L.take L.length = L := List.take_length
      rw [e1]
      clear e1
      have HG := hidP (iGrowM (catR L).length w hpos (by omega))
      go_wp2_with fail
      refine HG.out.mono ?_
      rintro e w1 ⟨c1, rfl, hr1, L1⟩
      have HR1 := hidP (And.intro hr1 L1)
      clear hr1 L1 HG
      go_wp2
      go_loopw [6, 27] (fun v i wr => ∃ (k g c : Nat), k ≤ L.length ∧ i = .int .i64 k ∧ v = .slice (some ⟨g, 0, none⟩) (catR (L.take k)).length c ∧ SRow w.heap.size wr g c (catR (L.take k)) ∧ Below w.heap.size w wr) (fun _ i _ => L.length - (intOf i).toNat)
      case atStart => exact ⟨0, w.heap.size, c1, by omega, rfl, rfl, HR1.out.1, HR1.out.2⟩
      case round =>
        clear HR1
        obtain ⟨k, g, c, hk, rfl, rfl, hr, LL⟩ := hrel
        by_cases hlt : k < L.length
        · have hz := LL.size
          have HB := hidP LL
          have hck := (LL.cell (p := ⟨A, k, none⟩) hA).trans (HC.out.1 k hlt)
          have HS := hidP ((HC.out.2 k hlt).next LL).src
          have hgl := hr.lt
          have hle := catR_len (L := L) (k := k + 1)
          have HCT := hidP (catR_take hlt)
          have HR := hidP hr
          have hadd : (catR (L.take (k + 1))).length = (catR (L.take k)).length + L[k].2.2.length := by rw [catR_take hlt, List.length_append]
          have hi0 : (0 : Int) ≤ (k : Int) := Int.natCast_nonneg _
          have hi1 : (k : Int) < (L.length : Int) := by omega
          clear hr LL
          have hMx : (catR (L.take k)).length + L[k].2.2.length ≤ 60 := by omega
          have HAD := hidP hadd
          clear hle hadd
          generalize catR (L.take k) = M at *
          generalize L[k] = x at *
          go_wp2_with (at_builtin; refine wpList_append_at _ rfl (.tmp 31) (.tmp 32) 24 rfl w.heap.size 30 j0 _ 2 32 Tryz.underlying24 hj0 hy0 hy1 hy2 rfl (by omega) g M.length c (smCells M) rfl HR.out x.1 x.2.2.length x.2.1 (smCells x.2.2) rfl HS.out (by unfold maxLen; omega) (by omega) hz wr.heap.size rfl ?_; intro gg cc w4 hown hgrow hat hltt)
          go_wp2
          have hr4 : SRow w.heap.size w4 gg cc (catR (L.take (k + 1))) := by rw [HCT.out]; exact SRow.of hown (by simp) (smCells_append M x.2.2).symm
          go_roundw
          case rel => exact ⟨k + 1, gg, cc, by omega, by go_num, by rw [HAD.out], hr4, HB.out.grown hgrow hz (by intro k hk; cases hk; omega)⟩
          case measure => simp [intOf]; omega
        · obtain rfl : k = L.length := by omega
          have e1 : L.take L.length = L := List.take_length
          rw [e1] at hr
          rw [e1]
          have HE := hidP (And.intro hr LL)
          clear hr LL e1
          go_wp2
          go_ret
          exact ⟨g, c, rfl, HE.out.1, HE.out.2⟩

set_option maxRecDepth 100000 in
set_option maxHeartbeats 1000000 in
theorem iConcatN (ao : Option Addr) (cap : Nat) (w : World) :
    Calls Tryz.prog 65 #[.slice ao 0 cap] w fun e w' => e = .returned (.slice none 0 0) ∧ w' = w := by
  go_enter Tryz.func65, Tryz.ntmps65
  go_wp2
  refine wp_loop_rounds 1 ?_
  rw [rounds_succ]
  go_wp2_with fail
  refine (iGrowM0 w).mono ?_
  rintro e w1 ⟨rfl, hw1⟩
  subst hw1
  go_wp2
  refine wp_loop_rounds 1 ?_
  rw [rounds_succ]
  go_wp2
  go_ret
  exact ⟨rfl, rfl⟩

end Go.Proofs.YtmembegdbceooaaGreat
