/-
  slices.Grow of nothing and slices.Concat of some rows of marks.
  slices.Concat over marks and over lists of links, of whatever length; slices.Clone of numbers.
  slices.Clone of numbers, ownMark.
  A block as a function of its cells; a web of the call's own that is being filled.
  The program's ownWeb: a web copied into memory of the call's own.
  The program's link: one more number in a list of links.
  How the program links, as plain lists.
-/
import Derived.Test.YtfbhohpbhjlihaaGreatSCellsZz
import Derived.Test.YtfbhohpbhjlihaaGreatAppendZz
import Derived.Test.YtfbhohpbhjlihaaGreatArgsZz
import Derived.Lib.AppendZerosOnto
import Derived.Test.YtfbhohpbhjlihaaGreatBMarkZz
import Derived.Test.YtfbhohpbhjlihaaGreatBCopyZz
import Derived.Test.YtfbhohpbhjlihaaGreatLastZz
import Derived.Test.YtfbhohpbhjlihaaGreatMMarkZz
import Derived.Test.YtfbhohpbhjlihaaGreatFeHelpZz
import Derived.Test.YtfbhohpbhjlihaaGreatFeWalkZz
import Derived.Deep.CutRange
import Derived.Deep.CutBlock
import Derived.Deep.LoopGhost
import Derived.Test.YtfbhohpbhjlihaaGreatFgRowZz
import Derived.Test.YtfbhohpbhjlihaaGreatFg0Zz
import Derived.Test.YtfbhohpbhjlihaaGreatMathZz
namespace Go.Proofs.YtfbhohpbhjlihaaGreat
open Go Go.RowKit

set_option maxHeartbeats 400000 in
theorem iGrowM0 (w : World) :
    Calls Tryz.prog 156 #[.slice none 0 0, .int .i64 0] w fun e w' => e = .returned (.slice none 0 0) ∧ w' = w := by
  go_enter Tryz.func156, Tryz.ntmps156
  go_wp2
  go_ret
  exact ⟨rfl, rfl⟩

theorem zeroM_size (n : Nat) : (Builtin.zeroCells #[.int .i64 0, .slice none 0 0] n).size = n * 2 := by simp [Builtin.zeroCells]

set_option maxRecDepth 100000 in
set_option maxHeartbeats 1000000 in
theorem iGrowM (n : Nat) (w : World) (h0 : 0 < n) (hn : n ≤ 4194304) :
    Calls Tryz.prog 156 #[.slice none 0 0, .int .i64 n] w fun e w' => ∃ c, e = .returned (.slice (some ⟨w.heap.size, 0, none⟩) 0 c) ∧ SRow w.heap.size w' w.heap.size c [] ∧ Below w.heap.size w w' := by
  obtain ⟨j0, hj0, hy0, hy1, hy2⟩ := info_parts Tryz.info30
  have hold : (Builtin.firstCells j0.size 0 (.slice none 0 0)).run Tryz.prog w.drew = .ok (([] : List Value).toArray) w.drew := run_firstCells_none w.drew j0.size 0 0 0
  have hrz := fun ty => Lib.run_append_grow_zeros (P := Tryz.prog) w 24 3 ty 30 j0 _ .i64 .i64 Tryz.underlying24 Tryz.underlying3 hj0 hy0 none 0 0 [] hold n h0 (by omega) (by omega) (by omega) (by rw [hy2]; omega) (growslice_fits (by omega) (by rw [hy2]; omega))
  rw [Nat.zero_add] at hrz
  have hG1 := grownCap_ge w n 0 30
  have hG2 := grownCap_le_maxLen w n 0 30 (by unfold maxLen; omega)
  obtain ⟨G, hG⟩ : ∃ G, G = grownCap w n 0 30 := ⟨_, rfl⟩
  rw [← hG] at hrz hG1 hG2
  have hx : wrap64 ((n : Int) - (0 - 0)) = (n : Int) := by unfold wrap64; omega
  have HW : Hid (SRow w.heap.size (w.alloc (.cells (Builtin.zeroCells #[.int .i64 0, .slice none 0 0] n ++ Builtin.zeroCells #[.int .i64 0, .slice none 0 0] (G - n)) 30)).drew w.heap.size G [] ∧ Below w.heap.size w (w.alloc (.cells (Builtin.zeroCells #[.int .i64 0, .slice none 0 0] n ++ Builtin.zeroCells #[.int .i64 0, .slice none 0 0] (G - n)) 30)).drew) := by
    refine ⟨World.ownsRow_made (base := w.heap.size) (e := 30) (size := 2) w _ G (Nat.le_refl _) hG2 ?_, ((Below.refl w.heap.size w).alloc (Nat.le_refl _) _).drew⟩
    simp only [Array.size_append, zeroM_size]
    omega
  clear hG hold
  go_enter Tryz.func156, Tryz.ntmps156
  go_wp2_with (at_builtin; refine Lib.wpList_append_run _ rfl _ _ _ _ rfl _ _ rfl rfl _ _ (hrz _) ?_)
  go_ret
  exact ⟨G, rfl, HW.out.1, HW.out.2⟩


theorem wrap60 {y : Int} (h0 : 0 ≤ y) (h1 : y ≤ 60) : wrap64 y = y := by unfold wrap64; omega
/-- Rows of marks: where each lies, its room, its marks. -/
abbrev RwC := Option Addr × Nat × List Sm
def catR (L : List RwC) : List Sm := L.flatMap (·.2.2)
theorem catR_take {L : List RwC} {k : Nat} (h : k < L.length) : catR (L.take (k + 1)) = catR (L.take k) ++ L[k].2.2 := by
  unfold catR
  rw [List.take_add_one, List.getElem?_eq_getElem h, List.flatMap_append]
  congr 1
  simp
theorem catR_len {L : List RwC} {k : Nat} : (catR (L.take k)).length ≤ (catR L).length := by
  have e : catR L = catR (L.take k) ++ catR (L.drop k) := by
    unfold catR
    rw [← List.flatMap_append, List.take_append_drop]
  rw [e]; simp

set_option maxRecDepth 100000 in
set_option maxHeartbeats 4000000 in
theorem iConcatM (A cap : Nat) (L : List RwC) (w : World) (hA : A < w.heap.size) (hc : ∀ i (h : i < L.length), w.cell? ⟨A, i, none⟩ = some (.slice L[i].1 L[i].2.2.length L[i].2.1)) (hv : ∀ i (h : i < L.length), SView w L[i].1 L[i].2.2) (hL : L.length ≤ 60) (h60 : (catR L).length ≤ 60) (hpos : 0 < (catR L).length) :
    Calls Tryz.prog 85 #[.slice (some ⟨A, 0, none⟩) L.length cap] w fun e w' => ∃ g c, e = .returned (.slice (some ⟨g, 0, none⟩) (catR L).length c) ∧ SRow w.heap.size w' g c (catR L) ∧ Below w.heap.size w w' := by
  obtain ⟨j0, hj0, hy0, hy1, hy2⟩ := info_parts Tryz.info30
  have HC := hidP (And.intro hc hv)
  clear hc hv
  go_enter Tryz.func85, Tryz.ntmps85
  go_wp2
  go_loop [3, 11] (fun s i => ∃ k : Nat, k ≤ L.length ∧ i = .int .i64 k ∧ s = .int .i64 ((catR (L.take k)).length : Nat)) (fun _ i => L.length - (intOf i).toNat)
  case atStart => exact ⟨0, by omega, rfl, rfl⟩
  case round =>
    obtain ⟨k, hk, rfl, rfl⟩ := hrel
    by_cases hlt : k < L.length
    · have hck := HC.out.1 k hlt
      have hadd : (catR (L.take (k + 1))).length = (catR (L.take k)).length + L[k].2.2.length := by rw [catR_take hlt, List.length_append]
      have hle := catR_len (L := L) (k := k + 1)
      have hi0 : (0 : Int) ≤ (k : Int) := Int.natCast_nonneg _
      have hi1 : (k : Int) < (L.length : Int) := by omega
      have HAD := hidP hadd
      have hNx : (catR (L.take k)).length + L[k].2.2.length ≤ 60 := by omega
      clear hle hadd
      generalize (catR (L.take k)).length = N at *
      generalize L[k] = x at *
      have x1 : wrap64 ((N : Int) + (x.2.2.length : Int)) = (N : Int) + (x.2.2.length : Int) := wrap60 (by omega) (by omega)
      have d0 : ¬ ((N : Int) + (x.2.2.length : Int) < 0) := by omega
      go_wp2
      go_round
      case rel => exact ⟨k + 1, by omega, by go_num, by rw [HAD.out]; go_num⟩
      case measure => simp [intOf]; omega
    · obtain rfl : k = L.length := by omega
      have e1 : L.take L.length = L := List.take_length
      rw [e1]
      clear e1
      have HG := hidP (iGrowM (catR L).length w hpos (by omega))
      go_wp2_with fail
      refine HG.out.mono ?_
      rintro e w1 ⟨c1, rfl, hr1, L1⟩
      have HR1 := hidP (And.intro hr1 L1)
      clear hr1 L1 HG
      go_wp2
      go_loopw [6, 27] (fun v i wr => ∃ (k g c : Nat), k ≤ L.length ∧ i = .int .i64 k ∧ v = .slice (some ⟨g, 0, none⟩) (catR (L.take k)).length c ∧ SRow w.heap.size wr g c (catR (L.take k)) ∧ Below w.heap.size w wr) (fun _ i _ => L.length - (intOf i).toNat)
      case atStart => exact ⟨0, w.heap.size, c1, by omega, rfl, rfl, HR1.out.1, HR1.out.2⟩
      case round =>
        clear HR1
        obtain ⟨k, g, c, hk, rfl, rfl, hr, LL⟩ := hrel
        by_cases hlt : k < L.length
        · have hz := LL.size
          have HB := hidP LL
          have hck := (LL.cell (p := ⟨A, k, none⟩) hA).trans (HC.out.1 k hlt)
          have HS := hidP ((HC.out.2 k hlt).next LL).src
          have hgl := hr.lt
          have hle := catR_len (L := L) (k := k + 1)
          have HCT := hidP (catR_take hlt)
          have HR := hidP hr
          have hadd : (catR (L.take (k + 1))).length = (catR (L.take k)).length + L[k].2.2.length := by rw [catR_take hlt, List.length_append]
          have hi0 : (0 : Int) ≤ (k : Int) := Int.natCast_nonneg _
          have hi1 : (k : Int) < (L.length : Int) := by omega
          clear hr LL
          have hMx : (catR (L.take k)).length + L[k].2.2.length ≤ 60 := by omega
          have HAD := hidP hadd
          clear hle hadd
          generalize catR (L.take k) = M at *
          generalize L[k] = x at *
          go_wp2_with (at_builtin; refine wpList_append_at _ rfl (.tmp 31) (.tmp 32) 24 rfl w.heap.size 30 j0 _ 2 32 Tryz.underlying24 hj0 hy0 hy1 hy2 rfl (by omega) g M.length c (smCells M) rfl HR.out x.1 x.2.2.length x.2.1 (smCells x.2.2) rfl HS.out (by unfold maxLen; omega) (by omega) hz wr.heap.size rfl ?_; intro gg cc w4 hown hgrow hat hltt)
          go_wp2
          have hr4 : SRow w.heap.size w4 gg cc (catR (L.take (k + 1))) := by rw [HCT.out]; exact SRow.of hown (by simp) (smCells_append M x.2.2).symm
          go_roundw
          case rel => exact ⟨k + 1, gg, cc, by omega, by go_num, by rw [HAD.out], hr4, HB.out.grown hgrow hz (by intro k hk; cases hk; omega)⟩
          case measure => simp [intOf]; omega
        · obtain rfl : k = L.length := by omega
          have e1 : L.take L.length = L := List.take_length
          rw [e1] at hr
          rw [e1]
          have HE := hidP (And.intro hr LL)
          clear hr LL e1
          go_wp2
          go_ret
          exact ⟨g, c, rfl, HE.out.1, HE.out.2⟩

set_option maxRecDepth 100000 in
set_option maxHeartbeats 1000000 in
theorem iConcatN (ao : Option Addr) (cap : Nat) (w : World) :
    Calls Tryz.prog 85 #[.slice ao 0 cap] w fun e w' => e = .returned (.slice none 0 0) ∧ w' = w := by
  go_enter Tryz.func85, Tryz.ntmps85
  go_wp2
  refine wp_loop_rounds 1 ?_
  rw [rounds_succ]
  go_wp2_with fail
  refine (iGrowM0 w).mono ?_
  rintro e w1 ⟨rfl, hw1⟩
  subst hw1
  go_wp2
  refine wp_loop_rounds 1 ?_
  rw [rounds_succ]
  go_wp2
  go_ret
  exact ⟨rfl, rfl⟩

end Go.Proofs.YtfbhohpbhjlihaaGreat
namespace Go.Proofs.YtfbhohpbhjlihaaGreat
open Go Go.RowKit

theorem wrapB {y : Int} (h0 : 0 ≤ y) (h1 : y ≤ 4194304) : wrap64 y = y := by unfold wrap64; omega

set_option maxRecDepth 100000 in
set_option maxHeartbeats 4000000 in
theorem iConcatB (A cap : Nat) (L : List RwC) (w : World) (hA : A < w.heap.size) (hc : ∀ i (h : i < L.length), w.cell? ⟨A, i, none⟩ = some (.slice L[i].1 L[i].2.2.length L[i].2.1)) (hv : ∀ i (h : i < L.length), SView w L[i].1 L[i].2.2) (hL : L.length ≤ 60) (h60 : (catR L).length ≤ 2097152) (hpos : 0 < (catR L).length) :
    Calls Tryz.prog 85 #[.slice (some ⟨A, 0, none⟩) L.length cap] w fun e w' => ∃ g c, e = .returned (.slice (some ⟨g, 0, none⟩) (catR L).length c) ∧ SRow w.heap.size w' g c (catR L) ∧ Below w.heap.size w w' := by
  obtain ⟨j0, hj0, hy0, hy1, hy2⟩ := info_parts Tryz.info30
  have HC := hidP (And.intro hc hv)
  clear hc hv
  go_enter Tryz.func85, Tryz.ntmps85
  go_wp2
  go_loop [3, 11] (fun s i => ∃ k : Nat, k ≤ L.length ∧ i = .int .i64 k ∧ s = .int .i64 ((catR (L.take k)).length : Nat)) (fun _ i => L.length - (intOf i).toNat)
  case atStart => exact ⟨0, by omega, rfl, rfl⟩
  case round =>
    obtain ⟨k, hk, rfl, rfl⟩ := hrel
    by_cases hlt : k < L.length
    · have hck := HC.out.1 k hlt
      have hadd : (catR (L.take (k + 1))).length = (catR (L.take k)).length + L[k].2.2.length := by rw [catR_take hlt, List.length_append]
      have hle := catR_len (L := L) (k := k + 1)
      have hi0 : (0 : Int) ≤ (k : Int) := Int.natCast_nonneg _
      have hi1 : (k : Int) < (L.length : Int) := by omega
      have HAD := hidP hadd
      have hNx : (catR (L.take k)).length + L[k].2.2.length ≤ 2097152 := by omega
      clear hle hadd
      generalize (catR (L.take k)).length = N at *
      generalize L[k] = x at *
      have x1 : wrap64 ((N : Int) + (x.2.2.length : Int)) = (N : Int) + (x.2.2.length : Int) := wrapB (by omega) (by omega)
      have d0 : ¬ ((N : Int) + (x.2.2.length : Int) < 0) := by omega
      go_wp2
      go_round
      case rel => exact ⟨k + 1, by omega, by go_num, by rw [HAD.out]; go_num⟩
      case measure => simp [intOf]; omega
    · obtain rfl : k = L.length := by omega
      have e1 : L.take L.length = L := List.take_length
      rw [e1]
      clear e1
      have HG := hidP (iGrowM (catR L).length w hpos (by omega))
      go_wp2_with fail
      refine HG.out.mono ?_
      rintro e w1 ⟨c1, rfl, hr1, L1⟩
      have HR1 := hidP (And.intro hr1 L1)
      clear hr1 L1 HG
      go_wp2
      go_loopw [6, 27] (fun v i wr => ∃ (k g c : Nat), k ≤ L.length ∧ i = .int .i64 k ∧ v = .slice (some ⟨g, 0, none⟩) (catR (L.take k)).length c ∧ SRow w.heap.size wr g c (catR (L.take k)) ∧ Below w.heap.size w wr) (fun _ i _ => L.length - (intOf i).toNat)
      case atStart => exact ⟨0, w.heap.size, c1, by omega, rfl, rfl, HR1.out.1, HR1.out.2⟩
      case round =>
        clear HR1
        obtain ⟨k, g, c, hk, rfl, rfl, hr, LL⟩ := hrel
        by_cases hlt : k < L.length
        · have hz := LL.size
          have HB := hidP LL
          have hck := (LL.cell (p := ⟨A, k, none⟩) hA).trans (HC.out.1 k hlt)
          have HS := hidP ((HC.out.2 k hlt).next LL).src
          have hgl := hr.lt
          have hle := catR_len (L := L) (k := k + 1)
          have HCT := hidP (catR_take hlt)
          have HR := hidP hr
          have hadd : (catR (L.take (k + 1))).length = (catR (L.take k)).length + L[k].2.2.length := by rw [catR_take hlt, List.length_append]
          have hi0 : (0 : Int) ≤ (k : Int) := Int.natCast_nonneg _
          have hi1 : (k : Int) < (L.length : Int) := by omega
          clear hr LL
          have hMx : (catR (L.take k)).length + L[k].2.2.length ≤ 2097152 := by omega
          have HAD := hidP hadd
          clear hle hadd
          generalize catR (L.take k) = M at *
          generalize L[k] = x at *
          go_wp2_with (at_builtin; refine wpList_append_at _ rfl (.tmp 31) (.tmp 32) 24 rfl w.heap.size 30 j0 _ 2 32 Tryz.underlying24 hj0 hy0 hy1 hy2 rfl (by omega) g M.length c (smCells M) rfl HR.out x.1 x.2.2.length x.2.1 (smCells x.2.2) rfl HS.out (by unfold maxLen; omega) (by omega) hz wr.heap.size rfl ?_; intro gg cc w4 hown hgrow hat hltt)
          go_wp2
          have hr4 : SRow w.heap.size w4 gg cc (catR (L.take (k + 1))) := by rw [HCT.out]; exact SRow.of hown (by simp) (smCells_append M x.2.2).symm
          go_roundw
          case rel => exact ⟨k + 1, gg, cc, by omega, by go_num, by rw [HAD.out], hr4, HB.out.grown hgrow hz (by intro k hk; cases hk; omega)⟩
          case measure => simp [intOf]; omega
        · obtain rfl : k = L.length := by omega
          have e1 : L.take L.length = L := List.take_length
          rw [e1] at hr
          rw [e1]
          have HE := hidP (And.intro hr LL)
          clear hr LL e1
          go_wp2
          go_ret
          exact ⟨g, c, rfl, HE.out.1, HE.out.2⟩


/-- A row of one-cell values, of the call's own. -/
def VR (base : Nat) (w : World) (g c : Nat) (vs : List Value) : Prop := w.ownsRow base 28 1 (.slice (some ⟨g, 0, none⟩) vs.length c) vs.length vs
theorem VR.lt {base : Nat} {w : World} {g c : Nat} {vs : List Value} (h : VR base w g c vs) : base ≤ g ∧ g < w.heap.size := World.ownsRow.lt h g rfl
theorem VR.of15 {base : Nat} {w : World} {g c n : Nat} {vs xs : List Value} (h : w.ownsRow base 28 1 (.slice (some ⟨g, 0, none⟩) n c) n xs) (hn : n = vs.length) (hx : xs = vs) : VR base w g c vs := by
  subst hn hx; exact h
theorem Tryz.info28 : (Tryz.prog.info? 28).map (fun i => (i.zero, i.size, i.bytes)) = some (some (.slice none 0 0), 1, 24) := by kernel_rfl
theorem zeroL_size (n : Nat) : (Builtin.zeroCells #[.slice none 0 0] n).size = n * 1 := by simp [Builtin.zeroCells]
theorem srcV_next {w w' : World} {ao : Option Addr} {vs : List Value} (h : SrcAt w 1 ao vs.length vs) (hb : ∀ a, ao = some a → vs ≠ [] → a.block < w.heap.size) (L : Below w.heap.size w w') : SrcAt w' 1 ao vs.length vs := by
  obtain ⟨h1, h2, h3⟩ := h
  refine ⟨h1, h2, ?_⟩
  rcases h3 with h3 | ⟨a, e, h3⟩
  · exact Or.inl h3
  · refine Or.inr ⟨a, e, fun j u hu => ?_⟩
    have hbb := hb a e (fun e' => by rw [e'] at hu; simp at hu)
    rw [← h3 j u hu]
    refine World.cell?_of_block ?_
    have : ((a.add j).block) = a.block := by unfold Addr.add; split <;> rfl
    rw [this]
    exact L.block _ hbb
abbrev RwL := Option Addr × Nat × List Value
def catV (L : List RwL) : List Value := L.flatMap (·.2.2)
theorem catV_take {L : List RwL} {k : Nat} (h : k < L.length) : catV (L.take (k + 1)) = catV (L.take k) ++ L[k].2.2 := by
  unfold catV
  rw [List.take_add_one, List.getElem?_eq_getElem h, List.flatMap_append]
  congr 1
  simp
theorem catV_len {L : List RwL} {k : Nat} : (catV (L.take k)).length ≤ (catV L).length := by
  have e : catV L = catV (L.take k) ++ catV (L.drop k) := by
    unfold catV
    rw [← List.flatMap_append, List.take_append_drop]
  rw [e]; simp

set_option maxRecDepth 100000 in
set_option maxHeartbeats 1000000 in
theorem iGrowL (n : Nat) (w : World) (h0 : 0 < n) (hn : n ≤ 4194304) :
    Calls Tryz.prog 160 #[.slice none 0 0, .int .i64 n] w fun e w' => ∃ c, e = .returned (.slice (some ⟨w.heap.size, 0, none⟩) 0 c) ∧ VR w.heap.size w' w.heap.size c [] ∧ Below w.heap.size w w' := by
  obtain ⟨j0, hj0, hy0, hy1, hy2⟩ := info_parts Tryz.info28
  have hold : (Builtin.firstCells j0.size 0 (.slice none 0 0)).run Tryz.prog w.drew = .ok (([] : List Value).toArray) w.drew := run_firstCells_none w.drew j0.size 0 0 0
  have hrz := fun ty => Lib.run_append_grow_zeros (P := Tryz.prog) w 25 3 ty 28 j0 _ .i64 .i64 Tryz.underlying25 Tryz.underlying3 hj0 hy0 none 0 0 [] hold n h0 (by omega) (by omega) (by omega) (by rw [hy2]; omega) (growslice_fits (by omega) (by rw [hy2]; omega))
  rw [Nat.zero_add] at hrz
  have hG1 := grownCap_ge w n 0 28
  have hG2 := grownCap_le_maxLen w n 0 28 (by unfold maxLen; omega)
  obtain ⟨G, hG⟩ : ∃ G, G = grownCap w n 0 28 := ⟨_, rfl⟩
  rw [← hG] at hrz hG1 hG2
  have hx : wrap64 ((n : Int) - (0 - 0)) = (n : Int) := by unfold wrap64; omega
  have HW : Hid (VR w.heap.size (w.alloc (.cells (Builtin.zeroCells #[.slice none 0 0] n ++ Builtin.zeroCells #[.slice none 0 0] (G - n)) 28)).drew w.heap.size G [] ∧ Below w.heap.size w (w.alloc (.cells (Builtin.zeroCells #[.slice none 0 0] n ++ Builtin.zeroCells #[.slice none 0 0] (G - n)) 28)).drew) := by
    refine ⟨World.ownsRow_made (base := w.heap.size) (e := 28) (size := 1) w _ G (Nat.le_refl _) hG2 ?_, ((Below.refl w.heap.size w).alloc (Nat.le_refl _) _).drew⟩
    simp only [Array.size_append, zeroL_size]
    omega
  clear hG hold
  go_enter Tryz.func160, Tryz.ntmps160
  go_wp2_with (at_builtin; refine Lib.wpList_append_run _ rfl _ _ _ _ rfl _ _ rfl rfl _ _ (hrz _) ?_)
  go_ret
  exact ⟨G, rfl, HW.out.1, HW.out.2⟩


set_option maxRecDepth 100000 in
set_option maxHeartbeats 4000000 in
theorem iConcatL (A cap : Nat) (L : List RwL) (w : World) (hA : A < w.heap.size) (hc : ∀ i (h : i < L.length), w.cell? ⟨A, i, none⟩ = some (.slice L[i].1 L[i].2.2.length L[i].2.1)) (hv : ∀ i (h : i < L.length), SrcAt w 1 L[i].1 L[i].2.2.length L[i].2.2 ∧ ∀ a, L[i].1 = some a → L[i].2.2 ≠ [] → a.block < w.heap.size) (hL : L.length ≤ 60) (h60 : (catV L).length ≤ 2097152) (hpos : 0 < (catV L).length) :
    Calls Tryz.prog 88 #[.slice (some ⟨A, 0, none⟩) L.length cap] w fun e w' => ∃ g c, e = .returned (.slice (some ⟨g, 0, none⟩) (catV L).length c) ∧ VR w.heap.size w' g c (catV L) ∧ Below w.heap.size w w' := by
  obtain ⟨j0, hj0, hy0, hy1, hy2⟩ := info_parts Tryz.info28
  have HC := hidP (And.intro hc hv)
  clear hc hv
  go_enter Tryz.func88, Tryz.ntmps88
  go_wp2
  go_loop [3, 11] (fun s i => ∃ k : Nat, k ≤ L.length ∧ i = .int .i64 k ∧ s = .int .i64 ((catV (L.take k)).length : Nat)) (fun _ i => L.length - (intOf i).toNat)
  case atStart => exact ⟨0, by omega, rfl, rfl⟩
  case round =>
    obtain ⟨k, hk, rfl, rfl⟩ := hrel
    by_cases hlt : k < L.length
    · have hck := HC.out.1 k hlt
      have hadd : (catV (L.take (k + 1))).length = (catV (L.take k)).length + L[k].2.2.length := by rw [catV_take hlt, List.length_append]
      have hle := catV_len (L := L) (k := k + 1)
      have hi0 : (0 : Int) ≤ (k : Int) := Int.natCast_nonneg _
      have hi1 : (k : Int) < (L.length : Int) := by omega
      have HAD := hidP hadd
      have hNx : (catV (L.take k)).length + L[k].2.2.length ≤ 2097152 := by omega
      clear hle hadd
      generalize (catV (L.take k)).length = N at *
      generalize L[k] = x at *
      have x1 : wrap64 ((N : Int) + (x.2.2.length : Int)) = (N : Int) + (x.2.2.length : Int) := wrapB (by omega) (by omega)
      have d0 : ¬ ((N : Int) + (x.2.2.length : Int) < 0) := by omega
      go_wp2
      go_round
      case rel => exact ⟨k + 1, by omega, by go_num, by rw [HAD.out]; go_num⟩
      case measure => simp [intOf]; omega
    · obtain rfl : k = L.length := by omega
      have e1 : L.take L.length = L := List.take_length
      rw [e1]
      clear e1
      have HG := hidP (iGrowL (catV L).length w hpos (by omega))
      go_wp2_with fail
      refine HG.out.mono ?_
      rintro e w1 ⟨c1, rfl, hr1, L1⟩
      have HR1 := hidP (And.intro hr1 L1)
      clear hr1 L1 HG
      go_wp2
      go_loopw [6, 27] (fun v i wr => ∃ (k g c : Nat), k ≤ L.length ∧ i = .int .i64 k ∧ v = .slice (some ⟨g, 0, none⟩) (catV (L.take k)).length c ∧ VR w.heap.size wr g c (catV (L.take k)) ∧ Below w.heap.size w wr) (fun _ i _ => L.length - (intOf i).toNat)
      case atStart => exact ⟨0, w.heap.size, c1, by omega, rfl, rfl, HR1.out.1, HR1.out.2⟩
      case round =>
        clear HR1
        obtain ⟨k, g, c, hk, rfl, rfl, hr, LL⟩ := hrel
        by_cases hlt : k < L.length
        · have hz := LL.size
          have HB := hidP LL
          have hck := (LL.cell (p := ⟨A, k, none⟩) hA).trans (HC.out.1 k hlt)
          have HS := hidP (srcV_next (HC.out.2 k hlt).1 (HC.out.2 k hlt).2 LL)
          have hgl := hr.lt
          have hle := catV_len (L := L) (k := k + 1)
          have HCT := hidP (catV_take hlt)
          have HR := hidP hr
          have hadd : (catV (L.take (k + 1))).length = (catV (L.take k)).length + L[k].2.2.length := by rw [catV_take hlt, List.length_append]
          have hi0 : (0 : Int) ≤ (k : Int) := Int.natCast_nonneg _
          have hi1 : (k : Int) < (L.length : Int) := by omega
          clear hr LL
          have hMx : (catV (L.take k)).length + L[k].2.2.length ≤ 2097152 := by omega
          have HAD := hidP hadd
          clear hle hadd
          generalize catV (L.take k) = M at *
          generalize L[k] = x at *
          go_wp2_with (at_builtin; refine wpList_append_at _ rfl (.tmp 31) (.tmp 32) 25 rfl w.heap.size 28 j0 _ 1 24 Tryz.underlying25 hj0 hy0 hy1 hy2 rfl (by omega) g M.length c M rfl HR.out x.1 x.2.2.length x.2.1 x.2.2 rfl HS.out (by unfold maxLen; omega) (by omega) hz wr.heap.size rfl ?_; intro gg cc w4 hown hgrow hat hltt)
          go_wp2
          have hr4 : VR w.heap.size w4 gg cc (catV (L.take (k + 1))) := by rw [HCT.out]; exact VR.of15 hown (by simp) rfl
          go_roundw
          case rel => exact ⟨k + 1, gg, cc, by omega, by go_num, by rw [HAD.out], hr4, HB.out.grown hgrow hz (by intro k hk; cases hk; omega)⟩
          case measure => simp [intOf]; omega
        · obtain rfl : k = L.length := by omega
          have e1 : L.take L.length = L := List.take_length
          rw [e1] at hr
          rw [e1]
          have HE := hidP (And.intro hr LL)
          clear hr LL e1
          go_wp2
          go_ret
          exact ⟨g, c, rfl, HE.out.1, HE.out.2⟩

end Go.Proofs.YtfbhohpbhjlihaaGreat
namespace Go.Proofs.YtfbhohpbhjlihaaGreat
open Go Go.RowKit

theorem view_src15 {w : World} {ao : Option Addr} {xs : List Int} (h : View w ao xs) : SrcAt w 1 ao xs.length (xs.map (Value.int .i64)) :=
  ⟨by simp, fun u hu => by obtain ⟨x, _, rfl⟩ := List.mem_map.1 hu; rfl, by
    rcases h with rfl | ⟨b, off, rfl, hb, hs⟩
    · exact Or.inl rfl
    · refine Or.inr ⟨_, rfl, fun j u hu => ?_⟩
      rw [Go.WideShapes.add_plain]
      have hj : j < xs.length := by
        rcases Nat.lt_or_ge j xs.length with h1 | h1
        · exact h1
        · rw [List.getElem?_eq_none (by simpa using h1)] at hu; cases hu
      have e : (xs.map (Value.int .i64))[j]? = some (.int .i64 (nth xs j)) := by simp [nth, List.getD, hj]
      rw [e] at hu
      injection hu with hu
      rw [← hu]
      exact hs j hj⟩

set_option maxHeartbeats 400000 in
theorem clone_nil (cap : Nat) (w : World) :
    Calls Tryz.prog 159 #[.slice none 0 cap] w fun e w' => e = .returned (.slice none 0 0) ∧ w' = w := by
  have q49 : (binOp .eql 28 (.slice none 0 cap) (.slice none 0 0)).run Tryz.prog w = .ok (.bool true) w := Lib.run_eql_slice_nil w 28 2 _ _ _ _ _ Tryz.underlying28
  go_enter Tryz.func159, Tryz.ntmps159
  go_wp2_with fail
  go_ret
  exact ⟨rfl, rfl⟩

set_option maxHeartbeats 400000 in
theorem clone_some (p : Addr) (cap : Nat) (xs : List Int) (w : World) (hv : View w (some p) xs) (hn : xs.length ≤ 1048576) :
    Calls Tryz.prog 159 #[.slice (some p) xs.length cap] w fun e w' => ∃ g c, e = .returned (.slice (some ⟨g, 0, none⟩) xs.length c) ∧ IRow w.heap.size w' g c xs ∧ Below w.heap.size w w' := by
  obtain ⟨j0, hj0, hy0, hy1, hy2⟩ := info_parts Tryz.info2
  have hA : Below w.heap.size w (w.alloc (.cells #[] 2)) := (Below.refl _ _).alloc (Nat.le_refl _) _
  have HR := hidP (IRow.start w w.heap.size (Nat.le_refl _))
  have HS := hidP (view_src15 (hv.next hA))
  have HA := hidP hA
  have q49 : (binOp .eql 28 (.slice (some p) xs.length cap) (.slice none 0 0)).run Tryz.prog w = .ok (.bool false) w := Lib.run_eql_slice_nil w 28 2 _ _ _ _ _ Tryz.underlying28
  clear hA hv
  go_enter Tryz.func159, Tryz.ntmps159
  go_wp2_with (at_builtin; refine wpList_append_at _ rfl (.tmp 5) (.tmp 6) 28 rfl w.heap.size 2 j0 _ 1 8 Tryz.underlying28 hj0 hy0 hy1 hy2 rfl (by omega) w.heap.size 0 0 [] rfl HR.out (some p) xs.length cap (xs.map (Value.int .i64)) rfl HS.out (by unfold maxLen; omega) (by omega) (by simp) (w.heap.size + 1) (by simp) ?_; intro gg cc w4 hown hgrow hat hltt)
  go_ret
  exact ⟨gg, cc, rfl, IRow.of hown (by omega) (by simp), HA.out.grown hgrow (by simp) (by intro k hk; cases hk; omega)⟩

theorem pClone15 (b off cap : Nat) (xs : List Int) (w : World) (hs : Seg w b off xs) (hb : b < w.heap.size) (hn : xs.length ≤ 1048576) :
    Calls Tryz.prog 159 #[.slice (some ⟨b, off, none⟩) xs.length cap] w fun e w' => ∃ g c, e = .returned (.slice (some ⟨g, 0, none⟩) xs.length c) ∧ IRow w.heap.size w' g c xs ∧ Below w.heap.size w w' :=
  clone_some ⟨b, off, none⟩ cap xs w (Or.inr ⟨b, off, rfl, hb, hs⟩) hn

/-- A copy of numbers: nothing of nothing, or a row of the call's own. -/
theorem iCloneA (ao : Option Addr) (cap : Nat) (xs : List Int) (w : World) (hv : View w ao xs) (hn : xs.length ≤ 1048576) :
    Calls Tryz.prog 159 #[.slice ao xs.length cap] w fun e w' => ∃ v, e = .returned v ∧ w'.ownsRow w.heap.size 2 1 v xs.length (xs.map (Value.int .i64)) ∧ Below w.heap.size w w' := by
  cases ao with
  | none =>
    obtain rfl : xs = [] := by
      rcases hv with h | ⟨b, off, e, -⟩
      · exact h
      · cases e
    refine (clone_nil cap w).mono ?_
    rintro e w' ⟨rfl, rfl⟩
    exact ⟨_, rfl, ⟨rfl, Or.inl ⟨rfl, rfl⟩⟩, Below.refl _ _⟩
  | some p =>
    refine (clone_some p cap xs w hv hn).mono ?_
    rintro e w' ⟨g, c, rfl, hr, L⟩
    exact ⟨_, rfl, hr, L⟩

set_option maxRecDepth 100000 in
set_option maxHeartbeats 1000000 in
theorem iOwn15 (m : Sm) (w : World) (hm : View w m.2.1 m.2.2.2) (h0 : 0 < m.2.2.2.length) (hn : m.2.2.2.length ≤ 1048576) :
    Calls Tryz.prog 129 #[.agg #[.int .i64 m.1, .slice m.2.1 m.2.2.2.length m.2.2.1]] w fun e w' => ∃ h c, e = .returned (.agg #[.int .i64 m.1, .slice (some ⟨h, 0, none⟩) m.2.2.2.length c]) ∧ IRow w.heap.size w' h c m.2.2.2 ∧ Below w.heap.size w w' := by
  obtain ⟨bm, om, hmo, hbm, hms⟩ : ∃ b off, m.2.1 = some ⟨b, off, none⟩ ∧ b < w.heap.size ∧ Seg w b off m.2.2.2 := by
    rcases hm with h | h
    · rw [h] at h0; simp at h0
    · exact h
  obtain ⟨W, hW⟩ : ∃ W, W = (w.alloc (.cells #[.int .i64 m.1, .slice (some ⟨bm, om, none⟩) m.2.2.2.length m.2.2.1] 30)).alloc (.cells #[.int .i64 0, .slice none 0 0] 30) := ⟨_, rfl⟩
  have hL : Below w.heap.size w W := by rw [hW]; exact ((Below.refl _ _).alloc (Nat.le_refl _) _).alloc (by simp) _
  have hsz : W.heap.size = w.heap.size + 2 := by rw [hW]; simp
  have a0 : W.cell? ⟨w.heap.size, 0, none⟩ = some (.int .i64 m.1) := by rw [hW]; go_simp
  have a1 : W.cell? ⟨w.heap.size, 1, none⟩ = some (.slice (some ⟨bm, om, none⟩) m.2.2.2.length m.2.2.1) := by rw [hW]; go_simp
  have t0 : Two W (w.heap.size + 1) (.int .i64 0) (.slice none 0 0) 30 := by rw [hW]; have := Two.new (w.alloc (.cells #[.int .i64 m.1, .slice (some ⟨bm, om, none⟩) m.2.2.2.length m.2.2.1] 30)) (.int .i64 0) (.slice none 0 0) 30; simpa using this
  have HC := hidP (fun n => pClone15 bm om m.2.2.1 m.2.2.2 (W.drewN n) ((hms.below hbm hL).drewN n) (by show bm < W.heap.size; omega) hn)
  have HT := hidP t0
  have HL := hidP hL
  rw [hmo]
  clear hm hms hmo t0 hL
  go_enter Tryz.func129, Tryz.ntmps129
  go_wp2_with fail
  rw [← hW]
  clear hW
  refine wp_region_calm (S := fun w' => w'.cell? ⟨w.heap.size, 0, none⟩ = some (.int .i64 m.1) ∧ w'.cell? ⟨w.heap.size, 1, none⟩ = some (.slice (some ⟨bm, om, none⟩) m.2.2.2.length m.2.2.1)) (fuel := 2)
    [0, 1, 2, 3] _ rfl (by kernel_rfl) (by kernel_rfl) (by kernel_rfl) (by kernel_rfl) (by kernel_rfl) (by kernel_rfl) (by kernel_rfl) ⟨a0, a1⟩ (fun hS => ?_)
  iterate 4
    refine ⟨_, rfl, ?_⟩
    apply Exists.intro
    refine ⟨Or.inl ⟨by rfl, fun w' hw' => ?_⟩, ?_⟩
    · first
      | (go_simp; done)
      | (go_simp; with_reducible rfl)
    simp only [Act.put, List.setIfInBounds_toArray]
  refine calm_one 4 (by kernel_rfl) rfl (fun K hK => ?_)
  go_simp
  refine (HC.out 1).mono ?_
  rintro e w' ⟨g, c, rfl, hi, L⟩
  have hS2 : w'.cell? ⟨w.heap.size, 0, none⟩ = some (.int .i64 m.1) ∧ w'.cell? ⟨w.heap.size, 1, none⟩ = some (.slice (some ⟨bm, om, none⟩) m.2.2.2.length m.2.2.1) :=
    ⟨(L.cell (p := ⟨w.heap.size, 0, none⟩) (by show w.heap.size < W.heap.size; omega)).trans a0, (L.cell (p := ⟨w.heap.size, 1, none⟩) (by show w.heap.size < W.heap.size; omega)).trans a1⟩
  refine hK.out _ _ hS2 (fun _ => ?_)
  clear hK K
  refine calm_one 5 (by kernel_rfl) rfl (fun K hK => ?_)
  go_simp
  refine hK.out _ _ hS2 (fun _ => ?_)
  clear hK K
  have hz : (W.drewN 1).heap.size = W.heap.size := rfl
  rw [hz] at hi L
  have hB : Below w.heap.size w (W.drewN 1) := below_drewN HL.out 1
  have t2 : Two w' (w.heap.size + 1) (.int .i64 0) (.slice none 0 0) 30 := (L.block _ (by omega)).trans HT.out
  have f0 := t2.frozen 0
  have f1 := t2.frozen 1
  have e0 := t2.c0
  have e1 := t2.c1
  have t3 := (t2.set0 (.int .i64 m.1)).set1 (.slice (some ⟨g, 0, none⟩) m.2.2.2.length c)
  have k0 := t3.c0
  have k1 := t3.c1
  have hgl := hi.lt
  have HE : Hid (IRow w.heap.size ((w'.setCell ⟨w.heap.size + 1, 0, none⟩ (.int .i64 m.1)).setCell ⟨w.heap.size + 1, 1, none⟩ (.slice (some ⟨g, 0, none⟩) m.2.2.2.length c)) g c m.2.2.2 ∧ Below w.heap.size w ((w'.setCell ⟨w.heap.size + 1, 0, none⟩ (.int .i64 m.1)).setCell ⟨w.heap.size + 1, 1, none⟩ (.slice (some ⟨g, 0, none⟩) m.2.2.2.length c))) :=
    ⟨((hi.kept (grown_setCell _ (w.heap.size + 1) 0 _) (by simp; omega)).kept (grown_setCell _ (w.heap.size + 1) 1 _) (by simp; omega)).mono (by omega), ((hB.trans (L.mono (by omega))).setCell (by show w.heap.size ≤ w.heap.size + 1; omega) _).setCell (by show w.heap.size ≤ w.heap.size + 1; omega) _⟩
  clear t2 t3 hi L hB HC HT HL a0 a1 hS hS2 hz
  refine wpAnyH_done (by kernel_rfl) ?_ _
  simp only [Exit.then]
  go_wp2_with fail
  refine NoPanic.normal ?_
  go_wp2_with fail
  refine bodyPost_ret (v := .agg #[.int .i64 m.1, .slice (some ⟨g, 0, none⟩) m.2.2.2.length c]) (by simp [results, Tryz.results129, go_sem, k0, k1]) rfl ?_
  exact ⟨g, c, rfl, HE.out.1, HE.out.2⟩
end Go.Proofs.YtfbhohpbhjlihaaGreat
namespace Go.Proofs.YtfbhohpbhjlihaaGreat
open Go Go.RowKit

def updV (f : Nat → Value) (m : Nat) (v : Value) (i : Nat) : Value := if i = m then v else f i
/-- A block of m cells. -/
def FB (w : World) (g m : Nat) (C : Nat → Value) (t : TypeId) : Prop := w.heap[g]? = some (.cells ((List.range m).map C).toArray t)
theorem FB.lt {w : World} {g m : Nat} {C : Nat → Value} {t : TypeId} (h : FB w g m C t) : g < w.heap.size := by
  rcases Nat.lt_or_ge g w.heap.size with h1 | h1
  · exact h1
  · unfold FB at h; rw [Array.getElem?_eq_none h1] at h; cases h
theorem FB.cell {w : World} {g m : Nat} {C : Nat → Value} {t : TypeId} (h : FB w g m C t) {i : Nat} (hi : i < m) : w.cell? ⟨g, i, none⟩ = some (C i) := by
  unfold FB at h
  simp only [World.cell?, h]
  simp [hi]
theorem FB.frozen {w : World} {g m : Nat} {C : Nat → Value} {t : TypeId} (h : FB w g m C t) (i : Nat) : w.frozen? ⟨g, i, none⟩ = false := by
  unfold FB at h
  simp [World.frozen?, h]
theorem updV_map (f : Nat → Value) (k m : Nat) (v : Value) : ((List.range k).map f).set m v = (List.range k).map (updV f m v) := by
  apply List.ext_getElem
  · simp
  · intro i h1 h2
    simp only [List.getElem_set, List.getElem_map, List.getElem_range, updV]
    by_cases h : m = i
    · rw [if_pos h, if_pos h.symm]
    · rw [if_neg h, if_neg (fun e => h e.symm)]
theorem FB.set {w : World} {g m : Nat} {C : Nat → Value} {t : TypeId} (h : FB w g m C t) (i : Nat) (v : Value) : FB (w.setCell ⟨g, i, none⟩ v) g m (updV C i v) t := by
  unfold FB at *
  simp only [World.setCell, Array.getElem?_modify, h]
  simp [updV_map]
theorem FB.same {w w' : World} {g m : Nat} {C : Nat → Value} {t : TypeId} (h : FB w g m C t) (e : w'.heap[g]? = w.heap[g]?) : FB w' g m C t := e.trans h
theorem FB.far {w : World} {g m q : Nat} {C : Nat → Value} {t : TypeId} (h : FB w g m C t) (hq : q ≠ g) (i : Nat) (v : Value) : FB (w.setCell ⟨q, i, none⟩ v) g m C t := h.same (Below.heap_setCell w ⟨q, i, none⟩ v g (fun e => hq e.symm))
theorem FB.next {w w' : World} {g m : Nat} {C : Nat → Value} {t : TypeId} (h : FB w g m C t) (L : Below w.heap.size w w') : FB w' g m C t := h.same (L.block g h.lt)
theorem FB.congr {w : World} {g m : Nat} {C D : Nat → Value} {t : TypeId} (h : FB w g m C t) (e : ∀ i, i < m → C i = D i) : FB w g m D t := by
  unfold FB at *
  rw [h]
  congr 2
  congr 1
  exact List.map_congr_left (fun i hi => e i (List.mem_range.1 hi))
theorem FB.own {base : Nat} {w : World} {g n size : Nat} {C : Nat → Value} {t : TypeId} (h : FB w g (n * size) C t) (hb : base ≤ g) (hn : n ≤ maxLen) : w.ownsRow base t size (.slice (some ⟨g, 0, none⟩) n n) n ((List.range (n * size)).map C) :=
  ⟨by simp, Or.inr ⟨g, n, _, rfl, hb, h, Nat.le_refl _, hn, by simp, List.take_of_length_le (by simp)⟩⟩
theorem FB.madeL (w : World) (n : Nat) (t : TypeId) : FB (w.alloc (.cells (madeCells #[.slice none 0 0] (n * 1)) t)) w.heap.size n (fun _ => .slice none 0 0) t := by
  have e : madeCells #[.slice none 0 0] (n * 1) = ((List.range n).map (fun _ => Value.slice none 0 0)).toArray := by
    apply Array.ext
    · simp [size_madeCells]
    · intro i h1 h2
      simp [madeCells, Nat.mod_one]
  unfold FB
  rw [e]
  show (w.heap.push _)[w.heap.size]? = _
  simp
def zeroM (j : Nat) : Value := if j % 2 = 0 then .int .i64 0 else .slice none 0 0
theorem FB.madeM (w : World) (n : Nat) (t : TypeId) : FB (w.alloc (.cells (madeCells #[.int .i64 0, .slice none 0 0] (n * 2)) t)) w.heap.size (n * 2) zeroM t := by
  have e : madeCells #[.int .i64 0, .slice none 0 0] (n * 2) = ((List.range (n * 2)).map zeroM).toArray := by
    apply Array.ext
    · simp [size_madeCells]
    · intro i h1 h2
      have h3 : i % 2 = 0 ∨ i % 2 = 1 := Nat.mod_two_eq_zero_or_one i
      rcases h3 with h3 | h3 <;> simp [madeCells, zeroM, h3]
  unfold FB
  rw [e]
  show (w.heap.push _)[w.heap.size]? = _
  simp

/-- The cells of marks, the first k filled. -/
def markC (ms : List Mk) (G cc : Nat → Nat) (k j : Nat) : Value := if j / 2 < k then (if j % 2 = 0 then .int .i64 (mid ms (j / 2)) else .slice (some ⟨G (j / 2), 0, none⟩) (mat ms (j / 2)).length (cc (j / 2))) else zeroM j
def dOf (ms : List Mk) (G cc : Nat → Nat) (i : Nat) : Dm := (mid ms i, G i, cc i, mat ms i)
def dsOf (ms : List Mk) (G cc : Nat → Nat) : List Dm := (List.range ms.length).map (dOf ms G cc)
theorem dsOf_at {ms : List Mk} {G cc : Nat → Nat} {i : Nat} (hi : i < ms.length) : mdnth (dsOf ms G cc) i = dOf ms G cc i := by simp [mdnth, dsOf, List.getD, hi]
theorem dsOf_len (ms : List Mk) (G cc : Nat → Nat) : (dsOf ms G cc).length = ms.length := by simp [dsOf]
theorem dsOf_marks (ms : List Mk) (G cc : Nat → Nat) : dMarks (dsOf ms G cc) = ms := by
  refine List.ext_getElem (by simp [dMarks, dsOf]) (fun i h1 h2 => ?_)
  simp [dMarks, dsOf, dOf, mid, mat, List.getD, h2]
theorem dsOf_cells (ms : List Mk) (G cc : Nat → Nat) : dCells (dsOf ms G cc) = (List.range (ms.length * 2)).map (markC ms G cc ms.length) := by
  refine List.ext_getElem? (fun j => ?_)
  rcases Nat.lt_or_ge j (ms.length * 2) with hj | hj
  · have hi : j / 2 < (dsOf ms G cc).length := by rw [dsOf_len]; omega
    have hi' : j / 2 < ms.length := by omega
    obtain ⟨c0, c1⟩ := dCells_at (dsOf ms G cc) (j / 2) hi
    rw [dsOf_at hi'] at c0 c1
    rw [List.getElem?_map, List.getElem?_range hj]
    rcases Nat.mod_two_eq_zero_or_one j with hm | hm
    · rw [show j = j / 2 * 2 by omega, c0]
      simp [markC, dOf, hi', show j / 2 * 2 / 2 = j / 2 by omega]
    · rw [show j = j / 2 * 2 + 1 by omega, c1]
      have e1 : (j / 2 * 2 + 1) / 2 = j / 2 := by omega
      have e2 : (j / 2 * 2 + 1) % 2 = 1 := by omega
      simp [markC, dOf, hi', e1, e2]
  · rw [List.getElem?_eq_none (by rw [dCells_length, dsOf_len]; omega), List.getElem?_eq_none (by simp; omega)]
structure OPart (base : Nat) (w : World) (g k : Nat) (ms : List Mk) (G cc : Nat → Nat) (lo hi : Nat) : Prop where
  blk : FB w g (ms.length * 2) (markC ms G cc k) 30
  rows : ∀ i, i < k → IRow base w (G i) (cc i) (mat ms i)
  rise : ∀ i j, i < j → j < k → G i < G j
  within : ∀ i, i < k → lo ≤ G i ∧ G i < hi
  top : hi ≤ w.heap.size
  ge : base ≤ g
  out : g < lo
theorem OPart.own {base : Nat} {w : World} {g : Nat} {ms : List Mk} {G cc : Nat → Nat} {lo hi : Nat} (h : OPart base w g ms.length ms G cc lo hi) (hn : ms.length ≤ maxLen) : MOwn base w g ms.length (dsOf ms G cc) := by
  refine ⟨?_, fun i hi' => ?_, fun i hi' => ?_, fun i j hi' hj' hne => ?_⟩
  · rw [dsOf_cells, dsOf_len]
    exact h.blk.own h.ge hn
  · rw [dsOf_len] at hi'
    rw [dsOf_at hi']
    exact h.rows i hi'
  · rw [dsOf_len] at hi'
    rw [dsOf_at hi']
    have := h.within i hi'
    have := h.out
    show G i ≠ g
    omega
  · rw [dsOf_len] at hi' hj'
    rw [dsOf_at hi', dsOf_at hj']
    show G i ≠ G j
    rcases Nat.lt_or_ge i j with e | e
    · have := h.rise i j e hj'; omega
    · have := h.rise j i (by omega) hi'; omega
theorem IRow.far15 {base : Nat} {w : World} {g c q : Nat} {xs : List Int} (h : IRow base w g c xs) (hq : q ≠ g) (i : Nat) (v : Value) : IRow base (w.setCell ⟨q, i, none⟩ v) g c xs := h.kept (grown_setCell w q i v) (fun e => by injection e with e; exact hq e.symm)
theorem OPart.start {base : Nat} {w : World} {g : Nat} {ms : List Mk} (h : FB w g (ms.length * 2) zeroM 30) (hb : base ≤ g) : OPart base w g 0 ms (fun _ => 0) (fun _ => 0) (w.heap.size) (w.heap.size) :=
  ⟨h.congr (fun i _ => by unfold markC; rw [if_neg (by omega)]), fun i hi => by omega, fun i j _ hj => by omega, fun i hi => by omega, Nat.le_refl _, hb, h.lt⟩
theorem OPart.next {base : Nat} {w w' : World} {g k : Nat} {ms : List Mk} {G cc : Nat → Nat} {lo hi : Nat} (h : OPart base w g k ms G cc lo hi) (L : Below w.heap.size w w') : OPart base w' g k ms G cc lo hi :=
  ⟨h.blk.next L, fun i hi' => (h.rows i hi').below L, h.rise, h.within, Nat.le_trans h.top L.size, h.ge, h.out⟩
theorem OPart.far {base : Nat} {w : World} {g k q : Nat} {ms : List Mk} {G cc : Nat → Nat} {lo hi : Nat} (h : OPart base w g k ms G cc lo hi) (hq : q ≠ g) (hq2 : q < lo ∨ hi ≤ q) (i : Nat) (v : Value) : OPart base (w.setCell ⟨q, i, none⟩ v) g k ms G cc lo hi :=
  ⟨h.blk.far hq i v, fun j hj => (h.rows j hj).far15 (by have := h.within j hj; omega) i v, h.rise, h.within, by rw [setCell_size]; exact h.top, h.ge, h.out⟩
theorem OPart.step {base : Nat} {w w' : World} {g k h0 c : Nat} {ms : List Mk} {G cc : Nat → Nat} {lo hi : Nat} (h : OPart base w g k ms G cc lo hi) (L : Below w.heap.size w w') (hr : IRow w.heap.size w' h0 c (mat ms k)) (hb : base ≤ w.heap.size) (hlo : lo ≤ w.heap.size) :
    OPart base ((w'.setCell ⟨g, k * 2, none⟩ (.int .i64 (mid ms k))).setCell ⟨g, k * 2 + 1, none⟩ (.slice (some ⟨h0, 0, none⟩) (mat ms k).length c)) g (k + 1) ms (updN G k h0) (updN cc k c) lo w'.heap.size := by
  have hN := h.next L
  have hg := h.blk.lt
  have hl := hr.lt
  have htop := h.top
  refine ⟨((hN.blk.set (k * 2) _).set (k * 2 + 1) _).congr (fun j hj => ?_), fun i hi' => ?_, fun i j hij hj => ?_, fun i hi' => ?_, by simp [World.setCell], h.ge, h.out⟩
  · unfold updV markC
    by_cases e1 : j = k * 2 + 1
    · rw [if_pos e1, if_pos (by omega), if_neg (by omega)]
      have : j / 2 = k := by omega
      rw [this]
      simp [updN]
    · rw [if_neg e1]
      by_cases e2 : j = k * 2
      · rw [if_pos e2, if_pos (by omega), if_pos (by omega)]
        have : j / 2 = k := by omega
        rw [this]
      · rw [if_neg e2]
        by_cases e3 : j / 2 < k
        · have : j / 2 ≠ k := by omega
          have e4 : j / 2 < k + 1 := by omega
          simp [updN, this, e3, e4]
        · rw [if_neg e3, if_neg (by omega)]
  · unfold updN
    by_cases e : i = k
    · rw [if_pos e, if_pos e, e]
      exact (((hr.far15 (by omega) _ _).far15 (by omega) _ _).mono hb)
    · rw [if_neg e, if_neg e]
      have hw := h.within i (by omega)
      have ho := h.out
      exact ((hN.rows i (by omega)).far15 (by omega) _ _).far15 (by omega) _ _
  · unfold updN
    by_cases e : j = k
    · rw [if_pos e, if_neg (by omega)]
      have := h.within i (by omega)
      omega
    · rw [if_neg (by omega), if_neg e]
      exact h.rise i j hij (by omega)
  · unfold updN
    by_cases e : i = k
    · rw [if_pos e]; omega
    · rw [if_neg e]
      have := h.within i (by omega)
      have := L.size
      omega

theorem OPart.raise {base : Nat} {w : World} {g k : Nat} {ms : List Mk} {G cc : Nat → Nat} {lo hi H : Nat} (h : OPart base w g k ms G cc lo hi) (h1 : hi ≤ H) (h2 : H ≤ w.heap.size) : OPart base w g k ms G cc lo H :=
  ⟨h.blk, h.rows, h.rise, fun i hi' => by have := h.within i hi'; omega, h2, h.ge, h.out⟩

/-- Lists of links of the call's own, each nothing or in a block of its own from lo on. -/
structure NM (base : Nat) (w : World) (g n : Nat) (V : Nat → Value) (X : Nat → List Int) (lo : Nat) : Prop where
  blk : FB w g n V 28
  own : ∀ i, i < n → w.ownsRow lo 2 1 (V i) (X i).length ((X i).map (Value.int .i64))
  apart : ∀ i j, i < n → j < n → i ≠ j → (V i).ownBlock = none ∨ (V i).ownBlock ≠ (V j).ownBlock
  ge : base ≤ g
  out : g < lo
  top : lo ≤ w.heap.size
theorem own_same15 {w w' : World} {b : Nat} {v : Value} {n : Nat} {xs : List Value} (h : w.ownsRow b 2 1 v n xs) (e : ∀ g, v.ownBlock = some g → w'.heap[g]? = w.heap[g]?) : w'.ownsRow b 2 1 v n xs := by
  obtain ⟨h1, h2 | ⟨g, cap, cur, rfl, hb, hg, h3⟩⟩ := h
  · exact ⟨h1, Or.inl h2⟩
  · exact ⟨h1, Or.inr ⟨g, cap, cur, rfl, hb, (e g rfl).trans hg, h3⟩⟩
theorem own_lt15 {w : World} {b : Nat} {v : Value} {n : Nat} {xs : List Value} (h : w.ownsRow b 2 1 v n xs) {g : Nat} (e : v.ownBlock = some g) : b ≤ g ∧ g < w.heap.size := World.ownsRow.lt h g e
theorem own_mono15 {w : World} {b b' : Nat} {v : Value} {n : Nat} {xs : List Value} (h : w.ownsRow b 2 1 v n xs) (hb : b' ≤ b) : w.ownsRow b' 2 1 v n xs :=
  ⟨h.1, h.2.imp id fun ⟨g, cap, cur, h1, h2, h3⟩ => ⟨g, cap, cur, h1, Nat.le_trans hb h2, h3⟩⟩
theorem own_form15 {w : World} {b : Nat} {v : Value} {xs : List Int} (h : w.ownsRow b 2 1 v xs.length (xs.map (Value.int .i64))) : ∃ a c, v = .slice a xs.length c ∧ View w a xs := by
  obtain ⟨h1, ⟨rfl, h2⟩ | ⟨g, cap, cur, rfl, h3⟩⟩ := h
  · exact ⟨none, 0, by rw [h2], Or.inl (List.length_eq_zero_iff.1 h2)⟩
  · have hr : IRow b w g cap xs := ⟨h1, Or.inr ⟨g, cap, cur, rfl, h3⟩⟩
    exact ⟨some ⟨g, 0, none⟩, cap, rfl, hr.view⟩
theorem NM.next {base : Nat} {w w' : World} {g n : Nat} {V : Nat → Value} {X : Nat → List Int} {lo : Nat} (h : NM base w g n V X lo) (L : Below w.heap.size w w') : NM base w' g n V X lo :=
  ⟨h.blk.next L, fun i hi => own_same15 (h.own i hi) (fun q e => L.block q (own_lt15 (h.own i hi) e).2), h.apart, h.ge, h.out, Nat.le_trans h.top L.size⟩
theorem NM.view {base : Nat} {w : World} {g n : Nat} {V : Nat → Value} {X : Nat → List Int} {lo : Nat} (h : NM base w g n V X lo) : CView w (some ⟨g, 0, none⟩) ((List.range n).map X) := by
  refine Or.inr ⟨g, 0, rfl, h.blk.lt, fun i hi => ?_⟩
  have hi' : i < n := by simpa using hi
  obtain ⟨a, c, e, hv⟩ := own_form15 (h.own i hi')
  have ec : cn ((List.range n).map X) i = X i := by simp [cn, List.getD, hi']
  rw [ec, Nat.zero_add]
  exact ⟨a, c, (h.blk.cell hi').trans (by rw [e]), hv⟩
theorem NM.start {base : Nat} {w : World} {g n : Nat} (h : FB w g n (fun _ => .slice none 0 0) 28) (hb : base ≤ g) {lo : Nat} (hlo : g < lo) (ht : lo ≤ w.heap.size) : NM base w g n (fun _ => .slice none 0 0) (fun _ => []) lo :=
  ⟨h, fun _ _ => ⟨rfl, Or.inl ⟨rfl, rfl⟩⟩, fun _ _ _ _ _ => Or.inl rfl, hb, hlo, ht⟩
theorem NM.congr {base : Nat} {w : World} {g n : Nat} {V : Nat → Value} {X Y : Nat → List Int} {lo : Nat} (h : NM base w g n V X lo) (e : ∀ i, i < n → X i = Y i) : NM base w g n V Y lo :=
  ⟨h.blk, fun i hi => by rw [← e i hi]; exact h.own i hi, h.apart, h.ge, h.out, h.top⟩
theorem NM.far {base : Nat} {w : World} {g n q : Nat} {V : Nat → Value} {X : Nat → List Int} {lo : Nat} (h : NM base w g n V X lo) (hq : q ≠ g) (hq2 : q < lo) (i : Nat) (v : Value) : NM base (w.setCell ⟨q, i, none⟩ v) g n V X lo :=
  ⟨h.blk.far hq i v, fun j hj => own_same15 (h.own j hj) (fun b e => Below.heap_setCell w ⟨q, i, none⟩ v b (fun e' => by have := own_lt15 (h.own j hj) e; have : b = q := e'; omega)), h.apart, h.ge, h.out, by rw [setCell_size]; exact h.top⟩
def updX (f : Nat → List Int) (m : Nat) (v : List Int) (i : Nat) : List Int := if i = m then v else f i
/-- A list is put in place of another one: it is nothing, the same block, or a new one. -/
theorem NM.put {base : Nat} {w w' : World} {g n : Nat} {V : Nat → Value} {X : Nat → List Int} {lo : Nat} (h : NM base w g n V X lo) {m : Nat} (hm : m < n) {v : Value} {xs : List Int} (ho : w'.ownsRow lo 2 1 v xs.length (xs.map (Value.int .i64)))
    (hg : w.grownBy w' (V m).ownBlock) (hat : v.ownBlock = none ∨ v.ownBlock = (V m).ownBlock ∨ ∃ q, v.ownBlock = some q ∧ w.heap.size ≤ q) : NM base (w'.setCell ⟨g, m, none⟩ v) g n (updV V m v) (updX X m xs) lo := by
  have hgl := h.blk.lt
  have hout := h.out
  have hVm : ∀ q, (V m).ownBlock = some q → lo ≤ q ∧ q < w.heap.size := fun q e => own_lt15 (h.own m hm) e
  have hs : ∀ i, i ≠ g → (w'.setCell ⟨g, m, none⟩ v).heap[i]? = w'.heap[i]? := fun i hi => Below.heap_setCell w' ⟨g, m, none⟩ _ i (fun e => hi e)
  have hb' : FB w' g n V 28 := h.blk.same (hg.block g hgl (fun e => by have := hVm g e.symm; omega))
  refine ⟨hb'.set m v, fun i hi => ?_, fun i j hi hj hij => ?_, h.ge, hout, by rw [setCell_size]; exact Nat.le_trans h.top hg.size⟩
  · unfold updV updX
    by_cases e : i = m
    · rw [if_pos e, if_pos e]
      exact own_same15 ho (fun q eq => hs q (by have := own_lt15 ho eq; omega))
    · rw [if_neg e, if_neg e]
      refine own_same15 (h.own i hi) (fun q eq => ?_)
      have hq := own_lt15 (h.own i hi) eq
      refine (hs q (by omega)).trans (hg.block q hq.2 (fun e' => ?_))
      rcases h.apart i m hi hm e with h1 | h1
      · rw [h1] at eq; cases eq
      · exact h1 (eq.trans e')
  · unfold updV
    have key : ∀ k, k < n → k ≠ m → (V k).ownBlock = none ∨ (V k).ownBlock ≠ v.ownBlock := fun k hk hne => by
      rcases hat with e | e | ⟨q, e, hq⟩
      · rcases h.apart k m hk hm hne with h1 | h1
        · exact Or.inl h1
        · by_cases hn : (V k).ownBlock = none
          · exact Or.inl hn
          · exact Or.inr (fun e' => hn (e'.trans e))
      · rcases h.apart k m hk hm hne with h1 | h1
        · exact Or.inl h1
        · exact Or.inr (fun e' => h1 (e'.trans e))
      · refine Or.inr (fun e' => ?_)
        have := own_lt15 (h.own k hk) (e'.trans e)
        omega
    by_cases e1 : i = m
    · rw [if_pos e1, if_neg (by omega)]
      rcases key j hj (by omega) with h1 | h1
      · by_cases hn : v.ownBlock = none
        · exact Or.inl hn
        · exact Or.inr (fun e' => hn (e'.trans h1))
      · exact Or.inr (fun e' => h1 e'.symm)
    · rw [if_neg e1]
      by_cases e2 : j = m
      · rw [if_pos e2]; exact key i hi e1
      · rw [if_neg e2]; exact h.apart i j hi hj hij
end Go.Proofs.YtfbhohpbhjlihaaGreat
namespace Go.Proofs.YtfbhohpbhjlihaaGreat
open Go Go.RowKit

theorem calm_three {P : Program} {md : Region.Mode} {Q : Exit → Act → World → Prop} {ops : Array Oper} {S : World → Prop} {fuel : Nat} {listed : Array Bool} {a : Act} {w : World} {o o2 o3 : Oper} (i j k : Nat) (hr : Region.ready md ops listed = [i, j, k]) (ho : ops[i]? = some o) (ho2 : ops[j]? = some o2) (ho3 : ops[k]? = some o3)
    (h : ∀ K : Act → World → Prop, Shut (∀ a w, S w → (S w → wpAnyH P md ops Q S fuel (listed.setIfInBounds i true) a w) → K a w) → if Region.wanted o (yielded ops a.tmps) = true then Oper.wp P o a w K Q else K (a.put o.dst undef) w)
    (h2 : ∀ K : Act → World → Prop, Shut (∀ a w, S w → (S w → wpAnyH P md ops Q S fuel (listed.setIfInBounds j true) a w) → K a w) → if Region.wanted o2 (yielded ops a.tmps) = true then Oper.wp P o2 a w K Q else K (a.put o2.dst undef) w)
    (h3 : ∀ K : Act → World → Prop, Shut (∀ a w, S w → (S w → wpAnyH P md ops Q S fuel (listed.setIfInBounds k true) a w) → K a w) → if Region.wanted o3 (yielded ops a.tmps) = true then Oper.wp P o3 a w K Q else K (a.put o3.dst undef) w) : wpAnyH P md ops Q S (fuel + 1) listed a w :=
  wpAnyH_ready hr (by simp) (AllReadyH.cons ho h (AllReadyH.cons ho2 h2 (AllReadyH.cons ho3 h3 AllReadyH.nil)))

/-- A web in memory of the call's own: n lists of links. -/
def OwnWeb (base : Nat) (w : World) (g gl : Nat) (ms : List Mk) (X : Nat → List Int) (n : Nat) : Prop := ∃ G cc V lo hi, OPart base w g ms.length ms G cc lo hi ∧ NM base w gl n V X hi ∧ g ≠ gl ∧ gl < lo

set_option maxRecDepth 100000 in
set_option maxHeartbeats 20000000 in
theorem iOwnWeb (am al : Option Addr) (cm cl : Nat) (ms : List Mk) (ls : List (List Int)) (w : World) (hm : MView w am ms) (hl : CView w al ls) (hmb : marksB ms = true) (hsm : MSmall ms) (hcs : CSmall ls) :
    Calls Tryz.prog 87 #[.agg #[.slice am ms.length cm, .slice al ls.length cl]] w fun e w' => ∃ g gl, e = .returned (.agg #[.slice (some ⟨g, 0, none⟩) ms.length ms.length, .slice (some ⟨gl, 0, none⟩) ls.length ls.length]) ∧ OwnWeb w.heap.size w' g gl ms (cn ls) ls.length ∧ Below w.heap.size w w' := by
  obtain ⟨W1, hW1⟩ : ∃ W, w.alloc (.cells #[.slice am ms.length cm, .slice al ls.length cl] 27) = W := ⟨_, rfl⟩
  have hB1 : Below w.heap.size w W1 := by rw [← hW1]; exact (Below.refl _ _).alloc (Nat.le_refl _) _
  have hI1 : WebIn W1 w.heap.size am cm ms al cl ls := by rw [← hW1]; exact WebIn.box hm hl
  obtain ⟨W, hW⟩ : ∃ W, W1.alloc (.cells #[.slice none 0 0, .slice none 0 0] 27) = W := ⟨_, rfl⟩
  have hB2 : Below W1.heap.size W1 W := by rw [← hW]; exact (Below.refl _ _).alloc (Nat.le_refl _) _
  have TR : Two W W1.heap.size (.slice none 0 0) (.slice none 0 0) 27 := by rw [← hW]; exact Two.new W1 _ _ _
  have s1 : W1.heap.size = w.heap.size + 1 := by rw [← hW1]; simp
  have s2 : W.heap.size = w.heap.size + 2 := by rw [← hW]; simp [s1]
  have hI := hI1.below hB2
  have HB := hidP (chain hB1 hB2)
  have HI := hidP hI
  have HTR := hidP TR
  have HMB := hidP hmb
  have hml := marksB_len hmb
  have hll := hcs.1
  have hmkM : ∀ w0 : World, (Instr.makeSlice 24 (.int .i64 (ms.length : Int)) (.int .i64 (ms.length : Int))).run Tryz.prog w0 = .ok (.slice (some ⟨w0.heap.size, 0, none⟩) ms.length ms.length) (w0.alloc (.cells (madeCells #[.int .i64 0, .slice none 0 0] (ms.length * 2)) 30)) := fun w0 => run_make_rows (P := Tryz.prog) 24 30 (.agg #[.int .i64 0, .slice none 0 0]) 2 32 Tryz.underlying24 Tryz.info30 .i64 .i64 ms.length (by omega) (by omega) w0
  have hmkL : ∀ w0 : World, (Instr.makeSlice 25 (.int .i64 (ls.length : Int)) (.int .i64 (ls.length : Int))).run Tryz.prog w0 = .ok (.slice (some ⟨w0.heap.size, 0, none⟩) ls.length ls.length) (w0.alloc (.cells (madeCells #[.slice none 0 0] ls.length) 28)) := fun w0 => by have h := run_make_rows (P := Tryz.prog) 25 28 (.slice none 0 0) 1 24 Tryz.underlying25 Tryz.info28 .i64 .i64 ls.length (by omega) (by omega) w0; rw [Nat.mul_one] at h; exact h
  have HS : Hid (∀ W', Below W.heap.size W W' → W'.cell? ⟨w.heap.size, 0, none⟩ = some (.slice am ms.length cm) ∧ W'.cell? ⟨w.heap.size, 1, none⟩ = some (.slice al ls.length cl)) := fun W' L' => ⟨(HI.out.below L').c0, (HI.out.below L').c1⟩
  have HSZ := hidP (And.intro s1 s2)
  have BL := hidP ((Below.refl W.heap.size W).drew)
  have HWW : Hid ((w.alloc (.cells #[.slice am ms.length cm, .slice al ls.length cl] 27)).alloc (.cells #[.slice none 0 0, .slice none 0 0] 27) = W) := by show _ = _; rw [hW1, hW]
  clear hm hl hB1 hI1 hB2 TR hI s1 s2 hW hW1
  go_enter Tryz.func87, Tryz.ntmps87
  go_upto_region 1 with fail
  rw [HWW.out]
  clear HWW
  go_cut [3] from 8 to 17 (fun v wx => ∃ o g gl, v = .pointer (some ⟨o, 0, none⟩) ∧ Two wx o (.slice (some ⟨g, 0, none⟩) ms.length ms.length) (.slice (some ⟨gl, 0, none⟩) ls.length ls.length) 27 ∧ FB wx g (ms.length * 2) zeroM 30 ∧ FB wx gl ls.length (fun _ => .slice none 0 0) 28 ∧ W.heap.size ≤ o ∧ W.heap.size ≤ g ∧ W.heap.size ≤ gl ∧ o ≠ g ∧ o ≠ gl ∧ g ≠ gl ∧ Below W.heap.size W wx)
  case first =>
    refine wp_region_takes (S := fun W' => Below W.heap.size W W') (fuel := 5) [0, 1, 2, 4, 5, 6] (by kernel_rfl) (by kernel_rfl) (by kernel_rfl) (by kernel_rfl) BL.out (fun _ => ?_)
    iterate 6
      refine ⟨_, rfl, ?_⟩
      apply Exists.intro
      refine ⟨Or.inl ⟨by rfl, fun w' hw' => ?_⟩, ?_⟩
      · obtain ⟨e1, e2⟩ := HS.out w' hw'
        first
        | (go_simp; done)
        | (go_simp; with_reducible rfl)
      simp only [Act.put, List.getElem_toArray, List.getElem_cons_succ, List.getElem_cons_zero, List.setIfInBounds_toArray, List.set_cons_zero, List.set_cons_succ]
    obtain ⟨wv0, hv0⟩ : ∃ w0, W.drew = w0 := ⟨_, rfl⟩
    have Bwv0 : Below W.heap.size W wv0 := by rw [← hv0]; exact BL.out
    have sv0 : W.heap.size ≤ wv0.heap.size := Bwv0.size
    rw [hv0]
    clear hv0
    refine calm_three 3 7 9 (by kernel_rfl) rfl rfl rfl (fun K hK => ?_) (fun K hK => ?_) (fun K hK => ?_)
    · go_simp
      obtain ⟨wv1, hX⟩ : ∃ w0, wv0.alloc (.cells (madeCells #[.int .i64 0, .slice none 0 0] (ms.length * 2)) 30) = w0 := ⟨_, rfl⟩
      have LX : Below wv0.heap.size wv0 wv1 := by rw [← hX]; exact (Below.refl _ _).alloc (Nat.le_refl _) _
      have sX : wv0.heap.size < wv1.heap.size := by rw [← hX]; simp
      have Fg : FB wv1 wv0.heap.size (ms.length * 2) zeroM 30 := by rw [← hX]; exact FB.madeM wv0 _ _
      have Bwv1 : Below W.heap.size W wv1 := chain Bwv0 LX
      obtain ⟨g, hg⟩ : ∃ q, wv0.heap.size = q := ⟨_, rfl⟩
      have hg1 : wv0.heap.size ≤ g := by omega
      have hg2 : g < wv1.heap.size := by omega
      rw [hX]
      rw [hg] at Fg ⊢
      refine hK.out _ _ Bwv1 (fun _ => ?_)
      clear hK K hX LX hg sX
      refine calm_two14 7 9 (by kernel_rfl) rfl rfl (fun K hK => ?_) (fun K hK => ?_)
      · go_simp
        obtain ⟨wv2, hX⟩ : ∃ w0, wv1.alloc (.cells (madeCells #[.slice none 0 0] ls.length) 28) = w0 := ⟨_, rfl⟩
        have LX : Below wv1.heap.size wv1 wv2 := by rw [← hX]; exact (Below.refl _ _).alloc (Nat.le_refl _) _
        have sX : wv1.heap.size < wv2.heap.size := by rw [← hX]; simp
        have Fl : FB wv2 wv1.heap.size ls.length (fun _ => .slice none 0 0) 28 := by rw [← hX]; have := FB.madeL wv1 ls.length 28; rw [Nat.mul_one] at this; exact this
        replace Fg := Fg.next LX
        have Bwv2 : Below W.heap.size W wv2 := chain Bwv1 LX
        obtain ⟨gl, hgl⟩ : ∃ q, wv1.heap.size = q := ⟨_, rfl⟩
        have hgl1 : wv1.heap.size ≤ gl := by omega
        have hgl2 : gl < wv2.heap.size := by omega
        rw [hX]
        rw [hgl] at Fl ⊢
        refine hK.out _ _ Bwv2 (fun _ => ?_)
        clear hK K hX LX hgl sX
        refine calm_more14 2 [8] (by kernel_rfl) (by kernel_rfl) (by kernel_rfl) Bwv2 ?_
        iterate 1
          refine ⟨_, rfl, ?_⟩
          apply Exists.intro
          refine ⟨Or.inl ⟨by rfl, fun w' hw' => ?_⟩, ?_⟩
          · first
            | (go_simp; done)
            | (go_simp; with_reducible rfl)
          simp only [Act.put, List.getElem_toArray, List.getElem_cons_succ, List.getElem_cons_zero, List.setIfInBounds_toArray, List.set_cons_zero, List.set_cons_succ]
        refine calm_one 9 (by kernel_rfl) rfl (fun K hK => ?_)
        go_simp
        have oE : wv2.heap.size = wv2.heap.size := rfl
        refine hK.out _ _ (Bwv2.alloc Bwv2.size _) (fun _ => ?_)
        clear hK K
        refine calm_one 10 (by kernel_rfl) rfl (fun K hK => ?_)
        go_simp
        obtain ⟨wz, hwz⟩ : ∃ wz, wv2.alloc (.cells #[.slice (some ⟨g, 0, none⟩) ms.length ms.length, .slice (some ⟨gl, 0, none⟩) ls.length ls.length] 27) = wz := ⟨_, rfl⟩
        have LZ : Below wv2.heap.size wv2 wz := by rw [← hwz]; exact (Below.refl _ _).alloc (Nat.le_refl _) _
        have TZ : Two wz wv2.heap.size (.slice (some ⟨g, 0, none⟩) ms.length ms.length) (.slice (some ⟨gl, 0, none⟩) ls.length ls.length) 27 := by rw [← hwz]; exact Two.new wv2 _ _ _
        have hgl1 := Fg.lt
        have hgl2 := Fl.lt
        rw [hwz]
        refine hK.out _ _ (chain Bwv2 LZ) (fun _ => ?_)
        clear hK K hwz
        refine wpAnyH_done (by kernel_rfl) ?_ _
        refine NoPanic.normal ?_
        try simp only [Exit.then]
        go_wp2_with fail
        go_meet
        exact ⟨_, g, gl, rfl, TZ, Fg.next LZ, Fl.next LZ, by have := Bwv2.size; omega, by omega, by omega, by omega, by omega, by omega, chain Bwv2 LZ⟩
      · go_simp
        obtain ⟨wv4, hX⟩ : ∃ w0, wv1.alloc (.cells #[.slice none 0 0, .slice none 0 0] 27) = w0 := ⟨_, rfl⟩
        have LX : Below wv1.heap.size wv1 wv4 := by rw [← hX]; exact (Below.refl _ _).alloc (Nat.le_refl _) _
        have sX : wv1.heap.size < wv4.heap.size := by rw [← hX]; simp
        have Fo : Two wv4 wv1.heap.size (.slice none 0 0) (.slice none 0 0) 27 := by rw [← hX]; exact Two.new wv1 _ _ _
        replace Fg := Fg.next LX
        have Bwv4 : Below W.heap.size W wv4 := chain Bwv1 LX
        obtain ⟨o, ho⟩ : ∃ q, wv1.heap.size = q := ⟨_, rfl⟩
        have ho1 : wv1.heap.size ≤ o := by omega
        have ho2 : o < wv4.heap.size := by omega
        rw [hX]
        rw [ho] at Fo ⊢
        refine hK.out _ _ Bwv4 (fun _ => ?_)
        clear hK K hX LX ho sX
        refine calm_one 7 (by kernel_rfl) rfl (fun K hK => ?_)
        go_simp
        obtain ⟨wv5, hX⟩ : ∃ w0, wv4.alloc (.cells (madeCells #[.slice none 0 0] ls.length) 28) = w0 := ⟨_, rfl⟩
        have LX : Below wv4.heap.size wv4 wv5 := by rw [← hX]; exact (Below.refl _ _).alloc (Nat.le_refl _) _
        have sX : wv4.heap.size < wv5.heap.size := by rw [← hX]; simp
        have Fl : FB wv5 wv4.heap.size ls.length (fun _ => .slice none 0 0) 28 := by rw [← hX]; have := FB.madeL wv4 ls.length 28; rw [Nat.mul_one] at this; exact this
        replace Fg := Fg.next LX
        replace Fo := Fo.below LX
        have Bwv5 : Below W.heap.size W wv5 := chain Bwv4 LX
        obtain ⟨gl, hgl⟩ : ∃ q, wv4.heap.size = q := ⟨_, rfl⟩
        have hgl1 : wv4.heap.size ≤ gl := by omega
        have hgl2 : gl < wv5.heap.size := by omega
        rw [hX]
        rw [hgl] at Fl ⊢
        refine hK.out _ _ Bwv5 (fun _ => ?_)
        clear hK K hX LX hgl sX
        refine calm_more14 1 [8] (by kernel_rfl) (by kernel_rfl) (by kernel_rfl) Bwv5 ?_
        iterate 1
          refine ⟨_, rfl, ?_⟩
          apply Exists.intro
          refine ⟨Or.inl ⟨by rfl, fun w' hw' => ?_⟩, ?_⟩
          · first
            | (go_simp; done)
            | (go_simp; with_reducible rfl)
          simp only [Act.put, List.getElem_toArray, List.getElem_cons_succ, List.getElem_cons_zero, List.setIfInBounds_toArray, List.set_cons_zero, List.set_cons_succ]
        have x0 := Fo.c0
        have x1 := Fo.c1
        have xf0 := Fo.frozen 0
        have xf1 := Fo.frozen 1
        have hgl1 := Fg.lt
        have hgl2 := Fl.lt
        have hgl3 := Fo.lt
        refine calm_one 10 (by kernel_rfl) rfl (fun K hK => ?_)
        go_simp
        obtain ⟨wz, hwz⟩ : ∃ wz, (wv5.setCell ⟨o, 0, none⟩ (.slice (some ⟨g, 0, none⟩) ms.length ms.length)).setCell ⟨o, 1, none⟩ (.slice (some ⟨gl, 0, none⟩) ls.length ls.length) = wz := ⟨_, rfl⟩
        have TZ : Two wz o (.slice (some ⟨g, 0, none⟩) ms.length ms.length) (.slice (some ⟨gl, 0, none⟩) ls.length ls.length) 27 := by rw [← hwz]; exact (Fo.set0 _).set1 _
        have Fg2 : FB wz g (ms.length * 2) zeroM 30 := by rw [← hwz]; exact (Fg.far (by omega) _ _).far (by omega) _ _
        have Fl2 : FB wz gl ls.length (fun _ => .slice none 0 0) 28 := by rw [← hwz]; exact (Fl.far (by omega) _ _).far (by omega) _ _
        have BZ : Below W.heap.size W wz := by rw [← hwz]; exact (Bwv5.setCell (by show W.heap.size ≤ o; omega) _).setCell (by show W.heap.size ≤ o; omega) _
        rw [hwz]
        refine hK.out _ _ BZ (fun _ => ?_)
        clear hK K hwz x0 x1 xf0 xf1
        refine wpAnyH_done (by kernel_rfl) ?_ _
        refine NoPanic.normal ?_
        try simp only [Exit.then]
        go_wp2_with fail
        go_meet
        exact ⟨o, g, gl, rfl, TZ, Fg2, Fl2, by omega, by omega, by omega, by omega, by omega, by omega, BZ⟩
    · go_simp
      obtain ⟨wv6, hX⟩ : ∃ w0, wv0.alloc (.cells (madeCells #[.slice none 0 0] ls.length) 28) = w0 := ⟨_, rfl⟩
      have LX : Below wv0.heap.size wv0 wv6 := by rw [← hX]; exact (Below.refl _ _).alloc (Nat.le_refl _) _
      have sX : wv0.heap.size < wv6.heap.size := by rw [← hX]; simp
      have Fl : FB wv6 wv0.heap.size ls.length (fun _ => .slice none 0 0) 28 := by rw [← hX]; have := FB.madeL wv0 ls.length 28; rw [Nat.mul_one] at this; exact this
      have Bwv6 : Below W.heap.size W wv6 := chain Bwv0 LX
      obtain ⟨gl, hgl⟩ : ∃ q, wv0.heap.size = q := ⟨_, rfl⟩
      have hgl1 : wv0.heap.size ≤ gl := by omega
      have hgl2 : gl < wv6.heap.size := by omega
      rw [hX]
      rw [hgl] at Fl ⊢
      refine hK.out _ _ Bwv6 (fun _ => ?_)
      clear hK K hX LX hgl sX
      refine calm_two14 3 9 (by kernel_rfl) rfl rfl (fun K hK => ?_) (fun K hK => ?_)
      · go_simp
        obtain ⟨wv7, hX⟩ : ∃ w0, wv6.alloc (.cells (madeCells #[.int .i64 0, .slice none 0 0] (ms.length * 2)) 30) = w0 := ⟨_, rfl⟩
        have LX : Below wv6.heap.size wv6 wv7 := by rw [← hX]; exact (Below.refl _ _).alloc (Nat.le_refl _) _
        have sX : wv6.heap.size < wv7.heap.size := by rw [← hX]; simp
        have Fg : FB wv7 wv6.heap.size (ms.length * 2) zeroM 30 := by rw [← hX]; exact FB.madeM wv6 _ _
        replace Fl := Fl.next LX
        have Bwv7 : Below W.heap.size W wv7 := chain Bwv6 LX
        obtain ⟨g, hg⟩ : ∃ q, wv6.heap.size = q := ⟨_, rfl⟩
        have hg1 : wv6.heap.size ≤ g := by omega
        have hg2 : g < wv7.heap.size := by omega
        rw [hX]
        rw [hg] at Fg ⊢
        refine hK.out _ _ Bwv7 (fun _ => ?_)
        clear hK K hX LX hg sX
        refine calm_more14 2 [8] (by kernel_rfl) (by kernel_rfl) (by kernel_rfl) Bwv7 ?_
        iterate 1
          refine ⟨_, rfl, ?_⟩
          apply Exists.intro
          refine ⟨Or.inl ⟨by rfl, fun w' hw' => ?_⟩, ?_⟩
          · first
            | (go_simp; done)
            | (go_simp; with_reducible rfl)
          simp only [Act.put, List.getElem_toArray, List.getElem_cons_succ, List.getElem_cons_zero, List.setIfInBounds_toArray, List.set_cons_zero, List.set_cons_succ]
        refine calm_one 9 (by kernel_rfl) rfl (fun K hK => ?_)
        go_simp
        have oE : wv7.heap.size = wv7.heap.size := rfl
        refine hK.out _ _ (Bwv7.alloc Bwv7.size _) (fun _ => ?_)
        clear hK K
        refine calm_one 10 (by kernel_rfl) rfl (fun K hK => ?_)
        go_simp
        obtain ⟨wz, hwz⟩ : ∃ wz, wv7.alloc (.cells #[.slice (some ⟨g, 0, none⟩) ms.length ms.length, .slice (some ⟨gl, 0, none⟩) ls.length ls.length] 27) = wz := ⟨_, rfl⟩
        have LZ : Below wv7.heap.size wv7 wz := by rw [← hwz]; exact (Below.refl _ _).alloc (Nat.le_refl _) _
        have TZ : Two wz wv7.heap.size (.slice (some ⟨g, 0, none⟩) ms.length ms.length) (.slice (some ⟨gl, 0, none⟩) ls.length ls.length) 27 := by rw [← hwz]; exact Two.new wv7 _ _ _
        have hgl1 := Fg.lt
        have hgl2 := Fl.lt
        rw [hwz]
        refine hK.out _ _ (chain Bwv7 LZ) (fun _ => ?_)
        clear hK K hwz
        refine wpAnyH_done (by kernel_rfl) ?_ _
        refine NoPanic.normal ?_
        try simp only [Exit.then]
        go_wp2_with fail
        go_meet
        exact ⟨_, g, gl, rfl, TZ, Fg.next LZ, Fl.next LZ, by have := Bwv7.size; omega, by omega, by omega, by omega, by omega, by omega, chain Bwv7 LZ⟩
      · go_simp
        obtain ⟨wv9, hX⟩ : ∃ w0, wv6.alloc (.cells #[.slice none 0 0, .slice none 0 0] 27) = w0 := ⟨_, rfl⟩
        have LX : Below wv6.heap.size wv6 wv9 := by rw [← hX]; exact (Below.refl _ _).alloc (Nat.le_refl _) _
        have sX : wv6.heap.size < wv9.heap.size := by rw [← hX]; simp
        have Fo : Two wv9 wv6.heap.size (.slice none 0 0) (.slice none 0 0) 27 := by rw [← hX]; exact Two.new wv6 _ _ _
        replace Fl := Fl.next LX
        have Bwv9 : Below W.heap.size W wv9 := chain Bwv6 LX
        obtain ⟨o, ho⟩ : ∃ q, wv6.heap.size = q := ⟨_, rfl⟩
        have ho1 : wv6.heap.size ≤ o := by omega
        have ho2 : o < wv9.heap.size := by omega
        rw [hX]
        rw [ho] at Fo ⊢
        refine hK.out _ _ Bwv9 (fun _ => ?_)
        clear hK K hX LX ho sX
        refine calm_one 3 (by kernel_rfl) rfl (fun K hK => ?_)
        go_simp
        obtain ⟨wv10, hX⟩ : ∃ w0, wv9.alloc (.cells (madeCells #[.int .i64 0, .slice none 0 0] (ms.length * 2)) 30) = w0 := ⟨_, rfl⟩
        have LX : Below wv9.heap.size wv9 wv10 := by rw [← hX]; exact (Below.refl _ _).alloc (Nat.le_refl _) _
        have sX : wv9.heap.size < wv10.heap.size := by rw [← hX]; simp
        have Fg : FB wv10 wv9.heap.size (ms.length * 2) zeroM 30 := by rw [← hX]; exact FB.madeM wv9 _ _
        replace Fl := Fl.next LX
        replace Fo := Fo.below LX
        have Bwv10 : Below W.heap.size W wv10 := chain Bwv9 LX
        obtain ⟨g, hg⟩ : ∃ q, wv9.heap.size = q := ⟨_, rfl⟩
        have hg1 : wv9.heap.size ≤ g := by omega
        have hg2 : g < wv10.heap.size := by omega
        rw [hX]
        rw [hg] at Fg ⊢
        refine hK.out _ _ Bwv10 (fun _ => ?_)
        clear hK K hX LX hg sX
        refine calm_more14 1 [8] (by kernel_rfl) (by kernel_rfl) (by kernel_rfl) Bwv10 ?_
        iterate 1
          refine ⟨_, rfl, ?_⟩
          apply Exists.intro
          refine ⟨Or.inl ⟨by rfl, fun w' hw' => ?_⟩, ?_⟩
          · first
            | (go_simp; done)
            | (go_simp; with_reducible rfl)
          simp only [Act.put, List.getElem_toArray, List.getElem_cons_succ, List.getElem_cons_zero, List.setIfInBounds_toArray, List.set_cons_zero, List.set_cons_succ]
        have x0 := Fo.c0
        have x1 := Fo.c1
        have xf0 := Fo.frozen 0
        have xf1 := Fo.frozen 1
        have hgl1 := Fg.lt
        have hgl2 := Fl.lt
        have hgl3 := Fo.lt
        refine calm_one 10 (by kernel_rfl) rfl (fun K hK => ?_)
        go_simp
        obtain ⟨wz, hwz⟩ : ∃ wz, (wv10.setCell ⟨o, 0, none⟩ (.slice (some ⟨g, 0, none⟩) ms.length ms.length)).setCell ⟨o, 1, none⟩ (.slice (some ⟨gl, 0, none⟩) ls.length ls.length) = wz := ⟨_, rfl⟩
        have TZ : Two wz o (.slice (some ⟨g, 0, none⟩) ms.length ms.length) (.slice (some ⟨gl, 0, none⟩) ls.length ls.length) 27 := by rw [← hwz]; exact (Fo.set0 _).set1 _
        have Fg2 : FB wz g (ms.length * 2) zeroM 30 := by rw [← hwz]; exact (Fg.far (by omega) _ _).far (by omega) _ _
        have Fl2 : FB wz gl ls.length (fun _ => .slice none 0 0) 28 := by rw [← hwz]; exact (Fl.far (by omega) _ _).far (by omega) _ _
        have BZ : Below W.heap.size W wz := by rw [← hwz]; exact (Bwv10.setCell (by show W.heap.size ≤ o; omega) _).setCell (by show W.heap.size ≤ o; omega) _
        rw [hwz]
        refine hK.out _ _ BZ (fun _ => ?_)
        clear hK K hwz x0 x1 xf0 xf1
        refine wpAnyH_done (by kernel_rfl) ?_ _
        refine NoPanic.normal ?_
        try simp only [Exit.then]
        go_wp2_with fail
        go_meet
        exact ⟨o, g, gl, rfl, TZ, Fg2, Fl2, by omega, by omega, by omega, by omega, by omega, by omega, BZ⟩
    · go_simp
      obtain ⟨wv11, hX⟩ : ∃ w0, wv0.alloc (.cells #[.slice none 0 0, .slice none 0 0] 27) = w0 := ⟨_, rfl⟩
      have LX : Below wv0.heap.size wv0 wv11 := by rw [← hX]; exact (Below.refl _ _).alloc (Nat.le_refl _) _
      have sX : wv0.heap.size < wv11.heap.size := by rw [← hX]; simp
      have Fo : Two wv11 wv0.heap.size (.slice none 0 0) (.slice none 0 0) 27 := by rw [← hX]; exact Two.new wv0 _ _ _
      have Bwv11 : Below W.heap.size W wv11 := chain Bwv0 LX
      obtain ⟨o, ho⟩ : ∃ q, wv0.heap.size = q := ⟨_, rfl⟩
      have ho1 : wv0.heap.size ≤ o := by omega
      have ho2 : o < wv11.heap.size := by omega
      rw [hX]
      rw [ho] at Fo ⊢
      refine hK.out _ _ Bwv11 (fun _ => ?_)
      clear hK K hX LX ho sX
      refine calm_two14 3 7 (by kernel_rfl) rfl rfl (fun K hK => ?_) (fun K hK => ?_)
      · go_simp
        obtain ⟨wv12, hX⟩ : ∃ w0, wv11.alloc (.cells (madeCells #[.int .i64 0, .slice none 0 0] (ms.length * 2)) 30) = w0 := ⟨_, rfl⟩
        have LX : Below wv11.heap.size wv11 wv12 := by rw [← hX]; exact (Below.refl _ _).alloc (Nat.le_refl _) _
        have sX : wv11.heap.size < wv12.heap.size := by rw [← hX]; simp
        have Fg : FB wv12 wv11.heap.size (ms.length * 2) zeroM 30 := by rw [← hX]; exact FB.madeM wv11 _ _
        replace Fo := Fo.below LX
        have Bwv12 : Below W.heap.size W wv12 := chain Bwv11 LX
        obtain ⟨g, hg⟩ : ∃ q, wv11.heap.size = q := ⟨_, rfl⟩
        have hg1 : wv11.heap.size ≤ g := by omega
        have hg2 : g < wv12.heap.size := by omega
        rw [hX]
        rw [hg] at Fg ⊢
        refine hK.out _ _ Bwv12 (fun _ => ?_)
        clear hK K hX LX hg sX
        refine calm_one 7 (by kernel_rfl) rfl (fun K hK => ?_)
        go_simp
        obtain ⟨wv13, hX⟩ : ∃ w0, wv12.alloc (.cells (madeCells #[.slice none 0 0] ls.length) 28) = w0 := ⟨_, rfl⟩
        have LX : Below wv12.heap.size wv12 wv13 := by rw [← hX]; exact (Below.refl _ _).alloc (Nat.le_refl _) _
        have sX : wv12.heap.size < wv13.heap.size := by rw [← hX]; simp
        have Fl : FB wv13 wv12.heap.size ls.length (fun _ => .slice none 0 0) 28 := by rw [← hX]; have := FB.madeL wv12 ls.length 28; rw [Nat.mul_one] at this; exact this
        replace Fo := Fo.below LX
        replace Fg := Fg.next LX
        have Bwv13 : Below W.heap.size W wv13 := chain Bwv12 LX
        obtain ⟨gl, hgl⟩ : ∃ q, wv12.heap.size = q := ⟨_, rfl⟩
        have hgl1 : wv12.heap.size ≤ gl := by omega
        have hgl2 : gl < wv13.heap.size := by omega
        rw [hX]
        rw [hgl] at Fl ⊢
        refine hK.out _ _ Bwv13 (fun _ => ?_)
        clear hK K hX LX hgl sX
        refine calm_more14 1 [8] (by kernel_rfl) (by kernel_rfl) (by kernel_rfl) Bwv13 ?_
        iterate 1
          refine ⟨_, rfl, ?_⟩
          apply Exists.intro
          refine ⟨Or.inl ⟨by rfl, fun w' hw' => ?_⟩, ?_⟩
          · first
            | (go_simp; done)
            | (go_simp; with_reducible rfl)
          simp only [Act.put, List.getElem_toArray, List.getElem_cons_succ, List.getElem_cons_zero, List.setIfInBounds_toArray, List.set_cons_zero, List.set_cons_succ]
        have x0 := Fo.c0
        have x1 := Fo.c1
        have xf0 := Fo.frozen 0
        have xf1 := Fo.frozen 1
        have hgl1 := Fg.lt
        have hgl2 := Fl.lt
        have hgl3 := Fo.lt
        refine calm_one 10 (by kernel_rfl) rfl (fun K hK => ?_)
        go_simp
        obtain ⟨wz, hwz⟩ : ∃ wz, (wv13.setCell ⟨o, 0, none⟩ (.slice (some ⟨g, 0, none⟩) ms.length ms.length)).setCell ⟨o, 1, none⟩ (.slice (some ⟨gl, 0, none⟩) ls.length ls.length) = wz := ⟨_, rfl⟩
        have TZ : Two wz o (.slice (some ⟨g, 0, none⟩) ms.length ms.length) (.slice (some ⟨gl, 0, none⟩) ls.length ls.length) 27 := by rw [← hwz]; exact (Fo.set0 _).set1 _
        have Fg2 : FB wz g (ms.length * 2) zeroM 30 := by rw [← hwz]; exact (Fg.far (by omega) _ _).far (by omega) _ _
        have Fl2 : FB wz gl ls.length (fun _ => .slice none 0 0) 28 := by rw [← hwz]; exact (Fl.far (by omega) _ _).far (by omega) _ _
        have BZ : Below W.heap.size W wz := by rw [← hwz]; exact (Bwv13.setCell (by show W.heap.size ≤ o; omega) _).setCell (by show W.heap.size ≤ o; omega) _
        rw [hwz]
        refine hK.out _ _ BZ (fun _ => ?_)
        clear hK K hwz x0 x1 xf0 xf1
        refine wpAnyH_done (by kernel_rfl) ?_ _
        refine NoPanic.normal ?_
        try simp only [Exit.then]
        go_wp2_with fail
        go_meet
        exact ⟨o, g, gl, rfl, TZ, Fg2, Fl2, by omega, by omega, by omega, by omega, by omega, by omega, BZ⟩
      · go_simp
        obtain ⟨wv14, hX⟩ : ∃ w0, wv11.alloc (.cells (madeCells #[.slice none 0 0] ls.length) 28) = w0 := ⟨_, rfl⟩
        have LX : Below wv11.heap.size wv11 wv14 := by rw [← hX]; exact (Below.refl _ _).alloc (Nat.le_refl _) _
        have sX : wv11.heap.size < wv14.heap.size := by rw [← hX]; simp
        have Fl : FB wv14 wv11.heap.size ls.length (fun _ => .slice none 0 0) 28 := by rw [← hX]; have := FB.madeL wv11 ls.length 28; rw [Nat.mul_one] at this; exact this
        replace Fo := Fo.below LX
        have Bwv14 : Below W.heap.size W wv14 := chain Bwv11 LX
        obtain ⟨gl, hgl⟩ : ∃ q, wv11.heap.size = q := ⟨_, rfl⟩
        have hgl1 : wv11.heap.size ≤ gl := by omega
        have hgl2 : gl < wv14.heap.size := by omega
        rw [hX]
        rw [hgl] at Fl ⊢
        refine hK.out _ _ Bwv14 (fun _ => ?_)
        clear hK K hX LX hgl sX
        refine calm_one 3 (by kernel_rfl) rfl (fun K hK => ?_)
        go_simp
        obtain ⟨wv15, hX⟩ : ∃ w0, wv14.alloc (.cells (madeCells #[.int .i64 0, .slice none 0 0] (ms.length * 2)) 30) = w0 := ⟨_, rfl⟩
        have LX : Below wv14.heap.size wv14 wv15 := by rw [← hX]; exact (Below.refl _ _).alloc (Nat.le_refl _) _
        have sX : wv14.heap.size < wv15.heap.size := by rw [← hX]; simp
        have Fg : FB wv15 wv14.heap.size (ms.length * 2) zeroM 30 := by rw [← hX]; exact FB.madeM wv14 _ _
        replace Fo := Fo.below LX
        replace Fl := Fl.next LX
        have Bwv15 : Below W.heap.size W wv15 := chain Bwv14 LX
        obtain ⟨g, hg⟩ : ∃ q, wv14.heap.size = q := ⟨_, rfl⟩
        have hg1 : wv14.heap.size ≤ g := by omega
        have hg2 : g < wv15.heap.size := by omega
        rw [hX]
        rw [hg] at Fg ⊢
        refine hK.out _ _ Bwv15 (fun _ => ?_)
        clear hK K hX LX hg sX
        refine calm_more14 1 [8] (by kernel_rfl) (by kernel_rfl) (by kernel_rfl) Bwv15 ?_
        iterate 1
          refine ⟨_, rfl, ?_⟩
          apply Exists.intro
          refine ⟨Or.inl ⟨by rfl, fun w' hw' => ?_⟩, ?_⟩
          · first
            | (go_simp; done)
            | (go_simp; with_reducible rfl)
          simp only [Act.put, List.getElem_toArray, List.getElem_cons_succ, List.getElem_cons_zero, List.setIfInBounds_toArray, List.set_cons_zero, List.set_cons_succ]
        have x0 := Fo.c0
        have x1 := Fo.c1
        have xf0 := Fo.frozen 0
        have xf1 := Fo.frozen 1
        have hgl1 := Fg.lt
        have hgl2 := Fl.lt
        have hgl3 := Fo.lt
        refine calm_one 10 (by kernel_rfl) rfl (fun K hK => ?_)
        go_simp
        obtain ⟨wz, hwz⟩ : ∃ wz, (wv15.setCell ⟨o, 0, none⟩ (.slice (some ⟨g, 0, none⟩) ms.length ms.length)).setCell ⟨o, 1, none⟩ (.slice (some ⟨gl, 0, none⟩) ls.length ls.length) = wz := ⟨_, rfl⟩
        have TZ : Two wz o (.slice (some ⟨g, 0, none⟩) ms.length ms.length) (.slice (some ⟨gl, 0, none⟩) ls.length ls.length) 27 := by rw [← hwz]; exact (Fo.set0 _).set1 _
        have Fg2 : FB wz g (ms.length * 2) zeroM 30 := by rw [← hwz]; exact (Fg.far (by omega) _ _).far (by omega) _ _
        have Fl2 : FB wz gl ls.length (fun _ => .slice none 0 0) 28 := by rw [← hwz]; exact (Fl.far (by omega) _ _).far (by omega) _ _
        have BZ : Below W.heap.size W wz := by rw [← hwz]; exact (Bwv15.setCell (by show W.heap.size ≤ o; omega) _).setCell (by show W.heap.size ≤ o; omega) _
        rw [hwz]
        refine hK.out _ _ BZ (fun _ => ?_)
        clear hK K hwz x0 x1 xf0 xf1
        refine wpAnyH_done (by kernel_rfl) ?_ _
        refine NoPanic.normal ?_
        try simp only [Exit.then]
        go_wp2_with fail
        go_meet
        exact ⟨o, g, gl, rfl, TZ, Fg2, Fl2, by omega, by omega, by omega, by omega, by omega, by omega, BZ⟩
  case rest =>
    obtain ⟨o, g, gl, rfl, hTo, hFg, hFl, ho, hg, hgl, hog, hogl, hggl, LW⟩ := hcut
    generalize hwc : wc = w1 at *
    clear hwc wc hmkM hmkL BL HS
    have HLW := hidP LW
    have hI1 := HI.out.below LW
    have k0 := hI1.c0
    have HLO := hidP (OPart.start (base := w.heap.size) (ms := ms) hFg (by have := HSZ.out; omega))
    have HFL := hidP hFl
    have HTO := hidP hTo
    have hgll := hFl.lt
    have hol := hTo.lt
    have hWs := HSZ.out.2
    have hgw : w.heap.size + 2 ≤ g := by omega
    have how : w.heap.size + 2 ≤ o := by omega
    have hglw : w.heap.size + 2 ≤ gl := by omega
    have HW1 := hidP LW.size
    clear hI1 hTo hFg hFl LW hWs
    go_wp2_with fail
    clear k0
    go_loopg [20] ms.length (fun gk iv wr => ∃ (k : Nat) (G cc : Nat → Nat) (hi : Nat), k ≤ ms.length ∧ ms.length - k ≤ gk ∧ iv = .int .i64 k ∧ OPart w.heap.size wr g k ms G cc w1.heap.size hi ∧ w1.heap.size ≤ wr.heap.size ∧ FB wr gl ls.length (fun _ => .slice none 0 0) 28 ∧ Two wr o (.slice (some ⟨g, 0, none⟩) ms.length ms.length) (.slice (some ⟨gl, 0, none⟩) ls.length ls.length) 27 ∧ Below W.heap.size W wr)
    case atStart => exact ⟨0, _, _, _, Nat.zero_le _, Nat.sub_le _ _, rfl, HLO.out, Nat.le_refl _, HFL.out, HTO.out, HLW.out⟩
    case round =>
      obtain ⟨k, G, cc, hi, hk, hgk, rfl, hp, hsz, hfl, hto, L⟩ := hrel
      have HP := hidP hp
      have HL := hidP L
      have HF := hidP hfl
      have HT := hidP hto
      have hIr := HI.out.below L
      clear hp L hfl hto
      by_cases hlt : k < ms.length
      · obtain ⟨mb, mo, rfl, hmb2, hms⟩ := MSeg.seg hIr.mv (by omega)
        obtain ⟨c0, pa, pc, c1, hpv⟩ := hms.at (i := k) hlt
        have hi0 : (0 : Int) ≤ (k : Int) := Int.natCast_nonneg _
        have hi1 : (k : Int) < (ms.length : Int) := by omega
        have hok := (mOkAt_iff _ _).1 (marksB_at HMB.out hlt)
        obtain ⟨V1, hV⟩ : ∃ V1, wr.alloc (.cells #[.int .i64 (mid ms k), .slice pa (mat ms k).length pc] 30) = V1 := ⟨_, rfl⟩
        have LV : Below wr.heap.size wr V1 := by rw [← hV]; exact (Below.refl _ _).alloc (Nat.le_refl _) _
        have hYl : wr.heap.size < V1.heap.size := by rw [← hV]; simp
        have y0 : V1.cell? ⟨wr.heap.size, 0, none⟩ = some (.int .i64 (mid ms k)) := by rw [← hV]; simp
        have y1 : V1.cell? ⟨wr.heap.size, 1, none⟩ = some (.slice pa (mat ms k).length pc) := by rw [← hV]; simp
        have LVd : Below wr.heap.size wr V1.drew := LV.drew
        have hOV := (HT.out.below LVd).c0
        have HPD := hidP (HP.out.next LVd)
        have HTD := hidP (HT.out.below LVd)
        have HFD := hidP (HF.out.next LVd)
        have HLD := hidP (chain HL.out LVd)
        have HC := hidP (iOwn15 (mid ms k, pa, pc, mat ms k) V1.drew (hpv.next LVd) (by have := ((mOkAt_iff _ _).1 (marksB_at HMB.out hlt)).2.2.1; exact (okB_len this).1) (hsm.2 k))
        have hol1 := HTD.out.lt
        have hgl1 := HPD.out.blk.lt
        have hszd : w1.heap.size ≤ V1.drew.heap.size := Nat.le_trans hsz LVd.size
        have hwb : w.heap.size ≤ V1.drew.heap.size := by have := HLD.out.size; have := HSZ.out; omega
        clear hms hpv hIr LV LVd hok
        have HSS : Hid (∀ W', Below V1.drew.heap.size V1.drew W' → W'.cell? ⟨o, 0, none⟩ = some (.slice (some ⟨g, 0, none⟩) ms.length ms.length) ∧ W'.cell? ⟨wr.heap.size, 0, none⟩ = some (.int .i64 (mid ms k)) ∧ W'.cell? ⟨wr.heap.size, 1, none⟩ = some (.slice pa (mat ms k).length pc)) := fun W' L' => ⟨(L'.cell (p := ⟨o, 0, none⟩) hol1).trans hOV, (L'.cell (p := ⟨wr.heap.size, 0, none⟩) hYl).trans y0, (L'.cell (p := ⟨wr.heap.size, 1, none⟩) hYl).trans y1⟩
        obtain ⟨id, hid⟩ : ∃ id, mid ms k = id := ⟨_, rfl⟩
        obtain ⟨xl, hxl⟩ : ∃ xl, (mat ms k).length = xl := ⟨_, rfl⟩
        have HID := hidP (And.intro hid hxl)
        simp only at HC
        rw [hid, hxl] at HC HSS
        rw [hxl] at y1
        rw [hid] at y0 c0
        rw [hxl] at c1
        rw [hid, hxl] at hV
        clear hid hxl hOV
        go_wp2_with fail
        clear hV c0 c1 y0 y1
        refine wp_region_calm (S := fun w' => w'.cell? ⟨o, 0, none⟩ = some (.slice (some ⟨g, 0, none⟩) ms.length ms.length) ∧ w'.cell? ⟨wr.heap.size, 0, none⟩ = some (.int .i64 id) ∧ w'.cell? ⟨wr.heap.size, 1, none⟩ = some (.slice pa xl pc)) (fuel := 2)
          [0, 1, 2, 3] _ rfl (by kernel_rfl) (by kernel_rfl) (by kernel_rfl) (by kernel_rfl) (by kernel_rfl) (by kernel_rfl) (by kernel_rfl) (HSS.out _ (Below.refl _ _)) (fun hS => ?_)
        iterate 4
          refine ⟨_, rfl, ?_⟩
          apply Exists.intro
          refine ⟨Or.inl ⟨by rfl, fun w' hw' => ?_⟩, ?_⟩
          · first
            | (go_simp; done)
            | (go_simp; with_reducible rfl)
          simp only [Act.put, List.setIfInBounds_toArray]
        refine calm_one 4 (by kernel_rfl) rfl (fun K hK => ?_)
        go_simp
        refine HC.out.mono ?_
        rintro e w3 ⟨h3, c3, rfl, hr3, L3⟩
        refine hK.out _ _ (HSS.out _ L3) (fun _ => ?_)
        clear hK K
        refine calm_one 5 (by kernel_rfl) rfl (fun K hK => ?_)
        go_simp
        refine hK.out _ _ (HSS.out _ L3) (fun _ => ?_)
        clear hK K hS
        have HST := hidP (HPD.out.step L3 hr3 hwb hszd)
        have hN := HPD.out.next L3
        have f0 := hN.blk.frozen (k * 2)
        have f1 := hN.blk.frozen (k * 2 + 1)
        have e0 := hN.blk.cell (i := k * 2) (by omega)
        have e1 := hN.blk.cell (i := k * 2 + 1) (by omega)
        have hgN := hN.blk.lt
        have HE : Hid (FB ((w3.setCell ⟨g, k * 2, none⟩ (.int .i64 id)).setCell ⟨g, k * 2 + 1, none⟩ (.slice (some ⟨h3, 0, none⟩) xl c3)) gl ls.length (fun _ => .slice none 0 0) 28 ∧ Two ((w3.setCell ⟨g, k * 2, none⟩ (.int .i64 id)).setCell ⟨g, k * 2 + 1, none⟩ (.slice (some ⟨h3, 0, none⟩) xl c3)) o (.slice (some ⟨g, 0, none⟩) ms.length ms.length) (.slice (some ⟨gl, 0, none⟩) ls.length ls.length) 27 ∧ Below W.heap.size W ((w3.setCell ⟨g, k * 2, none⟩ (.int .i64 id)).setCell ⟨g, k * 2 + 1, none⟩ (.slice (some ⟨h3, 0, none⟩) xl c3)) ∧ w1.heap.size ≤ ((w3.setCell ⟨g, k * 2, none⟩ (.int .i64 id)).setCell ⟨g, k * 2 + 1, none⟩ (.slice (some ⟨h3, 0, none⟩) xl c3)).heap.size) :=
          ⟨((HFD.out.next L3).far (by omega) _ _).far (by omega) _ _, ((HTD.out.below L3).far (fun e => hog e.symm) _).far (fun e => hog e.symm) _, ((chain HLD.out L3).setCell (by show W.heap.size ≤ g; exact hg) _).setCell (by show W.heap.size ≤ g; exact hg) _, by rw [setCell_size, setCell_size]; exact Nat.le_trans hszd L3.size⟩
        rw [HID.out.1, HID.out.2] at HST
        clear hr3 L3 hN HPD HFD HTD HLD HC HSS
        refine wpAnyH_done (by kernel_rfl) ?_ _
        simp only [Exit.then]
        go_wp2_with fail
        refine NoPanic.normal ?_
        go_wp2_with fail
        go_roundg (ms.length - (k + 1))
        case rel => exact ⟨k + 1, _, _, _, by omega, Nat.le_refl _, by go_num, HST.out, HE.out.2.2.2, HE.out.1, HE.out.2.1, HE.out.2.2.1⟩
        case measure => omega
      · obtain rfl : k = ms.length := by omega
        have hki : ¬ ((ms.length : Int) < (ms.length : Int)) := by omega
        have k1 := hIr.c1
        have HOP := hidP (HP.out.raise HP.out.top (Nat.le_refl _))
        have HNM := hidP (NM.start (base := w.heap.size) HF.out (by omega) (lo := wr.heap.size) (by have := HF.out.lt; omega) (Nat.le_refl _))
        have hglr := HF.out.lt
        have hgr := HP.out.blk.lt
        have HSR := hidP (Nat.le_refl wr.heap.size)
        clear hIr HP HF
        go_wp2_with fail
        clear k1
        obtain ⟨H, hH⟩ : ∃ H, wr.heap.size = H := ⟨_, rfl⟩
        rw [hH] at HOP HNM HSR hglr hgr
        have HHW : Hid (w1.heap.size ≤ H) := by show _ ≤ _; omega
        clear hH
        go_loopw [35] (fun iv wq => ∃ (j : Nat) (V : Nat → Value), j ≤ ls.length ∧ iv = .int .i64 j ∧ OPart w.heap.size wq g ms.length ms G cc w1.heap.size H ∧ NM w.heap.size wq gl ls.length V (fun i => if i < j then cn ls i else []) H ∧ (∀ i, j ≤ i → V i = .slice none 0 0) ∧ Two wq o (.slice (some ⟨g, 0, none⟩) ms.length ms.length) (.slice (some ⟨gl, 0, none⟩) ls.length ls.length) 27 ∧ Below W.heap.size W wq) (fun iv _ => ls.length - (intOf iv).toNat)
        case atStart => exact ⟨0, _, Nat.zero_le _, rfl, HOP.out, HNM.out.congr (fun i _ => by rw [if_neg (by omega)]), fun _ _ => rfl, HT.out, HL.out⟩
        case round =>
          obtain ⟨j, V, hj, rfl, hop, hnm, hVn, hto, L⟩ := hrel
          generalize hwq : wr = wq at *
          clear hwq wr
          have HOQ := hidP hop
          have HNQ := hidP hnm
          have HVQ := hidP hVn
          have HTQ := hidP hto
          have HLQ := hidP L
          have hIq := HI.out.below L
          clear hop hnm hVn hto L
          by_cases hjl : j < ls.length
          · obtain ⟨lb, lo2, rfl, hlb, hcsg⟩ := hIq.cv.seg (by omega)
            obtain ⟨a, c, lk, hlv⟩ := hcsg j hjl
            have hj0 : (0 : Int) ≤ (j : Int) := Int.natCast_nonneg _
            have hj1 : (j : Int) < (ls.length : Int) := by omega
            have LD : Below wq.heap.size wq wq.drew := (Below.refl _ _).drew
            have HC := hidP (iCloneA a c (cn ls j) wq.drew (hlv.next LD) (hcs.2 j))
            have hoc := HTQ.out.c1
            have hol2 := HTQ.out.lt
            have HSS : Hid (∀ W', Below wq.drew.heap.size wq.drew W' → W'.cell? ⟨o, 1, none⟩ = some (.slice (some ⟨gl, 0, none⟩) ls.length ls.length)) := fun W' L' => (L'.cell (p := ⟨o, 1, none⟩) hol2).trans hoc
            clear hcsg hlv hIq hoc
            go_wp2_with fail
            clear lk
            refine wp_region_calm (S := fun w' => w'.cell? ⟨o, 1, none⟩ = some (.slice (some ⟨gl, 0, none⟩) ls.length ls.length)) (fuel := 2)
              [0, 1, 2, 3] _ rfl (by kernel_rfl) (by kernel_rfl) (by kernel_rfl) (by kernel_rfl) (by kernel_rfl) (by kernel_rfl) (by kernel_rfl) (HSS.out _ (Below.refl _ _)) (fun hS => ?_)
            iterate 4
              refine ⟨_, rfl, ?_⟩
              apply Exists.intro
              refine ⟨Or.inl ⟨by rfl, fun w' hw' => ?_⟩, ?_⟩
              · first
                | (go_simp; done)
                | (go_simp; with_reducible rfl)
              simp only [Act.put, List.setIfInBounds_toArray]
            refine calm_one 4 (by kernel_rfl) rfl (fun K hK => ?_)
            go_simp
            refine HC.out.mono ?_
            rintro e w3 ⟨v3, rfl, ho3, L3⟩
            refine hK.out _ _ (HSS.out _ L3) (fun _ => ?_)
            clear hK K
            refine calm_one 5 (by kernel_rfl) rfl (fun K hK => ?_)
            go_simp
            refine hK.out _ _ (HSS.out _ L3) (fun _ => ?_)
            clear hK K hS
            obtain ⟨a3, c3, rfl, -⟩ := own_form15 ho3
            have L3' : Below wq.heap.size wq w3 := chain LD L3
            have hsq : wq.drew.heap.size = wq.heap.size := rfl
            rw [hsq] at ho3
            have HPT := hidP (HNQ.out.put hjl (w' := w3) (own_mono15 ho3 HNQ.out.top) ⟨L3'.os, L3'.tape, L3'.output, L3'.size, fun k hk _ => L3'.block k hk⟩ (by
              rcases eq : (Value.slice a3 (cn ls j).length c3).ownBlock with _ | q
              · exact Or.inl rfl
              · exact Or.inr (Or.inr ⟨q, rfl, (own_lt15 ho3 eq).1⟩)))
            have f0 := (HNQ.out.next L3').blk.frozen j
            have e0 := (HNQ.out.next L3').blk.cell (i := j) hjl
            rw [HVQ.out j (Nat.le_refl _)] at e0
            have HE : Hid (OPart w.heap.size (w3.setCell ⟨gl, j, none⟩ (.slice a3 (cn ls j).length c3)) g ms.length ms G cc w1.heap.size H ∧ Two (w3.setCell ⟨gl, j, none⟩ (.slice a3 (cn ls j).length c3)) o (.slice (some ⟨g, 0, none⟩) ms.length ms.length) (.slice (some ⟨gl, 0, none⟩) ls.length ls.length) 27 ∧ Below W.heap.size W (w3.setCell ⟨gl, j, none⟩ (.slice a3 (cn ls j).length c3))) :=
              ⟨(HOQ.out.next L3').far (by omega) (Or.inl hgll) _ _, (HTQ.out.below L3').far (fun e => hogl e.symm) _, (chain HLQ.out L3').setCell (by show W.heap.size ≤ gl; exact hgl) _⟩
            clear ho3 L3 L3' LD HOQ HNQ HTQ HLQ HC HSS hsq
            refine wpAnyH_done (by kernel_rfl) ?_ _
            simp only [Exit.then]
            go_wp2_with fail
            refine NoPanic.normal ?_
            go_wp2_with fail
            go_roundw
            case rel => exact ⟨j + 1, _, by omega, by go_num, HE.out.1, HPT.out.congr (fun i _ => by
              simp only [updX]
              by_cases e : i = j
              · rw [if_pos e, if_pos (by omega), e]
              · rw [if_neg e]
                by_cases e2 : i < j
                · rw [if_pos e2, if_pos (by omega)]
                · rw [if_neg e2, if_neg (by omega)]), fun i hi' => by
              unfold updV
              rw [if_neg (by omega)]
              exact HVQ.out i (by omega), HE.out.2.1, HE.out.2.2⟩
            case measure => simp [intOf]; omega
          · obtain rfl : j = ls.length := by omega
            have hji : ¬ ((ls.length : Int) < (ls.length : Int)) := by omega
            have hz := HSZ.out
            have tR := HTR.out.below HLQ.out
            rw [hz.1] at tR
            have r0 := tR.c0
            have r1 := tR.c1
            have rf0 := tR.frozen 0
            have rf1 := tR.frozen 1
            have o0 := HTQ.out.c0
            have o1 := HTQ.out.c1
            have t3 := (tR.set0 (.slice (some ⟨g, 0, none⟩) ms.length ms.length)).set1 (.slice (some ⟨gl, 0, none⟩) ls.length ls.length)
            have q0 := t3.c0
            have q1 := t3.c1
            have HNF := hidP (HNQ.out.congr (Y := cn ls) (fun i hi' => by rw [if_pos hi']))
            have hHw := HHW.out
            have HE : Hid (OPart w.heap.size ((wq.setCell ⟨w.heap.size + 1, 0, none⟩ (.slice (some ⟨g, 0, none⟩) ms.length ms.length)).setCell ⟨w.heap.size + 1, 1, none⟩ (.slice (some ⟨gl, 0, none⟩) ls.length ls.length)) g ms.length ms G cc w1.heap.size H ∧ NM w.heap.size ((wq.setCell ⟨w.heap.size + 1, 0, none⟩ (.slice (some ⟨g, 0, none⟩) ms.length ms.length)).setCell ⟨w.heap.size + 1, 1, none⟩ (.slice (some ⟨gl, 0, none⟩) ls.length ls.length)) gl ls.length V (cn ls) H ∧ Below w.heap.size w ((wq.setCell ⟨w.heap.size + 1, 0, none⟩ (.slice (some ⟨g, 0, none⟩) ms.length ms.length)).setCell ⟨w.heap.size + 1, 1, none⟩ (.slice (some ⟨gl, 0, none⟩) ls.length ls.length))) :=
              ⟨(HOQ.out.far (by omega) (Or.inl (by omega)) _ _).far (by omega) (Or.inl (by omega)) _ _, (HNF.out.far (by omega) (by omega) _ _).far (by omega) (by omega) _ _, ((chain HB.out HLQ.out).setCell (by show w.heap.size ≤ w.heap.size + 1; omega) _).setCell (by show w.heap.size ≤ w.heap.size + 1; omega) _⟩
            clear hIq HOQ HNQ HTQ HLQ hz tR t3 HNF hHw
            go_wp2_with fail
            refine bodyPost_ret (v := .agg #[.slice (some ⟨g, 0, none⟩) ms.length ms.length, .slice (some ⟨gl, 0, none⟩) ls.length ls.length]) (by simp [results, Tryz.results87, go_sem, q0, q1]) rfl ?_
            exact ⟨g, gl, rfl, ⟨G, cc, V, _, _, HE.out.1, HE.out.2.1, hggl, hgll⟩, HE.out.2.2⟩
end Go.Proofs.YtfbhohpbhjlihaaGreat
namespace Go.Proofs.YtfbhohpbhjlihaaGreat
open Go Go.RowKit

/-- What a link changes: the row of lists and the lists in it; new lists are those of before, or new. -/
structure LkChg (gl n : Nat) (V V' : Nat → Value) (w w' : World) : Prop where
  os : w'.os = w.os
  tape : w'.tape = w.tape
  output : w'.output = w.output
  size : w.heap.size ≤ w'.heap.size
  block : ∀ b, b < w.heap.size → b ≠ gl → (∀ i, i < n → (V i).ownBlock ≠ some b) → w'.heap[b]? = w.heap[b]?
  fresh : ∀ i, i < n → ∀ q, (V' i).ownBlock = some q → (∃ k, k < n ∧ (V k).ownBlock = some q) ∨ w.heap.size ≤ q
theorem ins_vals {xs : List Int} {x : Int} (hx : x ∉ xs) : (xs.map (Value.int .i64)).take (plcI x xs) ++ Value.int .i64 x :: (xs.map (Value.int .i64)).drop (plcI x xs) = (insI xs x).map (Value.int .i64) := by
  rw [insI_plc x hx, List.map_append, List.map_cons, List.map_take, List.map_drop]

set_option maxRecDepth 100000 in
set_option maxHeartbeats 8000000 in
theorem iLink (base gl n cl cm lo : Nat) (am : Option Addr) (ms : List Mk) (V : Nat → Value) (X : Nat → List Int) (id other : Int) (w : World) (hm : MView w am ms) (hmb : marksB ms = true) (hf : 0 ≤ zFind ms id) (hn : NM base w gl n V X lo) (hj : zIdx ms id < n) (hr : (X (zIdx ms id)).Pairwise (fun a b => a < b)) (hx : other ∉ X (zIdx ms id)) (hl : (X (zIdx ms id)).length ≤ 1000) :
    Calls Tryz.prog 90 #[.agg #[.slice am ms.length cm, .slice (some ⟨gl, 0, none⟩) n cl], .int .i64 id, .int .i64 other] w fun e w' => e = .returned (.tuple #[]) ∧ (∃ V', NM base w' gl n V' (updX X (zIdx ms id) (insI (X (zIdx ms id)) other)) lo ∧ LkChg gl n V V' w w') := by
  obtain ⟨W, hW⟩ : ∃ W, w.alloc (.cells #[.slice am ms.length cm, .slice (some ⟨gl, 0, none⟩) n cl] 27) = W := ⟨_, rfl⟩
  have hB : Below w.heap.size w W := by rw [← hW]; exact (Below.refl _ _).alloc (Nat.le_refl _) _
  have x0 : W.cell? ⟨w.heap.size, 0, none⟩ = some (.slice am ms.length cm) := by rw [← hW]; simp
  have x1 : W.cell? ⟨w.heap.size, 1, none⟩ = some (.slice (some ⟨gl, 0, none⟩) n cl) := by rw [← hW]; simp
  have hXl : w.heap.size < W.heap.size := by rw [← hW]; simp
  have HP := hidP (iPlace am (some ⟨gl, 0, none⟩) cm n cl ms id W (hm.next hB) hmb)
  have hpi := plc_idx hmb hf
  rw [hpi, decide_eq_true hf] at HP
  obtain ⟨j, hjj⟩ : ∃ j, zIdx ms id = j := ⟨_, rfl⟩
  rw [hjj] at HP hj hr hx hl ⊢
  have HN := hidP (hn.next hB)
  have HB := hidP hB
  have HPW := hidP hr
  have HNX := hidP hx
  have hj0 : (0 : Int) ≤ (j : Int) := Int.natCast_nonneg _
  have hj1 : (j : Int) < (n : Int) := by omega
  have hlow := hn.top
  have HVB : Hid (∀ q, (V j).ownBlock = some q → lo ≤ q ∧ q < w.heap.size) := fun q e => own_lt15 (hn.own j hj) e
  clear hm hmb hf hn hB hpi hjj hr hx
  go_enter Tryz.func90, Tryz.ntmps90
  go_wp2_with fail
  refine HP.out.mono ?_
  rintro e w1 ⟨rfl, L1⟩
  replace x0 := (L1.cell (p := ⟨w.heap.size, 0, none⟩) hXl).trans x0
  replace x1 := (L1.cell (p := ⟨w.heap.size, 1, none⟩) hXl).trans x1
  have hXl1 : w.heap.size < w1.heap.size := Nat.lt_of_lt_of_le hXl L1.size
  have hN1 := HN.out.next L1
  obtain ⟨a, c, ev, hvw⟩ := own_form15 (hN1.own j hj)
  have c1 := hN1.blk.cell hj
  rw [ev] at c1
  have HEV := hidP ev
  have HN1 := hidP hN1
  have HL1 := hidP (chain HB.out L1)
  have HBS := hidP (iBsI a c (X j) other w1 hvw HPW.out (by omega))
  have hgl1 := hN1.blk.lt
  clear L1 hN1 hvw ev HP HN hW hXl
  go_wp2_with fail
  refine HBS.out.mono ?_
  rintro e w2 ⟨⟨fb, rfl⟩, L2⟩
  replace x0 := (L2.cell (p := ⟨w.heap.size, 0, none⟩) hXl1).trans x0
  replace x1 := (L2.cell (p := ⟨w.heap.size, 1, none⟩) hXl1).trans x1
  have hXl2 : w.heap.size < w2.heap.size := Nat.lt_of_lt_of_le hXl1 L2.size
  have HN2 := hidP (HN1.out.next L2)
  have HL2 := hidP (chain HL1.out L2)
  replace c1 := (L2.cell (p := ⟨gl, j, none⟩) hgl1).trans c1
  have hpl := plcI_le other (X j)
  clear L2 HN1 HL1 HBS hXl1 hgl1
  generalize hpp : plcI other (X j) = pp at *
  have HPP := hidP hpp
  clear hpp
  obtain ⟨xl, hxl⟩ : ∃ xl, (X j).length = xl := ⟨_, rfl⟩
  have HXL := hidP hxl
  rw [hxl] at c1 hpl hl HEV
  clear hxl
  go_wp2_with fail
  have HSS : Hid (∀ W', w2.grownBy W' (V j).ownBlock → W'.cell? ⟨w.heap.size, 1, none⟩ = some (.slice (some ⟨gl, 0, none⟩) n cl) ∧ W'.cell? ⟨gl, j, none⟩ = some (.slice a xl c)) := fun W' hg => by
    have hgl2 := HN2.out.blk.lt
    have hout := HN2.out.out
    exact ⟨(World.cell?_of_block (a := ⟨w.heap.size, 1, none⟩) (hg.block w.heap.size hXl2 (fun e => by have := HVB.out _ e.symm; omega))).trans x1, (World.cell?_of_block (a := ⟨gl, j, none⟩) (hg.block gl hgl2 (fun e => by have := HVB.out _ e.symm; omega))).trans c1⟩
  have LD : Below w2.heap.size w2 w2.drew := (Below.refl _ _).drew
  have GD : w2.grownBy w2.drew (V j).ownBlock := ⟨LD.os, LD.tape, LD.output, LD.size, fun k hk _ => LD.block k hk⟩
  obtain ⟨w3, hw3⟩ : ∃ w3, w2.drew.alloc (.cells #[.int .i64 other] 2) = w3 := ⟨_, rfl⟩
  have L3 : Below w2.heap.size w2 w3 := by rw [← hw3]; exact LD.alloc (by show w2.heap.size ≤ w2.drew.heap.size; exact Nat.le_refl _) _
  have G3 : w2.grownBy w3 (V j).ownBlock := ⟨L3.os, L3.tape, L3.output, L3.size, fun k hk _ => L3.block k hk⟩
  have hO : One w3 w2.heap.size (.int .i64 other) 2 := by rw [← hw3]; exact heap_alloc_new w2.drew _
  have hs3 : w2.heap.size < w3.heap.size := by rw [← hw3]; simp
  have HN3 := hidP (HN2.out.next L3)
  have hown := HN3.out.own j hj
  rw [HEV.out] at hown
  have HIN := hidP (iInsertI lo c pp w2.heap.size a ((X j).map (Value.int .i64)) (.int .i64 other) w3 (fun v hv => by obtain ⟨y, -, rfl⟩ := List.mem_map.1 hv; rfl) rfl (by rw [List.length_map, HXL.out]; rw [HXL.out] at hown; exact hown) hO (by rw [List.length_map, HXL.out, ← HEV.out]; exact fun e => by have := HVB.out _ e; omega) (by rw [List.length_map, HXL.out]; exact hpl) (by rw [List.length_map, HXL.out]; omega) HN3.out.top)
  rw [List.length_map, HXL.out, ← HEV.out] at HIN
  have HIN2 : Hid (Calls Tryz.prog 165 #[.slice a xl c, .int .i64 pp, .slice (some ⟨w2.heap.size, 0, none⟩) 1 1] w3 fun e w' => ∃ g G, e = .returned (.slice (some ⟨g, 0, none⟩) (xl + 1) G) ∧ VRowI lo w' g G (((X j).map (Value.int .i64)).take pp ++ Value.int .i64 other :: ((X j).map (Value.int .i64)).drop pp) ∧ w3.grownBy w' (V j).ownBlock ∧ ((V j).ownBlock = some g ∨ g = w3.heap.size)) := by
    have h := HIN.out
    rw [HEV.out] at h
    rw [HEV.out]
    exact h
  clear hown HIN LD hO
  refine wp_region_calm (S := fun w' => w'.cell? ⟨w.heap.size, 1, none⟩ = some (.slice (some ⟨gl, 0, none⟩) n cl) ∧ w'.cell? ⟨gl, j, none⟩ = some (.slice a xl c)) (fuel := 3)
    [0, 1, 2, 3, 4, 5, 6, 7, 8, 9] _ rfl (by kernel_rfl) (by kernel_rfl) (by kernel_rfl) (by kernel_rfl) (by kernel_rfl) (by kernel_rfl) (by kernel_rfl) (HSS.out _ GD) (fun hS => ?_)
  iterate 10
    refine ⟨_, rfl, ?_⟩
    apply Exists.intro
    refine ⟨Or.inl ⟨by rfl, fun w' hw' => ?_⟩, ?_⟩
    · first
      | (go_simp; done)
      | (go_simp; with_reducible rfl)
    simp only [Act.put, List.setIfInBounds_toArray]
  refine calm_one 10 (by kernel_rfl) rfl (fun K hK => ?_)
  go_simp
  refine hK.out _ _ (HSS.out _ G3) (fun _ => ?_)
  clear hK K
  refine calm_one 11 (by kernel_rfl) rfl (fun K hK => ?_)
  go_simp
  refine HIN2.out.mono ?_
  rintro e w4 ⟨g4, c4, rfl, hv4, G4, hat4⟩
  have G24 : w2.grownBy w4 (V j).ownBlock := ⟨G4.os.trans G3.os, G4.tape.trans G3.tape, G4.output.trans G3.output, Nat.le_trans G3.size G4.size, fun k hk hne => (G4.block k (Nat.lt_of_lt_of_le hk G3.size) hne).trans (G3.block k hk hne)⟩
  refine hK.out _ _ (HSS.out _ G24) (fun _ => ?_)
  clear hK K
  refine calm_one 12 (by kernel_rfl) rfl (fun K hK => ?_)
  go_simp
  refine hK.out _ _ (HSS.out _ G24) (fun _ => ?_)
  clear hK K hS
  have hlen : (insI (X j) other).length = xl + 1 := by
    have h := congrArg List.length (ins_vals HNX.out)
    rw [HPP.out] at h
    simp only [List.length_append, List.length_cons, List.length_take, List.length_drop, List.length_map] at h
    have := HXL.out
    omega
  have ho4 : w4.ownsRow lo 2 1 (.slice (some ⟨g4, 0, none⟩) (xl + 1) c4) (insI (X j) other).length ((insI (X j) other).map (Value.int .i64)) := by
    have h := hv4
    unfold VRowI at h
    rw [← HPP.out, ins_vals HNX.out, List.length_map, hlen] at h
    rw [hlen]
    exact h
  have HPT := hidP (HN3.out.put hj ho4 G4 (by
    rcases hat4 with e | e
    · exact Or.inr (Or.inl (by rw [e]; rfl))
    · exact Or.inr (Or.inr ⟨g4, rfl, by omega⟩)))
  have hb4 := HN3.out.blk.same (G4.block gl HN3.out.blk.lt (fun e => by have := HVB.out _ e.symm; have := HN3.out.out; omega))
  have f0 := hb4.frozen j
  have e0 := (HSS.out _ G24).2
  have HCH : Hid (LkChg gl n V (updV V j (.slice (some ⟨g4, 0, none⟩) (xl + 1) c4)) w (w4.setCell ⟨gl, j, none⟩ (.slice (some ⟨g4, 0, none⟩) (xl + 1) c4))) := by
    have hsz := HL2.out.size
    refine ⟨G24.os.trans HL2.out.os, G24.tape.trans HL2.out.tape, G24.output.trans HL2.out.output, by rw [setCell_size]; exact Nat.le_trans hsz G24.size, fun b hb h1 h2 => ?_, fun i hi q hq => ?_⟩
    · exact (Below.heap_setCell w4 ⟨gl, j, none⟩ _ b (fun e => h1 e)).trans ((G24.block b (by omega) (fun e => h2 j hj e.symm)).trans (HL2.out.block b hb))
    · unfold updV at hq
      by_cases e : i = j
      · rw [if_pos e] at hq
        have hq' : g4 = q := by injection hq
        rcases hat4 with h | h
        · exact Or.inl ⟨j, hj, by rw [h, hq']⟩
        · right; omega
      · rw [if_neg e] at hq
        exact Or.inl ⟨i, hi, hq⟩
  clear hv4 G4 G24 G3 GD L3 hat4 ho4 hb4 HIN2 HSS HN3 HN2 hw3 x0 x1 c1
  refine wpAnyH_done (by kernel_rfl) ?_ _
  simp only [Exit.then]
  go_wp2_with fail
  refine NoPanic.normal ?_
  go_wp2_with fail
  exact bodyPost_end (v := .tuple #[]) (by simp [results, Tryz.results90, go_sem]) rfl ⟨rfl, _, HPT.out, HCH.out⟩
end Go.Proofs.YtfbhohpbhjlihaaGreat
namespace Go.Proofs.YtfbhohpbhjlihaaGreat
open Go

theorem insI_last {l : List Int} {x : Int} (h : ∀ y ∈ l, y < x) : insI l x = l ++ [x] := by
  induction l with
  | nil => rfl
  | cons a l ih =>
    have h1 := h a (by simp)
    simp only [insI]
    rw [if_pos (by omega)] <;> first | (rw [ih (fun y hy => h y (by simp [hy]))]; rfl) | skip
/-- The lists behind the first t of those that are near. -/
def lkX (ms : List Mk) (ls : List (List Int)) (ids : List Int) (x : Int) (t i : Nat) : List Int := if i < ms.length then lnkI ms ls (ids.take t) x i else ownI (ids.take t)
theorem lkX_start {ms : List Mk} {ls : List (List Int)} (hl : ls.length = ms.length) (ids : List Int) (x : Int) {i : Nat} (hi : i < ms.length + 1) : cn (ls ++ [[]]) i = lkX ms ls ids x 0 i := by
  unfold lkX
  by_cases h : i < ms.length
  · rw [if_pos h]
    simp [lnkI, hasB, cn, List.getD, List.getElem?_append_left (show i < ls.length by omega)]
  · rw [if_neg h]
    obtain rfl : i = ms.length := by omega
    simp [ownI, cn, List.getD, ← hl]
theorem lkX_end (ms : List Mk) (ls : List (List Int)) (ids : List Int) (x : Int) {i : Nat} (hi : i < ms.length + 1) : lkX ms ls ids x ids.length i = cn (lnkL ms ls ids x) i := by
  unfold lkX
  rw [List.take_length]
  by_cases h : i < ms.length
  · rw [if_pos h, lnkL_at h]
  · rw [if_neg h, show i = ms.length by omega, lnkL_last]
theorem snoc_lt {ms : List Mk} {m : Mk} (hm : marksB (ms ++ [m]) = true) : ∀ j, j < ms.length → mid ms j < m.1 := by
  have key : ∀ k, k ≤ ms.length → ∀ j, j < k → mid (ms ++ [m]) j < mid (ms ++ [m]) k := by
    intro k
    induction k with
    | zero => intro _ j hj; omega
    | succ k ih =>
      intro hk j hj
      have h1 := ((mOkAt_iff _ _).1 (marksB_at hm (i := k + 1) (by simp; omega))).2.2.2.2
      rcases h1 with h1 | h1
      · omega
      · rw [show k + 1 - 1 = k by omega] at h1
        rcases Nat.lt_or_ge j k with e | e
        · have := ih (by omega) j e; omega
        · rw [show j = k by omega]; exact h1
  intro j hj
  have := key ms.length (Nat.le_refl _) j hj
  rw [mid_snoc hj, mid_last] at this
  exact this
theorem snoc_find {ms : List Mk} {m : Mk} (hm : marksB (ms ++ [m]) = true) {j : Nat} (hj : j < ms.length) : 0 ≤ zFind (ms ++ [m]) (mid ms j) ∧ zIdx (ms ++ [m]) (mid ms j) = j := by
  have := zFind_mid hm (i := j) (by simp; omega)
  rw [mid_snoc hj] at this
  exact ⟨by omega, this.2⟩
theorem snoc_last {ms : List Mk} {m : Mk} (hm : marksB (ms ++ [m]) = true) : 0 ≤ zFind (ms ++ [m]) m.1 ∧ zIdx (ms ++ [m]) m.1 = ms.length := by
  have := zFind_mid hm (i := ms.length) (by simp)
  rw [mid_last] at this
  exact ⟨by omega, this.2⟩
/-- One step: what is asked of both links, and what they come to. -/
theorem lkX_step {ms : List Mk} {ls : List (List Int)} {m : Mk} (hw : webB ms ls = true) (hm : marksB (ms ++ [m]) = true) {ids : List Int} (hd : ids.Nodup) (hf : ∀ y ∈ ids, 0 ≤ zFind ms y) {t : Nat} (ht : t < ids.length) :
    ∃ j, j < ms.length ∧ nth ids t = mid ms j ∧ lkX ms ls ids m.1 t j = cn ls j ∧ (cn ls j).Pairwise (fun a b => a < b) ∧ m.1 ∉ cn ls j ∧ (cn ls j).length ≤ 60 ∧ (ownI (ids.take t)).Pairwise (fun a b => a < b) ∧ nth ids t ∉ ownI (ids.take t) ∧ (ownI (ids.take t)).length ≤ 60 ∧
      ∀ i, updX (updX (lkX ms ls ids m.1 t) j (insI (cn ls j) m.1)) ms.length (insI (ownI (ids.take t)) (nth ids t)) i = lkX ms ls ids m.1 (t + 1) i ∨ ms.length < i := by
  have hmem : nth ids t ∈ ids := by simp [nth, List.getD, ht]
  obtain ⟨a, b, c⟩ := zIdx_lt (hf _ hmem)
  have hms := web_marks hw
  have h60 := marksB_len hms
  have hnt := nodup_take hd ht
  have hlt : ∀ y ∈ cn ls (zIdx ms (nth ids t)), y < m.1 := fun y hy => by
    obtain ⟨h1, h2, h3, -⟩ := web_link hw a hy
    have := snoc_lt hm _ h2
    rw [h3] at this
    exact this
  have hlk : lnkI ms ls (ids.take t) m.1 (zIdx ms (nth ids t)) = cn ls (zIdx ms (nth ids t)) := by
    unfold lnkI
    rw [if_neg]
    rw [c, hasB_iff]
    exact hnt
  refine ⟨zIdx ms (nth ids t), a, c.symm, by unfold lkX; rw [if_pos a, hlk], rise_pairs (web_rise hw a), fun h => by have := hlt _ h; omega, by have := links_short hw a; omega, (ownI_fold _ [] List.Pairwise.nil).1, by rw [ownI_mem]; exact hnt, ?_, fun i => ?_⟩
  · have h1 := fold_len14 (ids.take t) []
    have h2 := ids_short hd hf
    unfold ownI
    simp at h1
    omega
  · rcases Nat.lt_or_ge ms.length i with h | h
    · exact Or.inr h
    · left
      unfold updX lkX
      by_cases e1 : i = ms.length
      · rw [if_pos e1, if_neg (by omega)]
        unfold ownI
        rw [List.take_add_one, List.getElem?_eq_getElem ht, List.foldl_append]
        simp [nth, List.getD, ht]
      · have hi : i < ms.length := by omega
        rw [if_neg e1]
        by_cases e2 : i = zIdx ms (nth ids t)
        · rw [if_pos e2, if_pos hi, insI_last hlt, e2]
          unfold lnkI
          rw [if_pos]
          rw [c, hasB_iff, take_mem ht]
          exact Or.inr rfl
        · rw [if_neg e2, if_pos hi, if_pos hi]
          unfold lnkI
          have : hasB (ids.take (t + 1)) (mid ms i) = hasB (ids.take t) (mid ms i) := by
            rw [Bool.eq_iff_iff, hasB_iff, hasB_iff, take_mem ht]
            constructor
            · rintro (h1 | h1)
              · exact h1
              · exfalso
                apply e2
                rw [← h1, (zFind_mid hms hi).2]
            · exact Or.inl
          rw [this]
end Go.Proofs.YtfbhohpbhjlihaaGreat
