/-
  slices.Concat over marks and over lists of links, of whatever length; slices.Clone of numbers.
-/
import Derived.Test.YtaaagmgglolibaaGreatNCatZz
import Derived.Test.YtaaagmgglolibaaGreatBMarkZz
import Derived.Test.YtaaagmgglolibaaGreatAppendZz
namespace Go.Proofs.YtaaagmgglolibaaGreat
open Go Go.RowKit

theorem wrapB {y : Int} (h0 : 0 ≤ y) (h1 : y ≤ 4194304) : wrap64 y = y := by unfold wrap64; omega

set_option maxRecDepth 100000 in
set_option maxHeartbeats 4000000 in
theorem iConcatB (A cap : Nat) (L : List RwC) (w : World) (hA : A < w.heap.size) (hc : ∀ i (h : i < L.length), w.cell? ⟨A, i, none⟩ = some (.slice L[i].1 L[i].2.2.length L[i].2.1)) (hv : ∀ i (h : i < L.length), SView w L[i].1 L[i].2.2) (hL : L.length ≤ 60) (h60 : (catR L).length ≤ 2097152) (hpos : 0 < (catR L).length) :
    Calls Tryz.prog 185 #[.slice (some ⟨A, 0, none⟩) L.length cap] w fun e w' => ∃ g c, e = .returned (.slice (some ⟨g, 0, none⟩) (catR L).length c) ∧ SRow w.heap.size w' g c (catR L) ∧ Below w.heap.size w w' := by
  obtain ⟨j0, hj0, hy0, hy1, hy2⟩ := info_parts Tryz.info29
  have HC := hidP (And.intro hc hv)
  clear hc hv
  go_enter Tryz.func185, Tryz.ntmps185
  go_wp2
  go_loop [3, 11] (fun s i => ∃ k : Nat, k ≤ L.length ∧ i = .int .i64 k ∧ s = .int .i64 ((catR (L.take k)).length : Nat)) (fun _ i => L.length - (intOf i).toNat)
  case atStart => exact ⟨0, by omega, rfl, rfl⟩
  case round =>
    obtain ⟨k, hk, rfl, rfl⟩ := hrel
    by_cases hlt : k < L.length
    · have hck := HC.out.1 k hlt
      have hadd : (catR (L.take (k + 1))).length = (catR (L.take k)).length + L[k].2.2.length := by rw [catR_take hlt, List.length_append]
      have hle := catR_len (L := L) (k := k + 1)
      have hi0 : (0 : Int) ≤ (k : Int) := Int.natCast_nonneg _
      have hi1 : (k : Int) < (L.length : Int) := by omega
      have HAD := hidP hadd
      have hNx : (catR (L.take k)).length + L[k].2.2.length ≤ 2097152 := by omega
      clear hle hadd
      generalize (catR (L.take k)).length = N at *
      generalize L[k] = x at *
      have x1 : wrap64 ((N : Int) + (x.2.2.length : Int)) = (N : Int) + (x.2.2.length : Int) := wrapB (by omega) (by omega)
      have d0 : ¬ ((N : Int) + (x.2.2.length : Int) < 0) := by omega
      go_wp2
      go_round
      case rel => exact ⟨k + 1, by omega, by go_num, by rw [HAD.out]; go_num⟩
      case measure => simp [intOf]; omega
    · obtain rfl : k = L.length := by omega
      have e1 : L.take L.length = L := List.take_length
      rw [e1]
      clear e1
      have HG := hidP (iGrowM (catR L).length w hpos (by omega))
      go_wp2_with fail
      refine HG.out.mono ?_
      rintro e w1 ⟨c1, rfl, hr1, L1⟩
      have HR1 := hidP (And.intro hr1 L1)
      clear hr1 L1 HG
      go_wp2
      go_loopw [6, 27] (fun v i wr => ∃ (k g c : Nat), k ≤ L.length ∧ i = .int .i64 k ∧ v = .slice (some ⟨g, 0, none⟩) (catR (L.take k)).length c ∧ SRow w.heap.size wr g c (catR (L.take k)) ∧ Below w.heap.size w wr) (fun _ i _ => L.length - (intOf i).toNat)
      case atStart => exact ⟨0, w.heap.size, c1, by omega, rfl, rfl, HR1.out.1, HR1.out.2⟩
      case round =>
        clear HR1
        obtain ⟨k, g, c, hk, rfl, rfl, hr, LL⟩ := hrel
        by_cases hlt : k < L.length
        · have hz := LL.size
          have HB := hidP LL
          have hck := (LL.cell (p := ⟨A, k, none⟩) hA).trans (HC.out.1 k hlt)
          have HS := hidP ((HC.out.2 k hlt).next LL).src
          have hgl := hr.lt
          have hle := catR_len (L := L) (k := k + 1)
          have HCT := hidP (catR_take hlt)
          have HR := hidP hr
          have hadd : (catR (L.take (k + 1))).length = (catR (L.take k)).length + L[k].2.2.length := by rw [catR_take hlt, List.length_append]
          have hi0 : (0 : Int) ≤ (k : Int) := Int.natCast_nonneg _
          have hi1 : (k : Int) < (L.length : Int) := by omega
          clear hr LL
          have hMx : (catR (L.take k)).length + L[k].2.2.length ≤ 2097152 := by omega
          have HAD := hidP hadd
          clear hle hadd
          generalize catR (L.take k) = M at *
          generalize L[k] = x at *
          go_wp2_with (at_builtin; refine wpList_append_at _ rfl (.tmp 31) (.tmp 32) 44 rfl w.heap.size 29 j0 _ 2 32 Tryz.underlying44 hj0 hy0 hy1 hy2 rfl (by omega) g M.length c (smCells M) rfl HR.out x.1 x.2.2.length x.2.1 (smCells x.2.2) rfl HS.out (by unfold maxLen; omega) (by omega) hz wr.heap.size rfl ?_; intro gg cc w4 hown hgrow hat hltt)
          go_wp2
          have hr4 : SRow w.heap.size w4 gg cc (catR (L.take (k + 1))) := by rw [HCT.out]; exact SRow.of hown (by simp) (smCells_append M x.2.2).symm
          go_roundw
          case rel => exact ⟨k + 1, gg, cc, by omega, by go_num, by rw [HAD.out], hr4, HB.out.grown hgrow hz (by intro k hk; cases hk; omega)⟩
          case measure => simp [intOf]; omega
        · obtain rfl : k = L.length := by omega
          have e1 : L.take L.length = L := List.take_length
          rw [e1] at hr
          rw [e1]
          have HE := hidP (And.intro hr LL)
          clear hr LL e1
          go_wp2
          go_ret
          exact ⟨g, c, rfl, HE.out.1, HE.out.2⟩


/-- A row of one-cell values, of the call's own. -/
def VR (base : Nat) (w : World) (g c : Nat) (vs : List Value) : Prop := w.ownsRow base 27 1 (.slice (some ⟨g, 0, none⟩) vs.length c) vs.length vs
theorem VR.lt {base : Nat} {w : World} {g c : Nat} {vs : List Value} (h : VR base w g c vs) : base ≤ g ∧ g < w.heap.size := World.ownsRow.lt h g rfl
theorem VR.of15 {base : Nat} {w : World} {g c n : Nat} {vs xs : List Value} (h : w.ownsRow base 27 1 (.slice (some ⟨g, 0, none⟩) n c) n xs) (hn : n = vs.length) (hx : xs = vs) : VR base w g c vs := by
  subst hn hx; exact h
theorem Tryz.info27 : (Tryz.prog.info? 27).map (fun i => (i.zero, i.size, i.bytes)) = some (some (.slice none 0 0), 1, 24) := by kernel_rfl
theorem zeroL_size (n : Nat) : (Builtin.zeroCells #[.slice none 0 0] n).size = n * 1 := by simp [Builtin.zeroCells]
theorem srcV_next {w w' : World} {ao : Option Addr} {vs : List Value} (h : SrcAt w 1 ao vs.length vs) (hb : ∀ a, ao = some a → vs ≠ [] → a.block < w.heap.size) (L : Below w.heap.size w w') : SrcAt w' 1 ao vs.length vs := by
  obtain ⟨h1, h2, h3⟩ := h
  refine ⟨h1, h2, ?_⟩
  rcases h3 with h3 | ⟨a, e, h3⟩
  · exact Or.inl h3
  · refine Or.inr ⟨a, e, fun j u hu => ?_⟩
    have hbb := hb a e (fun e' => by rw [e'] at hu; simp at hu)
    rw [← h3 j u hu]
    refine World.cell?_of_block ?_
    have : ((a.add j).block) = a.block := by unfold Addr.add; split <;> rfl
    rw [this]
    exact L.block _ hbb
abbrev RwL := Option Addr × Nat × List Value
def catV (L : List RwL) : List Value := L.flatMap (·.2.2)
theorem catV_take {L : List RwL} {k : Nat} (h : k < L.length) : catV (L.take (k + 1)) = catV (L.take k) ++ L[k].2.2 := by
  unfold catV
  rw [List.take_add_one, List.getElem?_eq_getElem h, List.flatMap_append]
  congr 1
  simp
theorem catV_len {L : List RwL} {k : Nat} : (catV (L.take k)).length ≤ (catV L).length := by
  have e : catV L = catV (L.take k) ++ catV (L.drop k) := by
    unfold catV
    rw [← List.flatMap_append, List.take_append_drop]
  rw [e]; simp

set_option maxRecDepth 100000 in
set_option maxHeartbeats 1000000 in
theorem iGrowL (n : Nat) (w : World) (h0 : 0 < n) (hn : n ≤ 4194304) :
    Calls Tryz.prog 239 #[.slice none 0 0, .int .i64 n] w fun e w' => ∃ c, e = .returned (.slice (some ⟨w.heap.size, 0, none⟩) 0 c) ∧ VR w.heap.size w' w.heap.size c [] ∧ Below w.heap.size w w' := by
  obtain ⟨j0, hj0, hy0, hy1, hy2⟩ := info_parts Tryz.info27
  have hold : (Builtin.firstCells j0.size 0 (.slice none 0 0)).run Tryz.prog w.drew = .ok (([] : List Value).toArray) w.drew := run_firstCells_none w.drew j0.size 0 0 0
  have hrz := fun ty => Lib.run_append_grow_zeros (P := Tryz.prog) w 45 3 ty 27 j0 _ .i64 .i64 Tryz.underlying45 Tryz.underlying3 hj0 hy0 none 0 0 [] hold n h0 (by omega) (by omega) (by omega) (by rw [hy2]; omega) (growslice_fits (by omega) (by rw [hy2]; omega))
  rw [Nat.zero_add] at hrz
  have hG1 := grownCap_ge w n 0 27
  have hG2 := grownCap_le_maxLen w n 0 27 (by unfold maxLen; omega)
  obtain ⟨G, hG⟩ : ∃ G, G = grownCap w n 0 27 := ⟨_, rfl⟩
  rw [← hG] at hrz hG1 hG2
  have hx : wrap64 ((n : Int) - (0 - 0)) = (n : Int) := by unfold wrap64; omega
  have HW : Hid (VR w.heap.size (w.alloc (.cells (Builtin.zeroCells #[.slice none 0 0] n ++ Builtin.zeroCells #[.slice none 0 0] (G - n)) 27)).drew w.heap.size G [] ∧ Below w.heap.size w (w.alloc (.cells (Builtin.zeroCells #[.slice none 0 0] n ++ Builtin.zeroCells #[.slice none 0 0] (G - n)) 27)).drew) := by
    refine ⟨World.ownsRow_made (base := w.heap.size) (e := 27) (size := 1) w _ G (Nat.le_refl _) hG2 ?_, ((Below.refl w.heap.size w).alloc (Nat.le_refl _) _).drew⟩
    simp only [Array.size_append, zeroL_size]
    omega
  clear hG hold
  go_enter Tryz.func239, Tryz.ntmps239
  go_wp2_with (at_builtin; refine Lib.wpList_append_run _ rfl _ _ _ _ rfl _ _ rfl rfl _ _ (hrz _) ?_)
  go_ret
  exact ⟨G, rfl, HW.out.1, HW.out.2⟩


set_option maxRecDepth 100000 in
set_option maxHeartbeats 4000000 in
theorem iConcatL (A cap : Nat) (L : List RwL) (w : World) (hA : A < w.heap.size) (hc : ∀ i (h : i < L.length), w.cell? ⟨A, i, none⟩ = some (.slice L[i].1 L[i].2.2.length L[i].2.1)) (hv : ∀ i (h : i < L.length), SrcAt w 1 L[i].1 L[i].2.2.length L[i].2.2 ∧ ∀ a, L[i].1 = some a → L[i].2.2 ≠ [] → a.block < w.heap.size) (hL : L.length ≤ 60) (h60 : (catV L).length ≤ 2097152) (hpos : 0 < (catV L).length) :
    Calls Tryz.prog 186 #[.slice (some ⟨A, 0, none⟩) L.length cap] w fun e w' => ∃ g c, e = .returned (.slice (some ⟨g, 0, none⟩) (catV L).length c) ∧ VR w.heap.size w' g c (catV L) ∧ Below w.heap.size w w' := by
  obtain ⟨j0, hj0, hy0, hy1, hy2⟩ := info_parts Tryz.info27
  have HC := hidP (And.intro hc hv)
  clear hc hv
  go_enter Tryz.func186, Tryz.ntmps186
  go_wp2
  go_loop [3, 11] (fun s i => ∃ k : Nat, k ≤ L.length ∧ i = .int .i64 k ∧ s = .int .i64 ((catV (L.take k)).length : Nat)) (fun _ i => L.length - (intOf i).toNat)
  case atStart => exact ⟨0, by omega, rfl, rfl⟩
  case round =>
    obtain ⟨k, hk, rfl, rfl⟩ := hrel
    by_cases hlt : k < L.length
    · have hck := HC.out.1 k hlt
      have hadd : (catV (L.take (k + 1))).length = (catV (L.take k)).length + L[k].2.2.length := by rw [catV_take hlt, List.length_append]
      have hle := catV_len (L := L) (k := k + 1)
      have hi0 : (0 : Int) ≤ (k : Int) := Int.natCast_nonneg _
      have hi1 : (k : Int) < (L.length : Int) := by omega
      have HAD := hidP hadd
      have hNx : (catV (L.take k)).length + L[k].2.2.length ≤ 2097152 := by omega
      clear hle hadd
      generalize (catV (L.take k)).length = N at *
      generalize L[k] = x at *
      have x1 : wrap64 ((N : Int) + (x.2.2.length : Int)) = (N : Int) + (x.2.2.length : Int) := wrapB (by omega) (by omega)
      have d0 : ¬ ((N : Int) + (x.2.2.length : Int) < 0) := by omega
      go_wp2
      go_round
      case rel => exact ⟨k + 1, by omega, by go_num, by rw [HAD.out]; go_num⟩
      case measure => simp [intOf]; omega
    · obtain rfl : k = L.length := by omega
      have e1 : L.take L.length = L := List.take_length
      rw [e1]
      clear e1
      have HG := hidP (iGrowL (catV L).length w hpos (by omega))
      go_wp2_with fail
      refine HG.out.mono ?_
      rintro e w1 ⟨c1, rfl, hr1, L1⟩
      have HR1 := hidP (And.intro hr1 L1)
      clear hr1 L1 HG
      go_wp2
      go_loopw [6, 27] (fun v i wr => ∃ (k g c : Nat), k ≤ L.length ∧ i = .int .i64 k ∧ v = .slice (some ⟨g, 0, none⟩) (catV (L.take k)).length c ∧ VR w.heap.size wr g c (catV (L.take k)) ∧ Below w.heap.size w wr) (fun _ i _ => L.length - (intOf i).toNat)
      case atStart => exact ⟨0, w.heap.size, c1, by omega, rfl, rfl, HR1.out.1, HR1.out.2⟩
      case round =>
        clear HR1
        obtain ⟨k, g, c, hk, rfl, rfl, hr, LL⟩ := hrel
        by_cases hlt : k < L.length
        · have hz := LL.size
          have HB := hidP LL
          have hck := (LL.cell (p := ⟨A, k, none⟩) hA).trans (HC.out.1 k hlt)
          have HS := hidP (srcV_next (HC.out.2 k hlt).1 (HC.out.2 k hlt).2 LL)
          have hgl := hr.lt
          have hle := catV_len (L := L) (k := k + 1)
          have HCT := hidP (catV_take hlt)
          have HR := hidP hr
          have hadd : (catV (L.take (k + 1))).length = (catV (L.take k)).length + L[k].2.2.length := by rw [catV_take hlt, List.length_append]
          have hi0 : (0 : Int) ≤ (k : Int) := Int.natCast_nonneg _
          have hi1 : (k : Int) < (L.length : Int) := by omega
          clear hr LL
          have hMx : (catV (L.take k)).length + L[k].2.2.length ≤ 2097152 := by omega
          have HAD := hidP hadd
          clear hle hadd
          generalize catV (L.take k) = M at *
          generalize L[k] = x at *
          go_wp2_with (at_builtin; refine wpList_append_at _ rfl (.tmp 31) (.tmp 32) 45 rfl w.heap.size 27 j0 _ 1 24 Tryz.underlying45 hj0 hy0 hy1 hy2 rfl (by omega) g M.length c M rfl HR.out x.1 x.2.2.length x.2.1 x.2.2 rfl HS.out (by unfold maxLen; omega) (by omega) hz wr.heap.size rfl ?_; intro gg cc w4 hown hgrow hat hltt)
          go_wp2
          have hr4 : VR w.heap.size w4 gg cc (catV (L.take (k + 1))) := by rw [HCT.out]; exact VR.of15 hown (by simp) rfl
          go_roundw
          case rel => exact ⟨k + 1, gg, cc, by omega, by go_num, by rw [HAD.out], hr4, HB.out.grown hgrow hz (by intro k hk; cases hk; omega)⟩
          case measure => simp [intOf]; omega
        · obtain rfl : k = L.length := by omega
          have e1 : L.take L.length = L := List.take_length
          rw [e1] at hr
          rw [e1]
          have HE := hidP (And.intro hr LL)
          clear hr LL e1
          go_wp2
          go_ret
          exact ⟨g, c, rfl, HE.out.1, HE.out.2⟩

end Go.Proofs.YtaaagmgglolibaaGreat
