/-
  The program's Given, Cost and Shifted.
-/
import Derived.Test.YthcjkneifkmkdaaJGth
import Derived.Test.YthcjkneifkmkdaaGOut
namespace Go.Proofs.Ythcjkneifkmkdaa
open Go Go.RowKit

theorem cost_all {ms : List Mk} {cs : List (List Int)} (h : ctrsB ms cs = true) : sumTo (gcost ms cs ms.length) cs.length = costV ms cs := by
  have h1 := (ctrsB_of h).1
  rw [costV, if_pos h]
  have e := sumG_all (givN ms cs) (gfar ms cs) cs.length ms.length (fun j _ => givN_lt h1 j)
  rw [show sumTo (gcost ms cs ms.length) cs.length = sumTo (fun i => sumG (givN ms cs) (gfar ms cs i) i ms.length) cs.length from rfl, ← e]
  refine sumTo_congr _ _ _ (fun j _ => ?_)
  show farV _ _ = farV _ _
  rw [farV_comm]
theorem gmean_shift (ms : List Mk) (cs : List (List Int)) (i : Nat) : gmean (cn cs i) (gsum ms cs ms.length i) (gmany ms cs ms.length i) = shiftP ms cs i := by
  unfold gmean gmany
  split
  · rename_i h
    unfold shiftP
    have : shiftF ms cs i = nth (cn cs i) := by funext k; simp only [shiftF]; rw [if_pos h]
    rw [this, tabL_list]
  · rename_i h
    rw [gsum_length]
    unfold shiftP
    apply eq_of_nth
    · simp [tabL_length]
    · intro k hk
      rw [tabL_length] at hk
      rw [tabL_getD _ _ _ hk, tabL_getD _ _ _ hk]
      show meanN (nth (gsum ms cs ms.length i) k) _ = shiftF ms cs i k
      rw [gsum, tabL_getD _ _ _ hk, shiftF, if_neg h]
      rfl

set_option maxRecDepth 100000 in
set_option maxHeartbeats 1000000 in
theorem iGiven_no (ao ao' : Option Addr) (cap cap' : Nat) (ms : List Mk) (cs : List (List Int)) (w : World) (hv : MView w ao ms) (hv' : CView w ao' cs) (hsm : MSmall ms) (hcm : CSmall cs) (hc : ctrsB ms cs = false) :
    Calls Try.prog 11 #[.slice ao ms.length cap, .slice ao' cs.length cap'] w fun e w' => e = .returned (.slice none 0 0) ∧ Below w.heap.size w w' := by
  have HT := hidP (iCtr ao ao' cap cap' ms cs w hv hv' hsm hcm)
  rw [hc] at HT
  go_enter Try.func11, Try.ntmps11
  go_wp2_with fail
  refine HT.out.mono ?_
  rintro e w1 ⟨rfl, L1⟩
  go_wp2_with fail
  go_ret
  exact ⟨rfl, L1⟩

set_option maxRecDepth 100000 in
set_option maxHeartbeats 1000000 in
theorem iGiven_nil (ao ao' : Option Addr) (cap cap' : Nat) (cs : List (List Int)) (w : World) (hv' : CView w ao' cs) (hcm : CSmall cs) (hc : ctrsB [] cs = true) :
    Calls Try.prog 11 #[.slice ao 0 cap, .slice ao' cs.length cap'] w fun e w' => ∃ g, e = .returned (.slice (some ⟨g, 0, none⟩) 0 0) ∧ Own w' g [] ∧ w.heap.size ≤ g ∧ Below w.heap.size w w' := by
  have HT := hidP (iCtr ao ao' cap cap' [] cs w (Or.inl rfl) hv' ⟨by simp, fun i => by simp [mat]⟩ hcm)
  rw [hc] at HT
  have hmk : ∀ w, (Instr.makeSlice 29 (.int .i64 0) (.int .i64 0)).run Try.prog w = .ok (.slice (some ⟨w.heap.size, 0, none⟩) 0 0) (w.alloc (.cells #[] 2)) := fun _ => by kernel_rfl
  go_enter Try.func11, Try.ntmps11
  go_wp2_with fail
  refine HT.out.mono ?_
  rintro e w1 ⟨rfl, L1⟩
  have HP : Hid (Own (w1.alloc (.cells #[] 2)) w1.heap.size [] ∧ Below w.heap.size w (w1.alloc (.cells #[] 2))) := ⟨Own.new w1 [], L1.alloc L1.size _⟩
  have hz := L1.size
  clear L1
  go_wp2_with fail
  clear hmk
  refine wp_loop_rounds 1 ?_
  rw [rounds_succ]
  go_wp2
  go_ret
  exact ⟨w1.heap.size, rfl, HP.out.1, hz, HP.out.2⟩

set_option maxRecDepth 100000 in
set_option maxHeartbeats 2000000 in
theorem iGiven_in (b off : Nat) (ao' : Option Addr) (cap cap' : Nat) (ms : List Mk) (cs : List (List Int)) (w : World) (hb : b < w.heap.size) (hs : MSeg w b off ms) (hv' : CView w ao' cs) (hsm : MSmall ms) (hcm : CSmall cs) (hc : ctrsB ms cs = true) :
    Calls Try.prog 11 #[.slice (some ⟨b, off, none⟩) ms.length cap, .slice ao' cs.length cap'] w fun e w' => ∃ g, e = .returned (.slice (some ⟨g, 0, none⟩) ms.length ms.length) ∧ Own w' g (tabL (givF ms cs) ms.length) ∧ w.heap.size ≤ g ∧ Below w.heap.size w w' := by
  have HT := hidP (iCtr (some ⟨b, off, none⟩) ao' cap cap' ms cs w (Or.inr ⟨b, off, rfl, hb, hs⟩) hv' hsm hcm)
  rw [hc] at HT
  have hm60 : ms.length ≤ 60 := marksB_len (toldB_of (ctrsB_of hc).2.2.2).1
  obtain ⟨h1, h8, -, -⟩ := ctrsB_of hc
  have hmk := run_make_row' (P := Try.prog) 29 2 (.int .i64 0) 8 Try.underlying29 Try.info2 rfl .i64 .i64 ms.length (by omega) (by omega)
  have HC := hidP hc
  have HS := hidP hs
  have HCV := hidP hv'
  clear hc hs hv'
  go_enter Try.func11, Try.ntmps11
  go_wp2_with fail
  refine HT.out.mono ?_
  rintro e w1 ⟨rfl, L1⟩
  obtain ⟨V, hV⟩ : ∃ V, V = w1.heap.size := ⟨_, rfl⟩
  have HP : Hid ((w1.alloc (.cells (filled (givF ms cs) ms.length 0) 2)).heap[V]? = some (.cells (filled (givF ms cs) ms.length 0) 2) ∧ Below w.heap.size w (w1.alloc (.cells (filled (givF ms cs) ms.length 0) 2))) := ⟨by rw [hV]; exact heap_alloc_new w1 _, L1.alloc L1.size _⟩
  have hz : w.heap.size ≤ V := by rw [hV]; exact L1.size
  rw [← filled_zero (givF ms cs) ms.length] at hmk
  clear L1 HT
  go_wp2_with fail
  rw [← hV]
  clear hmk hV
  go_loopw [17] (fun i wr => ∃ k : Nat, k ≤ ms.length ∧ i = .int .i64 k ∧ wr.heap[V]? = some (.cells (filled (givF ms cs) ms.length k) 2) ∧ Below w.heap.size w wr) (fun i _ => ms.length - (intOf i).toNat)
  case atStart => exact ⟨0, Nat.zero_le _, rfl, HP.out.1, HP.out.2⟩
  case round =>
    obtain ⟨k, hk, rfl, ho, L⟩ := hrel
    by_cases hlt : k < ms.length
    · obtain ⟨hc0, ae, ce, hc1, hve⟩ := HS.out.at hlt
      have hd0 := (L.cell (p := ⟨b, off + k * 2, none⟩) hb).trans hc0
      have hd1 := (L.cell (p := ⟨b, off + k * 2 + 1, none⟩) hb).trans hc1
      have hlw : V < wr.heap.size := (Array.getElem?_eq_some_iff.1 ho).1
      have hnext := filled_next (givF ms cs) ms.length k hlt
      obtain ⟨W, hW⟩ : ∃ W, W = wr.alloc (.cells #[.int .i64 (mid ms k), .slice ae (mat ms k).length ce] 37) := ⟨_, rfl⟩
      have ho2 : W.heap[V]? = some (.cells (filled (givF ms cs) ms.length k) 2) := by rw [hW]; exact (Below.heap_alloc _ _ _ hlw).trans ho
      have L2 : Below w.heap.size w W := by rw [hW]; exact L.alloc L.size _
      have cm : W.cell? ⟨wr.heap.size, 1, none⟩ = some (.slice ae (mat ms k).length ce) := by rw [hW]; go_simp
      have HN := hidP (iNearest ae ao' ce cap' (mat ms k) cs W (hve.next L2) (HCV.out.next L2) h1 h8 (fun i hi => ctrs_two HC.out hi hlt))
      have HGE : Hid (((givI cs (mat ms k) cs.length : Nat) : Int) = givF ms cs k) := rfl
      rw [HGE.out] at HN
      have HF := hidP (filled_set (givF ms cs) ms.length k hlt)
      have HO := hidP ho2
      have HL := hidP L2
      have hWV : V < W.heap.size := (Array.getElem?_eq_some_iff.1 ho2).1
      have hi0 : (0 : Int) ≤ (k : Int) := Int.natCast_nonneg _
      have hi1 : (k : Int) < (ms.length : Int) := by omega
      clear ho L ho2 L2 hve hc0 hc1 HGE
      generalize givF ms cs k = y at *
      go_upto_region 7 with fail
      rw [← hW]
      clear hW hd0 hd1
      go_wp2_with fail
      refine HN.out.mono ?_
      rintro e w2 ⟨rfl, L2⟩
      have ho2 := (L2.block V hWV).trans HO.out
      have e1 : w2.cell? ⟨V, k, none⟩ = some (.int .i64 0) := by simp [World.cell?, ho2, hnext]
      have e2 : w2.frozen? ⟨V, k, none⟩ = false := by simp [World.frozen?, ho2]
      have HO2 := hidP ho2
      have HL2 := hidP (chain HL.out L2)
      clear ho2 L2 HN cm hnext
      go_wp2_with fail
      go_roundw
      case rel =>
        refine ⟨k + 1, by omega, by go_num, ?_, HL2.out.setCell (p := ⟨V, k, none⟩) hz _⟩
        rw [← HF.out]
        exact heap_setCell_same w2 V k _ 2 _ HO2.out
      case measure => simp [intOf]; omega
    · obtain rfl : k = ms.length := by omega
      rw [filled_all] at ho
      have HE := hidP (And.intro ho L)
      clear ho L
      go_wp2
      go_ret
      exact ⟨V, rfl, HE.out.1, hz, HE.out.2⟩

/-- Given: nothing, or a row of its own. -/
theorem iGiven (ao ao' : Option Addr) (cap cap' : Nat) (ms : List Mk) (cs : List (List Int)) (w : World) (hv : MView w ao ms) (hv' : CView w ao' cs) (hsm : MSmall ms) (hcm : CSmall cs) :
    Calls Try.prog 11 #[.slice ao ms.length cap, .slice ao' cs.length cap'] w fun e w' => ∃ a c, e = .returned (.slice a (givenL ms cs).length c) ∧ IOut w.heap.size w' (.slice a (givenL ms cs).length c) (givenL ms cs) ∧ Below w.heap.size w w' := by
  rcases hc : ctrsB ms cs with _ | _
  · refine (iGiven_no ao ao' cap cap' ms cs w hv hv' hsm hcm hc).mono ?_
    rintro e w' ⟨rfl, L⟩
    have e : givenL ms cs = [] := by rw [givenL, hc]; rfl
    rw [e]
    exact ⟨none, 0, rfl, Or.inl ⟨rfl, rfl⟩, L⟩
  · have e : givenL ms cs = tabL (givF ms cs) ms.length := by rw [givenL, if_pos hc]
    have hm60 : ms.length ≤ 60 := marksB_len (toldB_of (ctrsB_of hc).2.2.2).1
    rcases hv with rfl | ⟨b, off, rfl, hb, hs⟩
    · refine (iGiven_nil ao ao' cap cap' cs w hv' hcm hc).mono ?_
      rintro e' w' ⟨g, rfl, o, hg, L⟩
      rw [e]
      exact ⟨some ⟨g, 0, none⟩, 0, rfl, Or.inr ⟨g, 0, rfl, o.irow hg (Nat.zero_le _)⟩, L⟩
    · refine (iGiven_in b off ao' cap cap' ms cs w hb hs hv' hsm hcm hc).mono ?_
      rintro e' w' ⟨g, rfl, o, hg, L⟩
      have ho := o.out (base := w.heap.size) hg (by rw [tabL_length]; unfold maxLen; omega)
      rw [tabL_length] at ho
      rw [e, tabL_length]
      exact ⟨some ⟨g, 0, none⟩, ms.length, rfl, ho, L⟩

set_option maxRecDepth 100000 in
set_option maxHeartbeats 2000000 in
theorem iCost (ao ao' : Option Addr) (cap cap' : Nat) (ms : List Mk) (cs : List (List Int)) (w : World) (hv : MView w ao ms) (hv' : CView w ao' cs) (hsm : MSmall ms) (hcm : CSmall cs) :
    Calls Try.prog 17 #[.slice ao ms.length cap, .slice ao' cs.length cap'] w fun e w' => e = .returned (.int .i64 (costV ms cs)) ∧ Below w.heap.size w w' := by
  have HT := hidP (iCtr ao ao' cap cap' ms cs w hv hv' hsm hcm)
  rcases hc : ctrsB ms cs with _ | _
  · have HV : Hid (costV ms cs = -1) := by show _ = _; rw [costV, hc]; rfl
    rw [HV.out]
    rw [hc] at HT
    go_enter Try.func17, Try.ntmps17
    go_wp2_with fail
    refine HT.out.mono ?_
    rintro e w1 ⟨rfl, L1⟩
    go_wp2_with fail
    go_ret
    exact ⟨rfl, L1⟩
  · rw [hc] at HT
    obtain ⟨h1, h8, -, -⟩ := ctrsB_of hc
    have hm60 : ms.length ≤ 60 := marksB_len (toldB_of (ctrsB_of hc).2.2.2).1
    obtain ⟨b', off', rfl, hb', hs'⟩ := hv'.seg (by omega)
    obtain ⟨ba, oa, ca, hct⟩ := ctr_at hs' (fun i hi => (okB_len (ctrs_len hc hi).1).1)
    have HG : Hid (∀ w1, Below w.heap.size w w1 → Calls Try.prog 36 #[.slice ao ms.length cap, .slice (some ⟨b', off', none⟩) cs.length cap'] w1 fun e w' => ∃ A Q gs, e = .returned (.slice (some ⟨A, 0, none⟩) cs.length cs.length) ∧ GAll w' A cs.length Q (ctrV ba oa ca cs) (gmany ms cs ms.length) (gcost ms cs ms.length) gs (gsum ms cs ms.length) ∧ w1.heap.size ≤ A ∧ Below w1.heap.size w1 w') := fun w1 L1 =>
      iGath ao b' off' cap cap' ba oa ca ms cs w1 (hv.next L1) (Nat.lt_of_lt_of_le hb' L1.size) (hs'.below hb' (Nat.le_refl _) L1) (fun i hi => by
        obtain ⟨x1, x2, x3⟩ := hct i hi
        exact ⟨(L1.cell (p := ⟨b', off' + i, none⟩) hb').trans x1, Nat.lt_of_lt_of_le x2 L1.size, x3.below x2 L1⟩) hc
    have HCA := hidP (cost_all hc)
    have HB : Hid (∀ i, i < cs.length → 0 ≤ gcost ms cs ms.length i ∧ gcost ms cs ms.length i ≤ 960000000) := fun i hi => by have := gcost_bd hc hi ms.length (Nat.le_refl _); omega
    have HSB : Hid (∀ k, k ≤ cs.length → 0 ≤ sumTo (gcost ms cs ms.length) k ∧ sumTo (gcost ms cs ms.length) k ≤ 960000000 * (k : Int)) := fun k => by
      induction k with
      | zero => intro _; simp [sumTo]
      | succ k ih => intro hk; have := ih (by omega); have := HB.out k (by omega); simp only [sumTo]; omega
    clear hv hv' hs' hct hc
    rw [← HCA.out]
    go_enter Try.func17, Try.ntmps17
    go_wp2_with fail
    refine HT.out.mono ?_
    rintro e w1 ⟨rfl, L1⟩
    have HL1 := hidP L1
    clear L1 HT
    go_wp2_with fail
    refine (HG.out w1 HL1.out).mono ?_
    rintro e w2 ⟨A, Q, gs, rfl, G2, hA, L2⟩
    have HG2 := hidP (And.intro G2 (chain HL1.out L2))
    clear G2 L2 HG HL1
    go_wp2_with fail
    go_loopw [5, 16] (fun v i wr => ∃ k : Nat, k ≤ cs.length ∧ i = .int .i64 k ∧ v = .int .i64 (sumTo (gcost ms cs ms.length) k) ∧ Below w2.heap.size w2 wr) (fun _ i _ => cs.length - (intOf i).toNat)
    case atStart => exact ⟨0, Nat.zero_le _, rfl, rfl, Below.refl _ _⟩
    case round =>
      obtain ⟨k, hk, rfl, rfl, L⟩ := hrel
      have hsb := HSB.out k hk
      by_cases hlt : k < cs.length
      · have GW := HG2.out.1.below L
        obtain ⟨x0, x1, x2⟩ := GW.cells k hlt
        have hg := HB.out k hlt
        have hAl := GW.lt
        obtain ⟨W, hW⟩ : ∃ W, W = wr.alloc (.cells #[addV (Q k), cstV (Q k), menV (Q k)] 54) := ⟨_, rfl⟩
        have LW : Below wr.heap.size wr W := by rw [hW]; exact alloc_below wr _
        have HLW := hidP (chain L LW)
        have cm : W.cell? ⟨wr.heap.size, 1, none⟩ = some (cstV (Q k)) := by rw [hW]; go_simp
        obtain ⟨k1, -⟩ := one_cell ((GW.below LW).here k hlt).hcost
        have HF := hidP (iCstFn (Q k).2.2.1 (gcost ms cs ms.length k) W k1)
        have HN : Hid (sumTo (gcost ms cs ms.length) (k + 1) = sumTo (gcost ms cs ms.length) k + gcost ms cs ms.length k) := rfl
        have hi0 : (0 : Int) ≤ (k : Int) := Int.natCast_nonneg _
        have hi1 : (k : Int) < (cs.length : Int) := by omega
        clear GW L LW k1
        generalize gcost ms cs ms.length k = y at *
        unfold addV cstV menV at *
        go_upto_region 7 with fail
        rw [← hW]
        clear hW x0 x1 x2
        go_wp2_with fail
        refine HF.out.mono ?_
        rintro e w3 ⟨rfl, hw3⟩
        subst w3
        go_wp2_with fail
        go_roundw
        case rel => exact ⟨k + 1, by omega, by go_num, by rw [HN.out], HLW.out⟩
        case measure => simp [intOf]; omega
      · obtain rfl : k = cs.length := by omega
        have HE := hidP (chain HG2.out.2 L)
        clear L
        go_wp2_with fail
        go_ret
        exact ⟨rfl, HE.out⟩

end Go.Proofs.Ythcjkneifkmkdaa
