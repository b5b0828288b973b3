/-
  The walks of the exact laws of chapter 12 whose answer is a word (Total, Tied, Gap), over what the program's own function answers.
-/
import Derived.Test.YtfbindjacmaeoaaETMarkZz
import Derived.Test.YtfbindjacmaeoaaESpAZz
import Derived.Test.YtfbindjacmaeoaaESpPZz
import Derived.Test.YtfbindjacmaeoaaJRwZz
namespace Go.Proofs.Ytfbindjacmaeoaa
open Go Go.RowKit

def ITotal : Prop := ∀ (ao : Option Addr) (cap : Nat) (ts : List Th) (w : World), TView w ao ts → ts.length ≤ 1048576 → Calls Try.prog 19 #[.slice ao ts.length cap] w fun e w' => e = .returned (.int .i64 (totV ts)) ∧ Below w.heap.size w w'
def ITied : Prop := ∀ (ao at_ : Option Addr) (cap ct : Nat) (ms : List Mk) (ts : List Th) (kd : Int) (w : World), MView w ao ms → TView w at_ ts → MSmall ms → ts.length ≤ 1048576 → ms.length ≤ cap → Calls Try.prog 17 #[.slice ao ms.length cap, .slice at_ ts.length ct, .int .i64 kd] w fun e w' => e = .returned (.bool (tiedB ms ts kd)) ∧ Below w.heap.size w w'
def IGap : Prop := ∀ (ao ag : Option Addr) (cap cg : Nat) (ms : List Mk) (kd : Int) (gs : List (List Int)) (w : World), MView w ao ms → CView w ag gs → MSmall ms → CSmall gs → ms.length ≤ cap → Calls Try.prog 28 #[.slice ao ms.length cap, .int .i64 kd, .slice ag gs.length cg] w fun e w' => e = .returned (.int .i64 (gapI ms kd gs)) ∧ Below w.heap.size w w'

set_option maxRecDepth 100000 in
set_option maxHeartbeats 4000000 in
theorem walkTotal (HI : ITotal) (ao0 : Option Addr) (cap0 : Nat) (ts0 : List Th) (w : World) (hv0 : TView w ao0 ts0) (hn0 : ts0.length ≤ maxLen) :
    Calls Try.prog 7 #[.slice ao0 ts0.length cap0] w fun e w' => e = .returned (.bool true) ∧ Below w.heap.size w w' := by
  have HII := hidP HI
  clear HI
  have HS := hidP (szTS ao0 ts0.length cap0 1048576 w hn0 (by omega) (by omega))
  by_cases hl : ts0.length ≤ 1048576
  · have hc : ¬ cutV 1048576 ts0.length < 0 := by unfold cutV; rw [if_neg (by omega)]; omega
    generalize cutV 1048576 ts0.length = r at *
    have HV0 := hidP hv0
    clear hv0
    go_enter Try.func7, Try.ntmps7
    go_wp2_with fail
    refine HS.out.mono ?_
    rintro e w1 ⟨rfl, hw1⟩
    subst w1
    go_wp2_with fail
    refine (toTS ao0 cap0 ts0 _ HV0.out hl).mono ?_
    rintro e w2 ⟨b2, rfl, p2, L2⟩
    go_wp2_with fail
    refine (sTotal _ _ ts0 _ p2.view hl).mono ?_
    rintro e w3 ⟨rfl, hw3⟩
    subst w3
    go_wp2_with fail
    refine (toTS ao0 cap0 ts0 _ (HV0.out.next L2) hl).mono ?_
    rintro e w4 ⟨b4, rfl, p4, M4⟩
    have L4 := chain L2 M4
    clear p2 M4
    have HC := hidP (HII.out (some ⟨b4, 0, none⟩) ts0.length ts0 w4 p4.view hl)
    go_wp2_with fail
    refine HC.out.mono ?_
    rintro e w5 ⟨rfl, M5⟩
    have L5 := chain L4 M5
    have v4 := p4.view.next M5
    have ht : (totV ts0 != totV ts0) = false := by simp
    clear M5 p4 HC
    go_wp2_with fail
    refine (toTS ao0 cap0 ts0 _ (HV0.out.next L5) hl).mono ?_
    rintro e w6 ⟨b6, rfl, p6, M6⟩
    have L6 := chain L5 M6
    have u4 := v4.next M6
    clear v4 M6
    go_wp2_with fail
    refine (eqTS _ _ _ _ ts0 ts0 _ u4 p6.view (by omega)).mono ?_
    rintro e w7 ⟨rfl, M7⟩
    have L7 := chain L6 M7
    have ht2 : decide (ts0 = ts0) = true := by simp
    clear M7
    go_wp2_with fail
    go_ret
    exact ⟨rfl, L7⟩
  · have hc : cutV 1048576 ts0.length < 0 := by unfold cutV; rw [if_pos (by omega)]; omega
    generalize cutV 1048576 ts0.length = r at *
    go_enter Try.func7, Try.ntmps7
    go_wp2_with fail
    refine HS.out.mono ?_
    rintro e w1 ⟨rfl, hw1⟩
    subst w1
    go_wp2_with fail
    go_ret
    exact ⟨rfl, Below.refl _ _⟩

theorem cut_or {left : Int} {n : Nat} (h : left ≤ 1048576) : cutV left n < 0 ∨ n ≤ 1048576 := by
  unfold cutV
  split <;> omega

set_option maxRecDepth 100000 in
set_option maxHeartbeats 4000000 in
theorem walkTied (HI : ITied) (ao0 : Option Addr) (cap0 : Nat) (ms0 : List Mk) (ao1 : Option Addr) (cap1 : Nat) (ts1 : List Th) (x2 : Int) (w : World) (hv0 : MView w ao0 ms0) (hn0 : ms0.length ≤ maxLen) (hat0 : ∀ i, (mat ms0 i).length ≤ maxLen) (hv1 : TView w ao1 ts1) (hn1 : ts1.length ≤ maxLen) :
    Calls Try.prog 6 #[.slice ao0 ms0.length cap0, .slice ao1 ts1.length cap1, .int .i64 x2] w fun e w' => e = .returned (.bool true) ∧ Below w.heap.size w w' := by
  have HII := hidP HI
  clear HI
  go_enter Try.func6, Try.ntmps6
  go_wp2_with fail
  refine (szMS2 ao0 cap0 ms0 _ hv0 hn0 hat0).mono ?_
  rintro e w1 ⟨r, rfl, hr1, hr, L1⟩
  by_cases hneg : r < 0
  · go_wp2_with fail
    go_ret
    exact ⟨rfl, L1⟩
  have hsm : MSmall ms0 := by rcases hr with h | h; exact absurd h hneg; exact h
  clear hr
  have HCT := hidP (cut_or (n := ts1.length) hr1)
  go_wp2_with fail
  refine (szTS ao1 ts1.length cap1 r _ hn1 (by omega) hr1).mono ?_
  rintro e w2 ⟨rfl, hw2⟩
  subst w2
  generalize cutV r ts1.length = r2 at *
  by_cases hneg2 : r2 < 0
  · go_wp2_with fail
    go_ret
    exact ⟨rfl, L1⟩
  have hl : ts1.length ≤ 1048576 := by rcases HCT.out with h | h; exact absurd h hneg2; exact h
  clear HCT
  have HV0 := hidP hv0
  have HV1 := hidP hv1
  clear hv0 hv1
  go_wp2_with fail
  refine (toMS ao0 cap0 ms0 _ (HV0.out.next L1) hsm).mono ?_
  rintro e w3 ⟨b3, rfl, p3, hb3, M3⟩
  have L3 := chain L1 M3
  go_wp2_with fail
  refine (toTS ao1 cap1 ts1 _ (HV1.out.next L3) hl).mono ?_
  rintro e w4 ⟨b4, rfl, p4, M4⟩
  have L4 := chain L3 M4
  have HC := hidP (sTied (some ⟨b3, 0, none⟩) (some ⟨b4, 0, none⟩) ms0.length ts1.length ms0 ts1 x2 w4 (p3.view.next M4) p4.view hsm hl)
  obtain ⟨R, hR⟩ : ∃ R, tiedB ms0 ts1 x2 = R := ⟨_, rfl⟩
  rw [hR] at HC
  have HR := hidP hR
  clear hR p3 p4 M3 M4 hb3
  go_wp2_with fail
  refine HC.out.mono ?_
  rintro e w5 ⟨rfl, M5⟩
  have L5 := chain L4 M5
  clear M5 HC
  go_wp2_with fail
  refine (toMS ao0 cap0 ms0 _ (HV0.out.next L5) hsm).mono ?_
  rintro e w6 ⟨b6, rfl, p6, hb6, M6⟩
  have L6 := chain L5 M6
  go_wp2_with fail
  refine (toTS ao1 cap1 ts1 _ (HV1.out.next L6) hl).mono ?_
  rintro e w7 ⟨b7, rfl, p7, M7⟩
  have L7 := chain L6 M7
  have HC := hidP (HII.out (some ⟨b6, 0, none⟩) (some ⟨b7, 0, none⟩) ms0.length ts1.length ms0 ts1 x2 w7 (p6.view.next M7) p7.view hsm hl (Nat.le_refl _))
  rw [HR.out] at HC
  have v6 := p6.view.next M7
  have v7 := p7.view
  clear p6 p7 M6 M7 hb6
  go_wp2_with fail
  refine HC.out.mono ?_
  rintro e w8 ⟨rfl, M8⟩
  have L8 := chain L7 M8
  have v6' := v6.next M8
  have v7' := v7.next M8
  have ht : (R != R) = false := by simp
  clear HC M8 v6 v7
  go_wp2_with fail
  refine (toMS ao0 cap0 ms0 _ (HV0.out.next L8) hsm).mono ?_
  rintro e w9 ⟨b9, rfl, p9, hb9, M9⟩
  have L9 := chain L8 M9
  have u6 := v6'.next M9
  have u7 := v7'.next M9
  clear v6' v7' M9 hb9
  go_wp2_with fail
  refine (eqMS _ _ _ _ ms0 ms0 _ u6 p9.view hsm).mono ?_
  rintro e wa ⟨rfl, Ma⟩
  have La := chain L9 Ma
  have t7 := u7.next Ma
  have ht2 : decide (ms0 = ms0) = true := by simp
  clear u6 u7 p9 Ma
  go_wp2_with fail
  refine (toTS ao1 cap1 ts1 _ (HV1.out.next La) hl).mono ?_
  rintro e wb ⟨bb, rfl, pb, Mb⟩
  have Lb := chain La Mb
  have s7 := t7.next Mb
  clear t7 Mb
  go_wp2_with fail
  refine (eqTS _ _ _ _ ts1 ts1 _ s7 pb.view (by omega)).mono ?_
  rintro e wc ⟨rfl, Mc⟩
  have Lc := chain Lb Mc
  have ht3 : decide (ts1 = ts1) = true := by simp
  clear Mc
  go_wp2_with fail
  go_ret
  exact ⟨rfl, Lc⟩

set_option maxRecDepth 100000 in
set_option maxHeartbeats 4000000 in
theorem walkGap (HI : IGap) (ao0 : Option Addr) (cap0 : Nat) (ms0 : List Mk) (x1 : Int) (ao2 : Option Addr) (cap2 : Nat) (ls2 : List (List Int)) (w : World) (hv0 : MView w ao0 ms0) (hn0 : ms0.length ≤ maxLen) (hat0 : ∀ i, (mat ms0 i).length ≤ maxLen) (hv2 : CView w ao2 ls2) (hn2 : ls2.length ≤ maxLen) (hat2 : ∀ i, (cn ls2 i).length ≤ maxLen) :
    Calls Try.prog 9 #[.slice ao0 ms0.length cap0, .int .i64 x1, .slice ao2 ls2.length cap2] w fun e w' => e = .returned (.bool true) ∧ Below w.heap.size w w' := by
  have HII := hidP HI
  clear HI
  go_enter Try.func9, Try.ntmps9
  go_wp2_with fail
  refine (szMS2 ao0 cap0 ms0 _ hv0 hn0 hat0).mono ?_
  rintro e w1 ⟨r, rfl, hr1, hr, L1⟩
  by_cases hneg : r < 0
  · go_wp2_with fail
    go_ret
    exact ⟨rfl, L1⟩
  have hsm : MSmall ms0 := by rcases hr with h | h; exact absurd h hneg; exact h
  clear hr
  go_wp2_with fail
  refine (szCS ao2 cap2 ls2 r _ (hv2.next L1) (by omega) hr1 hn2 hat2).mono ?_
  rintro e w2 ⟨r2, rfl, hr2, hw2⟩
  subst w2
  by_cases hneg2 : r2 < 0
  · go_wp2_with fail
    go_ret
    exact ⟨rfl, L1⟩
  have hcm : CSmall ls2 := by rcases hr2 with h | h; exact absurd h hneg2; exact h
  clear hr2
  have HV0 := hidP hv0
  have HV1 := hidP hv2
  clear hv0 hv2
  go_wp2_with fail
  refine (toMS ao0 cap0 ms0 _ (HV0.out.next L1) hsm).mono ?_
  rintro e w3 ⟨b3, rfl, p3, hb3, M3⟩
  have L3 := chain L1 M3
  go_wp2_with fail
  refine (toCS ao2 cap2 ls2 _ (HV1.out.next L3) hcm).mono ?_
  rintro e w4 ⟨b4, rfl, p4, hb4, M4⟩
  have L4 := chain L3 M4
  have HC := hidP (sGap (some ⟨b3, 0, none⟩) (some ⟨b4, 0, none⟩) ms0.length ls2.length ms0 x1 ls2 w4 (p3.view.next M4) p4.view hsm hcm)
  obtain ⟨R, hR⟩ : ∃ R, gapI ms0 x1 ls2 = R := ⟨_, rfl⟩
  rw [hR] at HC
  have HR := hidP hR
  clear hR p3 p4 M3 M4 hb3 hb4
  go_wp2_with fail
  refine HC.out.mono ?_
  rintro e w5 ⟨rfl, M5⟩
  have L5 := chain L4 M5
  clear M5 HC
  go_wp2_with fail
  refine (toMS ao0 cap0 ms0 _ (HV0.out.next L5) hsm).mono ?_
  rintro e w6 ⟨b6, rfl, p6, hb6, M6⟩
  have L6 := chain L5 M6
  go_wp2_with fail
  refine (toCS ao2 cap2 ls2 _ (HV1.out.next L6) hcm).mono ?_
  rintro e w7 ⟨b7, rfl, p7, hb7, M7⟩
  have L7 := chain L6 M7
  have HC := hidP (HII.out (some ⟨b6, 0, none⟩) (some ⟨b7, 0, none⟩) ms0.length ls2.length ms0 x1 ls2 w7 (p6.view.next M7) p7.view hsm hcm (Nat.le_refl _))
  rw [HR.out] at HC
  have v6 := p6.view.next M7
  have v7 := p7.view
  clear p6 p7 M6 M7 hb6 hb7
  go_wp2_with fail
  refine HC.out.mono ?_
  rintro e w8 ⟨rfl, M8⟩
  have L8 := chain L7 M8
  have v6' := v6.next M8
  have v7' := v7.next M8
  have ht : ((R : Int) != R) = false := by simp
  clear HC M8 v6 v7
  go_wp2_with fail
  refine (toMS ao0 cap0 ms0 _ (HV0.out.next L8) hsm).mono ?_
  rintro e w9 ⟨b9, rfl, p9, hb9, M9⟩
  have L9 := chain L8 M9
  have u6 := v6'.next M9
  have u7 := v7'.next M9
  clear v6' v7' M9 hb9
  go_wp2_with fail
  refine (eqMS _ _ _ _ ms0 ms0 _ u6 p9.view hsm).mono ?_
  rintro e wa ⟨rfl, Ma⟩
  have La := chain L9 Ma
  have t7 := u7.next Ma
  have ht2 : decide (ms0 = ms0) = true := by simp
  clear u6 u7 p9 Ma
  go_wp2_with fail
  refine (toCS ao2 cap2 ls2 _ (HV1.out.next La) hcm).mono ?_
  rintro e wb ⟨bb, rfl, pb, hbb, Mb⟩
  have Lb := chain La Mb
  have s7 := t7.next Mb
  clear t7 Mb hbb
  go_wp2_with fail
  refine (eqCS _ _ _ _ ls2 _ s7 pb.view hcm).mono ?_
  rintro e wc ⟨rfl, nc, rfl⟩
  go_wp2_with fail
  go_ret
  exact ⟨rfl, below_drewN Lb nc⟩

end Go.Proofs.Ytfbindjacmaeoaa
