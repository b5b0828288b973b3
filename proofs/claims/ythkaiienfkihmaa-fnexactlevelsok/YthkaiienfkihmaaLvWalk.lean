/-
  The walks of the exact laws of chapter 13, over what the program's own functions answer.
-/
import Derived.Test.YthkaiienfkihmaaLvDec
import Derived.Test.YthkaiienfkihmaaJSize
import Derived.Test.YthkaiienfkihmaaMMark
namespace Go.Proofs.Ythkaiienfkihmaa
open Go Go.RowKit

def ILevels : Prop := ∀ (a0 : Option Addr) (c0 : Nat) (ls : List (List Int)) (w : World), CView w a0 ls → CSmall ls → ls.length ≤ c0 → Calls Try.prog 22 #[.slice a0 ls.length c0] w fun e w' => e = .returned (.bool (levB ls)) ∧ Below w.heap.size w w'
def IOff : Prop := ∀ (a0 : Option Addr) (c0 : Nat) (xs0 : List Int) (a1 : Option Addr) (c1 : Nat) (ls : List (List Int)) (w : World), View w a0 xs0 → xs0.length ≤ 1048576 → xs0.length ≤ c0 → CView w a1 ls → CSmall ls → ls.length ≤ c1 → Calls Try.prog 18 #[.slice a0 xs0.length c0, .slice a1 ls.length c1] w fun e w' => e = .returned (.int .i64 (offV xs0 ls)) ∧ Below w.heap.size w w'
def ISumL : Prop := ∀ (a0 : Option Addr) (c0 : Nat) (xs0 : List Int) (a1 : Option Addr) (c1 : Nat) (xs1 : List Int) (a2 : Option Addr) (c2 : Nat) (ls : List (List Int)) (w : World), View w a0 xs0 → xs0.length ≤ 1048576 → xs0.length ≤ c0 → View w a1 xs1 → xs1.length ≤ 1048576 → xs1.length ≤ c1 → CView w a2 ls → CSmall ls → ls.length ≤ c2 → Calls Try.prog 20 #[.slice a0 xs0.length c0, .slice a1 xs1.length c1, .slice a2 ls.length c2] w fun e w' => e = .returned (.int .i64 (sumLV xs0 xs1 ls)) ∧ Below w.heap.size w w'
def ICoded : Prop := ∀ (a0 : Option Addr) (c0 : Nat) (xs0 : List Int) (a1 : Option Addr) (c1 : Nat) (ls : List (List Int)) (w : World), View w a0 xs0 → xs0.length ≤ 1048576 → xs0.length ≤ c0 → CView w a1 ls → CSmall ls → ls.length ≤ c1 → Calls Try.prog 11 #[.slice a0 xs0.length c0, .slice a1 ls.length c1] w fun e w' => ∃ a c, e = .returned (.slice a (codL xs0 ls).length c) ∧ IOut w.heap.size w' (.slice a (codL xs0 ls).length c) (codL xs0 ls) ∧ Below w.heap.size w w'
def IDecoded : Prop := ∀ (a0 : Option Addr) (c0 : Nat) (xs0 : List Int) (a1 : Option Addr) (c1 : Nat) (ls : List (List Int)) (w : World), View w a0 xs0 → xs0.length ≤ 1048576 → xs0.length ≤ c0 → CView w a1 ls → CSmall ls → ls.length ≤ c1 → Calls Try.prog 16 #[.slice a0 xs0.length c0, .slice a1 ls.length c1] w fun e w' => ∃ a c, e = .returned (.slice a (decL xs0 ls).length c) ∧ IOut w.heap.size w' (.slice a (decL xs0 ls).length c) (decL xs0 ls) ∧ Below w.heap.size w w'
set_option maxRecDepth 100000 in
set_option maxHeartbeats 4000000 in
theorem walkLevelsOk (HI : ILevels) (ao0 : Option Addr) (cap0 : Nat) (ls0 : List (List Int)) (w : World) (hv0 : CView w ao0 ls0) (hn0 : ls0.length ≤ maxLen) (hat0 : ∀ i, (cn ls0 i).length ≤ maxLen) :
    Calls Try.prog 4 #[.slice ao0 ls0.length cap0] w fun e w' => e = .returned (.bool true) ∧ Below w.heap.size w w' := by
  have HII := hidP HI
  clear HI
  go_enter Try.func4, Try.ntmps4
  go_wp2_with fail
  refine (szCS ao0 cap0 ls0 1048576 _ hv0 (by omega) (by omega) hn0 hat0).mono ?_
  rintro e w1 ⟨r, rfl, hr, hw1⟩
  subst w1
  by_cases hneg : r < 0
  · go_wp2_with fail
    go_ret
    exact ⟨rfl, Below.refl _ _⟩
  have hcm : CSmall ls0 := by rcases hr with h | h; exact absurd h hneg; exact h
  clear hr
  have HV0 := hidP hv0
  clear hv0
  have L0 : Below w.heap.size w w := Below.refl _ _
  go_wp2_with fail
  refine (toCS ao0 cap0 ls0 _ (HV0.out.next L0) hcm).mono ?_
  rintro e w1 ⟨b1, rfl, o1, hb1, M1⟩
  have L1 := chain L0 M1
  have v1_1 := o1.view
  have HC := hidP (sLevels (some ⟨b1, 0, none⟩) ls0.length ls0 w1 v1_1 hcm)
  obtain ⟨R, hR⟩ : ∃ R, levB ls0 = R := ⟨_, rfl⟩
  rw [hR] at HC
  have HR := hidP hR
  clear hR v1_1 o1 M1 hb1
  go_wp2_with fail
  refine HC.out.mono ?_
  rintro e w2 ⟨rfl, ns, hws⟩
  have L2 : Below w.heap.size w w2 := by rw [hws]; exact below_drewN L1 ns
  clear hws HC
  go_wp2_with fail
  refine (toCS ao0 cap0 ls0 _ (HV0.out.next L2) hcm).mono ?_
  rintro e w3 ⟨b3, rfl, o3, hb3, M3⟩
  have L3 := chain L2 M3
  have v3_3 := o3.view
  have HC := hidP (HII.out (some ⟨b3, 0, none⟩) ls0.length ls0 w3 v3_3 hcm (Nat.le_refl _))
  rw [HR.out] at HC
  clear o3 M3 hb3
  go_wp2_with fail
  refine HC.out.mono ?_
  rintro e w4 ⟨rfl, M4⟩
  have L4 := chain L3 M4
  have v4_3 := v3_3.next M4
  have ht : ((R : Bool) != R) = false := by simp
  clear HC M4 v3_3
  go_wp2_with fail
  refine (toCS ao0 cap0 ls0 _ (HV0.out.next L4) hcm).mono ?_
  rintro e w5 ⟨b5, rfl, o5, hb5, M5⟩
  have L5 := chain L4 M5
  have v5_3 := v4_3.next M5
  clear M5 hb5 v4_3
  go_wp2_with fail
  refine (eqCS _ _ _ _ ls0 _ v5_3 o5.view hcm).mono ?_
  rintro e w6 ⟨rfl, n6, hw6⟩
  have L6 : Below w.heap.size w w6 := by rw [hw6]; exact below_drewN L5 n6
  clear hw6 o5 v5_3 
  go_wp2_with fail
  go_ret
  exact ⟨rfl, L6⟩

set_option maxRecDepth 100000 in
set_option maxHeartbeats 4000000 in
theorem walkOff (HI : IOff) (ao0 : Option Addr) (cap0 : Nat) (xs0 : List Int) (ao1 : Option Addr) (cap1 : Nat) (ls1 : List (List Int)) (w : World) (hv0 : View w ao0 xs0) (hn0 : xs0.length ≤ maxLen) (hv1 : CView w ao1 ls1) (hn1 : ls1.length ≤ maxLen) (hat1 : ∀ i, (cn ls1 i).length ≤ maxLen) :
    Calls Try.prog 7 #[.slice ao0 xs0.length cap0, .slice ao1 ls1.length cap1] w fun e w' => e = .returned (.bool true) ∧ Below w.heap.size w w' := by
  have HII := hidP HI
  clear HI
  unfold maxLen at hn0
  by_cases hbig0 : 1048576 < xs0.length
  · go_enter Try.func7, Try.ntmps7
    go_wp2
    go_ret
    exact ⟨rfl, Below.refl _ _⟩
  have h0n : xs0.length ≤ 1048576 := by omega
  clear hbig0
  go_enter Try.func7, Try.ntmps7
  go_wp2_with fail
  refine (szCS ao1 cap1 ls1 1048576 _ hv1 (by omega) (by omega) hn1 hat1).mono ?_
  rintro e w1 ⟨r, rfl, hr, hw1⟩
  subst w1
  by_cases hneg : r < 0
  · go_wp2_with fail
    go_ret
    exact ⟨rfl, Below.refl _ _⟩
  have hcm : CSmall ls1 := by rcases hr with h | h; exact absurd h hneg; exact h
  clear hr
  have HV0 := hidP hv0
  clear hv0
  have HV1 := hidP hv1
  clear hv1
  have L0 : Below w.heap.size w w := Below.refl _ _
  go_wp2_with fail
  refine (toS ao0 cap0 xs0 _ (View.next HV0.out L0) h0n).mono ?_
  rintro e w1 ⟨b1, rfl, o1, hb1, M1⟩
  have L1 := chain L0 M1
  go_wp2_with fail
  refine (toCS ao1 cap1 ls1 _ (HV1.out.next L1) hcm).mono ?_
  rintro e w2 ⟨b2, rfl, o2, hb2, M2⟩
  have L2 := chain L1 M2
  have v2_1 := (View.next o1.view M2)
  have v2_2 := o2.view
  have HC := hidP (sOff (some ⟨b1, 0, none⟩) (some ⟨b2, 0, none⟩) xs0.length ls1.length xs0 ls1 w2 v2_1 v2_2 h0n hcm)
  obtain ⟨R, hR⟩ : ∃ R, offV xs0 ls1 = R := ⟨_, rfl⟩
  rw [hR] at HC
  have HR := hidP hR
  clear hR v2_1 o1 M1 hb1 v2_2 o2 M2 hb2
  go_wp2_with fail
  refine HC.out.mono ?_
  rintro e w3 ⟨rfl, M3⟩
  have L3 := chain L2 M3
  clear M3 HC
  go_wp2_with fail
  refine (toS ao0 cap0 xs0 _ (View.next HV0.out L3) h0n).mono ?_
  rintro e w4 ⟨b4, rfl, o4, hb4, M4⟩
  have L4 := chain L3 M4
  go_wp2_with fail
  refine (toCS ao1 cap1 ls1 _ (HV1.out.next L4) hcm).mono ?_
  rintro e w5 ⟨b5, rfl, o5, hb5, M5⟩
  have L5 := chain L4 M5
  have v5_4 := (View.next o4.view M5)
  have v5_5 := o5.view
  have HC := hidP (HII.out (some ⟨b4, 0, none⟩) xs0.length xs0 (some ⟨b5, 0, none⟩) ls1.length ls1 w5 v5_4 h0n (Nat.le_refl _) v5_5 hcm (Nat.le_refl _))
  rw [HR.out] at HC
  clear o4 M4 hb4
  clear o5 M5 hb5
  go_wp2_with fail
  refine HC.out.mono ?_
  rintro e w6 ⟨rfl, M6⟩
  have L6 := chain L5 M6
  have v6_4 := View.next v5_4 M6
  have v6_5 := v5_5.next M6
  have ht : ((R : Int) != R) = false := by simp
  clear HC M6 v5_4 v5_5
  go_wp2_with fail
  refine (toS ao0 cap0 xs0 _ (View.next HV0.out L6) h0n).mono ?_
  rintro e w7 ⟨b7, rfl, o7, hb7, M7⟩
  have L7 := chain L6 M7
  have v7_4 := View.next v6_4 M7
  have v7_5 := v6_5.next M7
  clear M7 hb7 v6_4 v6_5
  go_wp2_with fail
  refine (eqS _ _ _ _ xs0 xs0 _ v7_4 o7.view h0n).mono ?_
  rintro e w8 ⟨rfl, n8, hw8⟩
  have hx8 : decide (xs0 = xs0) = true := by simp
  have L8 : Below w.heap.size w w8 := by rw [hw8]; exact below_drewN L7 n8
  have v8_5 : CView w8 (some ⟨b5, 0, none⟩) ls1 := by rw [hw8]; exact v7_5.drewN n8
  clear hw8 o7 v7_4 v7_5
  go_wp2_with fail
  refine (toCS ao1 cap1 ls1 _ (HV1.out.next L8) hcm).mono ?_
  rintro e w9 ⟨b9, rfl, o9, hb9, M9⟩
  have L9 := chain L8 M9
  have v9_5 := v8_5.next M9
  clear M9 hb9 v8_5
  go_wp2_with fail
  refine (eqCS _ _ _ _ ls1 _ v9_5 o9.view hcm).mono ?_
  rintro e w10 ⟨rfl, n10, hw10⟩
  have L10 : Below w.heap.size w w10 := by rw [hw10]; exact below_drewN L9 n10
  clear hw10 o9 v9_5 
  go_wp2_with fail
  go_ret
  exact ⟨rfl, L10⟩

set_option maxRecDepth 100000 in
set_option maxHeartbeats 4000000 in
theorem walkSum (HI : ISumL) (ao0 : Option Addr) (cap0 : Nat) (xs0 : List Int) (ao1 : Option Addr) (cap1 : Nat) (xs1 : List Int) (ao2 : Option Addr) (cap2 : Nat) (ls2 : List (List Int)) (w : World) (hv0 : View w ao0 xs0) (hn0 : xs0.length ≤ maxLen) (hv1 : View w ao1 xs1) (hn1 : xs1.length ≤ maxLen) (hv2 : CView w ao2 ls2) (hn2 : ls2.length ≤ maxLen) (hat2 : ∀ i, (cn ls2 i).length ≤ maxLen) :
    Calls Try.prog 8 #[.slice ao0 xs0.length cap0, .slice ao1 xs1.length cap1, .slice ao2 ls2.length cap2] w fun e w' => e = .returned (.bool true) ∧ Below w.heap.size w w' := by
  have HII := hidP HI
  clear HI
  unfold maxLen at hn0
  by_cases hbig0 : 1048576 < xs0.length
  · go_enter Try.func8, Try.ntmps8
    go_wp2
    go_ret
    exact ⟨rfl, Below.refl _ _⟩
  have h0n : xs0.length ≤ 1048576 := by omega
  clear hbig0
  unfold maxLen at hn1
  by_cases hbig1 : 1048576 < xs1.length
  · go_enter Try.func8, Try.ntmps8
    go_wp2
    go_ret
    exact ⟨rfl, Below.refl _ _⟩
  have h1n : xs1.length ≤ 1048576 := by omega
  clear hbig1
  go_enter Try.func8, Try.ntmps8
  go_wp2_with fail
  refine (szCS ao2 cap2 ls2 1048576 _ hv2 (by omega) (by omega) hn2 hat2).mono ?_
  rintro e w1 ⟨r, rfl, hr, hw1⟩
  subst w1
  by_cases hneg : r < 0
  · go_wp2_with fail
    go_ret
    exact ⟨rfl, Below.refl _ _⟩
  have hcm : CSmall ls2 := by rcases hr with h | h; exact absurd h hneg; exact h
  clear hr
  have HV0 := hidP hv0
  clear hv0
  have HV1 := hidP hv1
  clear hv1
  have HV2 := hidP hv2
  clear hv2
  have L0 : Below w.heap.size w w := Below.refl _ _
  go_wp2_with fail
  refine (toS ao0 cap0 xs0 _ (View.next HV0.out L0) h0n).mono ?_
  rintro e w1 ⟨b1, rfl, o1, hb1, M1⟩
  have L1 := chain L0 M1
  go_wp2_with fail
  refine (toS ao1 cap1 xs1 _ (View.next HV1.out L1) h1n).mono ?_
  rintro e w2 ⟨b2, rfl, o2, hb2, M2⟩
  have L2 := chain L1 M2
  go_wp2_with fail
  refine (toCS ao2 cap2 ls2 _ (HV2.out.next L2) hcm).mono ?_
  rintro e w3 ⟨b3, rfl, o3, hb3, M3⟩
  have L3 := chain L2 M3
  have v3_1 := (View.next (View.next o1.view M2) M3)
  have v3_2 := (View.next o2.view M3)
  have v3_3 := o3.view
  have HC := hidP (sSumL (some ⟨b1, 0, none⟩) (some ⟨b2, 0, none⟩) (some ⟨b3, 0, none⟩) xs0.length xs1.length ls2.length xs0 xs1 ls2 w3 v3_1 v3_2 v3_3 h0n hcm)
  obtain ⟨R, hR⟩ : ∃ R, sumLV xs0 xs1 ls2 = R := ⟨_, rfl⟩
  rw [hR] at HC
  have HR := hidP hR
  clear hR v3_1 o1 M1 hb1 v3_2 o2 M2 hb2 v3_3 o3 M3 hb3
  go_wp2_with fail
  refine HC.out.mono ?_
  rintro e w4 ⟨rfl, M4⟩
  have L4 := chain L3 M4
  clear M4 HC
  go_wp2_with fail
  refine (toS ao0 cap0 xs0 _ (View.next HV0.out L4) h0n).mono ?_
  rintro e w5 ⟨b5, rfl, o5, hb5, M5⟩
  have L5 := chain L4 M5
  go_wp2_with fail
  refine (toS ao1 cap1 xs1 _ (View.next HV1.out L5) h1n).mono ?_
  rintro e w6 ⟨b6, rfl, o6, hb6, M6⟩
  have L6 := chain L5 M6
  go_wp2_with fail
  refine (toCS ao2 cap2 ls2 _ (HV2.out.next L6) hcm).mono ?_
  rintro e w7 ⟨b7, rfl, o7, hb7, M7⟩
  have L7 := chain L6 M7
  have v7_5 := (View.next (View.next o5.view M6) M7)
  have v7_6 := (View.next o6.view M7)
  have v7_7 := o7.view
  have HC := hidP (HII.out (some ⟨b5, 0, none⟩) xs0.length xs0 (some ⟨b6, 0, none⟩) xs1.length xs1 (some ⟨b7, 0, none⟩) ls2.length ls2 w7 v7_5 h0n (Nat.le_refl _) v7_6 h1n (Nat.le_refl _) v7_7 hcm (Nat.le_refl _))
  rw [HR.out] at HC
  clear o5 M5 hb5
  clear o6 M6 hb6
  clear o7 M7 hb7
  go_wp2_with fail
  refine HC.out.mono ?_
  rintro e w8 ⟨rfl, M8⟩
  have L8 := chain L7 M8
  have v8_5 := View.next v7_5 M8
  have v8_6 := View.next v7_6 M8
  have v8_7 := v7_7.next M8
  have ht : ((R : Int) != R) = false := by simp
  clear HC M8 v7_5 v7_6 v7_7
  go_wp2_with fail
  refine (toS ao0 cap0 xs0 _ (View.next HV0.out L8) h0n).mono ?_
  rintro e w9 ⟨b9, rfl, o9, hb9, M9⟩
  have L9 := chain L8 M9
  have v9_5 := View.next v8_5 M9
  have v9_6 := View.next v8_6 M9
  have v9_7 := v8_7.next M9
  clear M9 hb9 v8_5 v8_6 v8_7
  go_wp2_with fail
  refine (eqS _ _ _ _ xs0 xs0 _ v9_5 o9.view h0n).mono ?_
  rintro e w10 ⟨rfl, n10, hw10⟩
  have hx10 : decide (xs0 = xs0) = true := by simp
  have L10 : Below w.heap.size w w10 := by rw [hw10]; exact below_drewN L9 n10
  have v10_6 : View w10 (some ⟨b6, 0, none⟩) xs1 := by rw [hw10]; exact View.drewN v9_6 n10
  have v10_7 : CView w10 (some ⟨b7, 0, none⟩) ls2 := by rw [hw10]; exact v9_7.drewN n10
  clear hw10 o9 v9_5 v9_6 v9_7
  go_wp2_with fail
  refine (toS ao1 cap1 xs1 _ (View.next HV1.out L10) h1n).mono ?_
  rintro e w11 ⟨b11, rfl, o11, hb11, M11⟩
  have L11 := chain L10 M11
  have v11_6 := View.next v10_6 M11
  have v11_7 := v10_7.next M11
  clear M11 hb11 v10_6 v10_7
  go_wp2_with fail
  refine (eqS _ _ _ _ xs1 xs1 _ v11_6 o11.view h1n).mono ?_
  rintro e w12 ⟨rfl, n12, hw12⟩
  have hx12 : decide (xs1 = xs1) = true := by simp
  have L12 : Below w.heap.size w w12 := by rw [hw12]; exact below_drewN L11 n12
  have v12_7 : CView w12 (some ⟨b7, 0, none⟩) ls2 := by rw [hw12]; exact v11_7.drewN n12
  clear hw12 o11 v11_6 v11_7
  go_wp2_with fail
  refine (toCS ao2 cap2 ls2 _ (HV2.out.next L12) hcm).mono ?_
  rintro e w13 ⟨b13, rfl, o13, hb13, M13⟩
  have L13 := chain L12 M13
  have v13_7 := v12_7.next M13
  clear M13 hb13 v12_7
  go_wp2_with fail
  refine (eqCS _ _ _ _ ls2 _ v13_7 o13.view hcm).mono ?_
  rintro e w14 ⟨rfl, n14, hw14⟩
  have L14 : Below w.heap.size w w14 := by rw [hw14]; exact below_drewN L13 n14
  clear hw14 o13 v13_7 
  go_wp2_with fail
  go_ret
  exact ⟨rfl, L14⟩

end Go.Proofs.Ythkaiienfkihmaa
