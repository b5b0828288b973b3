/-
  The walks of the exact laws of chapter 14, over what the program's own functions answer.
-/
import Derived.Test.YtlggpfgamjoeaaaFeHelpZz
import Derived.Test.YtlggpfgamjoeaaaFeIsZz
import Derived.Test.YtlggpfgamjoeaaaFeBmZz
import Derived.Test.YtlggpfgamjoeaaaLastZz
import Derived.Test.YtlggpfgamjoeaaaBMarkZz
namespace Go.Proofs.Ytlggpfgamjoeaaa
open Go Go.RowKit

def IWebOk : Prop := ∀ (am : Option Addr) (cm : Nat) (ms : List Mk) (al : Option Addr) (cl : Nat) (ls : List (List Int)) (w : World), MView w am ms → CView w al ls → MSmall ms → CSmall ls → ms.length ≤ cm → ls.length ≤ cl → Calls Try.prog 27 #[.agg #[.slice am ms.length cm, .slice al ls.length cl]] w fun e w' => e = .returned (.bool (webB ms ls)) ∧ Below w.heap.size w w'
def IIslands : Prop := ∀ (am : Option Addr) (cm : Nat) (ms : List Mk) (al : Option Addr) (cl : Nat) (ls : List (List Int)) (w : World), MView w am ms → CView w al ls → MSmall ms → CSmall ls → ms.length ≤ cm → ls.length ≤ cl → Calls Try.prog 22 #[.agg #[.slice am ms.length cm, .slice al ls.length cl]] w fun e w' => e = .returned (.int .i64 (islV ms ls)) ∧ Below w.heap.size w w'

set_option maxRecDepth 100000 in
set_option maxHeartbeats 4000000 in
theorem walkWebOk (HI : IWebOk) (a1 a2 : Option Addr) (c1 c2 : Nat) (ms : List Mk) (ls : List (List Int)) (w : World) (hv1 : MView w a1 ms) (hv2 : CView w a2 ls) (hn1 : ms.length ≤ maxLen) (hat1 : ∀ i, (mat ms i).length ≤ maxLen) (hn2 : ls.length ≤ maxLen) (hat2 : ∀ i, (cn ls i).length ≤ maxLen) :
    Calls Try.prog 5 #[.agg #[.slice a1 ms.length c1, .slice a2 ls.length c2]] w fun e w' => e = .returned (.bool true) ∧ Below w.heap.size w w' := by
  have HII := hidP HI
  clear HI
  obtain ⟨W, hW⟩ : ∃ W, w.alloc (.cells #[.slice a1 ms.length c1, .slice a2 ls.length c2] 50) = W := ⟨_, rfl⟩
  have hB : Below w.heap.size w W := by rw [← hW]; exact (Below.refl _ _).alloc (Nat.le_refl _) _
  have hI : WebIn W w.heap.size a1 c1 ms a2 c2 ls := by rw [← hW]; exact WebIn.box hv1 hv2
  have HS := hidP (szW a1 a2 c1 c2 ms ls W hI.mv hI.cv hn1 hat1 hn2 hat2)
  have HB := hidP hB
  have HW := hidP hI
  have k0 := hI.c0
  have k1 := hI.c1
  clear hv1 hv2 hB hI hat1 hat2
  go_enter Try.func5, Try.ntmps5
  go_wp2_with fail
  refine HS.out.mono ?_
  rintro e w1 ⟨r, rfl, hr, L1⟩
  by_cases hneg : r < 0
  · go_wp2_with fail
    go_ret
    exact ⟨rfl, chain HB.out L1⟩
  obtain ⟨hsm, hcs⟩ : MSmall ms ∧ CSmall ls := by rcases hr with h | h; exact absurd h hneg; exact h
  have hI1 := HW.out.below L1
  have p0 := hI1.c0
  have p1 := hI1.c1
  have HW1 := hidP hI1
  have HB1 := hidP (chain HB.out L1)
  have HC := hidP (toW a1 a2 c1 c2 ms ls w1 hI1.mv hI1.cv hsm hcs)
  obtain ⟨R, hR⟩ : ∃ R, webB ms ls = R := ⟨_, rfl⟩
  have HR := hidP hR
  clear hr L1 hI1 HS k0 k1 hW hR
  go_wp2_with fail
  refine HC.out.mono ?_
  rintro e w2 ⟨bm2, bl2, rfl, o2, L2⟩
  have HC2 := hidP (sWebOk _ _ ms.length ls.length ms ls w2 o2.mv o2.cv hsm hcs)
  rw [HR.out] at HC2
  have HB2 := hidP L2
  clear o2 L2
  go_wp2_with fail
  refine HC2.out.mono ?_
  rintro e w3 ⟨rfl, L3⟩
  have HB3 := hidP (chain HB2.out L3)
  have hI3 := HW1.out.below (chain HB2.out L3)
  have p0 := hI3.c0
  have p1 := hI3.c1
  have HC3 := hidP (toW a1 a2 c1 c2 ms ls w3 hI3.mv hI3.cv hsm hcs)
  have HW3 := hidP hI3
  clear L3 hI3
  go_wp2_with fail
  refine HC3.out.mono ?_
  rintro e w4 ⟨bm, bl, rfl, o4, L4⟩
  obtain ⟨w5, hw5⟩ : ∃ w5, w4.alloc (.cells #[.slice (some ⟨bm, 0, none⟩) ms.length ms.length, .slice (some ⟨bl, 0, none⟩) ls.length ls.length] 27) = w5 := ⟨_, rfl⟩
  have L5 : Below w4.heap.size w4 w5 := by rw [← hw5]; exact (Below.refl _ _).alloc (Nat.le_refl _) _
  have hI5 : WebIn w5 w4.heap.size (some ⟨bm, 0, none⟩) ms.length ms (some ⟨bl, 0, none⟩) ls.length ls := by rw [← hw5]; exact WebIn.box o4.mv o4.cv
  have q0 := hI5.c0
  have q1 := hI5.c1
  have HW5 := hidP hI5
  have HI5 := hidP (HW3.out.below (chain L4 L5))
  have HB5 := hidP (chain (chain HB3.out L4) L5)
  have HC5 := hidP (HII.out _ ms.length ms _ ls.length ls w5 hI5.mv hI5.cv hsm hcs (Nat.le_refl _) (Nat.le_refl _))
  rw [HR.out] at HC5
  clear o4 L4 L5 hI5
  go_wp2_with fail
  refine HC5.out.mono ?_
  rintro e w6 ⟨rfl, L6⟩
  have ht : ((R : Bool) != R) = false := by simp
  have HW6 := hidP (HW5.out.below L6)
  have HI6 := hidP (HI5.out.below L6)
  have HB6 := hidP (chain HB5.out L6)
  have HS6 : Hid (∀ W', Below w6.heap.size w6 W' → (W'.cell? ⟨w4.heap.size, 0, none⟩ = some (.slice (some ⟨bm, 0, none⟩) ms.length ms.length) ∧ W'.cell? ⟨w4.heap.size, 1, none⟩ = some (.slice (some ⟨bl, 0, none⟩) ls.length ls.length)) ∧ W'.cell? ⟨w.heap.size, 0, none⟩ = some (.slice a1 ms.length c1) ∧ W'.cell? ⟨w.heap.size, 1, none⟩ = some (.slice a2 ls.length c2)) := fun W' L' => ⟨⟨(HW6.out.below L').c0, (HW6.out.below L').c1⟩, (HI6.out.below L').c0, (HI6.out.below L').c1⟩
  have HC6 := hidP (toW a1 a2 c1 c2 ms ls w6.drew (HI6.out.below (Below.refl _ _).drew).mv (HI6.out.below (Below.refl _ _).drew).cv hsm hcs)
  have BL := hidP ((Below.refl w6.heap.size w6).drew)
  clear L6 hw5
  go_wp2_with fail
  refine wp_region_takes (S := fun W' => Below w6.heap.size w6 W') (fuel := 3) [0, 1] (by kernel_rfl) (by kernel_rfl) (by kernel_rfl) (by kernel_rfl) BL.out (fun _ => ?_)
  iterate 2
    refine ⟨_, rfl, ?_⟩
    apply Exists.intro
    refine ⟨Or.inl ⟨by rfl, fun w' hw' => ?_⟩, ?_⟩
    · obtain ⟨⟨e1, e2⟩, e3, e4⟩ := HS6.out w' hw'
      first
      | (go_simp; done)
      | (go_simp; with_reducible rfl)
    simp only [Act.put, List.getElem_toArray, List.getElem_cons_succ, List.getElem_cons_zero, List.setIfInBounds_toArray, List.set_cons_zero, List.set_cons_succ]
  refine calm_one 2 (by kernel_rfl) rfl (fun K hK => ?_)
  go_simp
  refine HC6.out.mono ?_
  rintro e w7 ⟨bm7, bl7, rfl, o7, L7⟩
  have HL7 := hidP (chain BL.out L7)
  have HC7 := hidP (eqW _ _ _ _ ms.length ls.length ms.length ls.length ms ls w7 (HW6.out.below HL7.out).mv (HW6.out.below HL7.out).cv o7.mv o7.cv hsm hcs)
  clear o7 L7
  refine hK.out _ _ HL7.out (fun _ => ?_)
  clear hK K
  refine calm_one 3 (by kernel_rfl) rfl (fun K hK => ?_)
  go_simp
  refine HC7.out.mono ?_
  rintro e w8 ⟨rfl, L8⟩
  have HL8 := hidP (chain HL7.out L8)
  clear L8
  refine hK.out _ _ HL8.out (fun _ => ?_)
  clear hK K
  refine calm_rest [4] rfl (by kernel_rfl) (by kernel_rfl) (by kernel_rfl) HL8.out ?_
  iterate 1
    refine ⟨_, rfl, ?_⟩
    apply Exists.intro
    refine ⟨Or.inl ⟨by rfl, fun w' hw' => ?_⟩, ?_⟩
    · skip
      first
      | (go_simp; done)
      | (go_simp; with_reducible rfl)
    simp only [Act.put, List.getElem_toArray, List.getElem_cons_succ, List.getElem_cons_zero, List.setIfInBounds_toArray, List.set_cons_zero, List.set_cons_succ]
  refine NoPanic.normal (NoPanic.normal ?_)
  have HF := hidP (chain HB1.out (chain HB6.out HL8.out))
  clear HS6 HC6 BL HL7 HL8
  go_wp2_with fail
  go_ret
  exact ⟨rfl, HF.out⟩

set_option maxRecDepth 100000 in
set_option maxHeartbeats 4000000 in
theorem walkIslands (HI : IIslands) (a1 a2 : Option Addr) (c1 c2 : Nat) (ms : List Mk) (ls : List (List Int)) (w : World) (hv1 : MView w a1 ms) (hv2 : CView w a2 ls) (hn1 : ms.length ≤ maxLen) (hat1 : ∀ i, (mat ms i).length ≤ maxLen) (hn2 : ls.length ≤ maxLen) (hat2 : ∀ i, (cn ls i).length ≤ maxLen) :
    Calls Try.prog 8 #[.agg #[.slice a1 ms.length c1, .slice a2 ls.length c2]] w fun e w' => e = .returned (.bool true) ∧ Below w.heap.size w w' := by
  have HII := hidP HI
  clear HI
  obtain ⟨W, hW⟩ : ∃ W, w.alloc (.cells #[.slice a1 ms.length c1, .slice a2 ls.length c2] 50) = W := ⟨_, rfl⟩
  have hB : Below w.heap.size w W := by rw [← hW]; exact (Below.refl _ _).alloc (Nat.le_refl _) _
  have hI : WebIn W w.heap.size a1 c1 ms a2 c2 ls := by rw [← hW]; exact WebIn.box hv1 hv2
  have HS := hidP (szW a1 a2 c1 c2 ms ls W hI.mv hI.cv hn1 hat1 hn2 hat2)
  have HB := hidP hB
  have HW := hidP hI
  have k0 := hI.c0
  have k1 := hI.c1
  clear hv1 hv2 hB hI hat1 hat2
  go_enter Try.func8, Try.ntmps8
  go_wp2_with fail
  refine HS.out.mono ?_
  rintro e w1 ⟨r, rfl, hr, L1⟩
  by_cases hneg : r < 0
  · go_wp2_with fail
    go_ret
    exact ⟨rfl, chain HB.out L1⟩
  obtain ⟨hsm, hcs⟩ : MSmall ms ∧ CSmall ls := by rcases hr with h | h; exact absurd h hneg; exact h
  have hI1 := HW.out.below L1
  have p0 := hI1.c0
  have p1 := hI1.c1
  have HW1 := hidP hI1
  have HB1 := hidP (chain HB.out L1)
  have HC := hidP (toW a1 a2 c1 c2 ms ls w1 hI1.mv hI1.cv hsm hcs)
  obtain ⟨R, hR⟩ : ∃ R, islV ms ls = R := ⟨_, rfl⟩
  have HR := hidP hR
  clear hr L1 hI1 HS k0 k1 hW hR
  go_wp2_with fail
  refine HC.out.mono ?_
  rintro e w2 ⟨bm2, bl2, rfl, o2, L2⟩
  have HC2 := hidP (sIslands _ _ ms.length ls.length ms ls w2 o2.mv o2.cv hsm hcs)
  rw [HR.out] at HC2
  have HB2 := hidP L2
  clear o2 L2
  go_wp2_with fail
  refine HC2.out.mono ?_
  rintro e w3 ⟨rfl, L3⟩
  have HB3 := hidP (chain HB2.out L3)
  have hI3 := HW1.out.below (chain HB2.out L3)
  have p0 := hI3.c0
  have p1 := hI3.c1
  have HC3 := hidP (toW a1 a2 c1 c2 ms ls w3 hI3.mv hI3.cv hsm hcs)
  have HW3 := hidP hI3
  clear L3 hI3
  go_wp2_with fail
  refine HC3.out.mono ?_
  rintro e w4 ⟨bm, bl, rfl, o4, L4⟩
  obtain ⟨w5, hw5⟩ : ∃ w5, w4.alloc (.cells #[.slice (some ⟨bm, 0, none⟩) ms.length ms.length, .slice (some ⟨bl, 0, none⟩) ls.length ls.length] 27) = w5 := ⟨_, rfl⟩
  have L5 : Below w4.heap.size w4 w5 := by rw [← hw5]; exact (Below.refl _ _).alloc (Nat.le_refl _) _
  have hI5 : WebIn w5 w4.heap.size (some ⟨bm, 0, none⟩) ms.length ms (some ⟨bl, 0, none⟩) ls.length ls := by rw [← hw5]; exact WebIn.box o4.mv o4.cv
  have q0 := hI5.c0
  have q1 := hI5.c1
  have HW5 := hidP hI5
  have HI5 := hidP (HW3.out.below (chain L4 L5))
  have HB5 := hidP (chain (chain HB3.out L4) L5)
  have HC5 := hidP (HII.out _ ms.length ms _ ls.length ls w5 hI5.mv hI5.cv hsm hcs (Nat.le_refl _) (Nat.le_refl _))
  rw [HR.out] at HC5
  clear o4 L4 L5 hI5
  go_wp2_with fail
  refine HC5.out.mono ?_
  rintro e w6 ⟨rfl, L6⟩
  have ht : ((R : Int) != R) = false := by simp
  have HW6 := hidP (HW5.out.below L6)
  have HI6 := hidP (HI5.out.below L6)
  have HB6 := hidP (chain HB5.out L6)
  have HS6 : Hid (∀ W', Below w6.heap.size w6 W' → (W'.cell? ⟨w4.heap.size, 0, none⟩ = some (.slice (some ⟨bm, 0, none⟩) ms.length ms.length) ∧ W'.cell? ⟨w4.heap.size, 1, none⟩ = some (.slice (some ⟨bl, 0, none⟩) ls.length ls.length)) ∧ W'.cell? ⟨w.heap.size, 0, none⟩ = some (.slice a1 ms.length c1) ∧ W'.cell? ⟨w.heap.size, 1, none⟩ = some (.slice a2 ls.length c2)) := fun W' L' => ⟨⟨(HW6.out.below L').c0, (HW6.out.below L').c1⟩, (HI6.out.below L').c0, (HI6.out.below L').c1⟩
  have HC6 := hidP (toW a1 a2 c1 c2 ms ls w6.drew (HI6.out.below (Below.refl _ _).drew).mv (HI6.out.below (Below.refl _ _).drew).cv hsm hcs)
  have BL := hidP ((Below.refl w6.heap.size w6).drew)
  clear L6 hw5
  go_wp2_with fail
  refine wp_region_takes (S := fun W' => Below w6.heap.size w6 W') (fuel := 3) [0, 1] (by kernel_rfl) (by kernel_rfl) (by kernel_rfl) (by kernel_rfl) BL.out (fun _ => ?_)
  iterate 2
    refine ⟨_, rfl, ?_⟩
    apply Exists.intro
    refine ⟨Or.inl ⟨by rfl, fun w' hw' => ?_⟩, ?_⟩
    · obtain ⟨⟨e1, e2⟩, e3, e4⟩ := HS6.out w' hw'
      first
      | (go_simp; done)
      | (go_simp; with_reducible rfl)
    simp only [Act.put, List.getElem_toArray, List.getElem_cons_succ, List.getElem_cons_zero, List.setIfInBounds_toArray, List.set_cons_zero, List.set_cons_succ]
  refine calm_one 2 (by kernel_rfl) rfl (fun K hK => ?_)
  go_simp
  refine HC6.out.mono ?_
  rintro e w7 ⟨bm7, bl7, rfl, o7, L7⟩
  have HL7 := hidP (chain BL.out L7)
  have HC7 := hidP (eqW _ _ _ _ ms.length ls.length ms.length ls.length ms ls w7 (HW6.out.below HL7.out).mv (HW6.out.below HL7.out).cv o7.mv o7.cv hsm hcs)
  clear o7 L7
  refine hK.out _ _ HL7.out (fun _ => ?_)
  clear hK K
  refine calm_one 3 (by kernel_rfl) rfl (fun K hK => ?_)
  go_simp
  refine HC7.out.mono ?_
  rintro e w8 ⟨rfl, L8⟩
  have HL8 := hidP (chain HL7.out L8)
  clear L8
  refine hK.out _ _ HL8.out (fun _ => ?_)
  clear hK K
  refine calm_rest [4] rfl (by kernel_rfl) (by kernel_rfl) (by kernel_rfl) HL8.out ?_
  iterate 1
    refine ⟨_, rfl, ?_⟩
    apply Exists.intro
    refine ⟨Or.inl ⟨by rfl, fun w' hw' => ?_⟩, ?_⟩
    · skip
      first
      | (go_simp; done)
      | (go_simp; with_reducible rfl)
    simp only [Act.put, List.getElem_toArray, List.getElem_cons_succ, List.getElem_cons_zero, List.setIfInBounds_toArray, List.set_cons_zero, List.set_cons_succ]
  refine NoPanic.normal (NoPanic.normal ?_)
  have HF := hidP (chain HB1.out (chain HB6.out HL8.out))
  clear HS6 HC6 BL HL7 HL8
  go_wp2_with fail
  go_ret
  exact ⟨rfl, HF.out⟩

end Go.Proofs.Ytlggpfgamjoeaaa
