/-
  The walk of FnExactStateOk.
-/
import Derived.Test.YtfbhohpbhjlihaaStImpZz
import Derived.Test.YtfbhohpbhjlihaaStMemZz
import Derived.Test.YtfbhohpbhjlihaaStArgsZz
namespace Go.Proofs.Ytfbhohpbhjlihaa
open Go Go.RowKit

set_option maxRecDepth 100000 in
set_option maxHeartbeats 4000000 in
theorem walkStateOk (am aw : Option Addr) (cm cw : Nat) (wd : Int) (ms : List Mk) (d : Int) (ts : List Wb) (nx : Int) (w : World) (hm : MView w am ms) (hw : WbView false w aw ts) (hf : StFit ms ts) :
    Calls Try.prog 3 #[.agg #[.int .i64 wd, .slice am ms.length cm, .int .i64 d, .slice aw ts.length cw, .int .i64 nx]] w fun e w' => e = .returned (.bool true) ∧ Below w.heap.size w w' := by
  obtain ⟨W, hW⟩ : ∃ W, w.alloc (.cells #[.int .i64 wd, .slice am ms.length cm, .int .i64 d, .slice aw ts.length cw, .int .i64 nx] 27) = W := ⟨_, rfl⟩
  have hB : Below w.heap.size w W := by rw [← hW]; exact (Below.refl _ _).alloc (Nat.le_refl _) _
  have hI : StIn false W w.heap.size am aw cm cw wd ms d ts nx := by rw [← hW]; exact StIn.box hm hw
  have HS := hidP (szSt false am aw cm cw wd ms d ts nx W hI.mv hI.wv hf)
  have HB := hidP hB
  have HW := hidP hI
  have k0 := hI.c0
  have k1 := hI.c1
  have k2 := hI.c2
  have k3 := hI.c3
  have k4 := hI.c4
  clear hm hw hB hI hf
  go_enter Try.func3, Try.ntmps3
  go_wp2_with fail
  refine HS.out.mono ?_
  rintro e w1 ⟨r, rfl, -, hr, L1⟩
  by_cases hneg : r < 0
  · go_wp2_with fail
    go_ret
    exact ⟨rfl, chain HB.out L1⟩
  have hsm : StSmall ms ts := by rcases hr with h | h; exact absurd h hneg; exact h
  have hI1 := HW.out.below L1
  replace k0 := hI1.c0
  replace k1 := hI1.c1
  replace k2 := hI1.c2
  replace k3 := hI1.c3
  replace k4 := hI1.c4
  have HW1 := hidP hI1
  have HB1 := hidP (chain HB.out L1)
  have HSM := hidP hsm
  have HC := hidP (toSt false am aw cm cw wd ms d ts nx w1 hI1.mv hI1.wv hsm)
  obtain ⟨R, hR⟩ : ∃ R, stB wd ms d ts nx = R := ⟨_, rfl⟩
  have HR := hidP hR
  clear hr L1 hI1 HS hW hR hsm
  go_wp2_with fail
  refine HC.out.mono ?_
  rintro e w2 ⟨m2, i2, b2, lo2, rfl, o2, -, L2⟩
  have HC2 := hidP (sStateOk true (some ⟨m2, 0, none⟩) (some ⟨b2, 0, none⟩) ms.length ts.length wd ms d ts nx w2 o2.mview o2.wview HSM.out)
  rw [HR.out] at HC2
  have HB2 := hidP L2
  clear o2 L2
  go_wp2_with fail
  refine HC2.out.mono ?_
  rintro e w3 ⟨rfl, L3⟩
  have HB3 := hidP (chain HB2.out L3)
  have hI3 := HW1.out.below (chain HB2.out L3)
  replace k0 := hI3.c0
  replace k1 := hI3.c1
  replace k2 := hI3.c2
  replace k3 := hI3.c3
  replace k4 := hI3.c4
  have HC3 := hidP (toSt false am aw cm cw wd ms d ts nx w3 hI3.mv hI3.wv HSM.out)
  have HW3 := hidP hI3
  clear L3 hI3
  go_wp2_with fail
  refine HC3.out.mono ?_
  rintro e w4 ⟨m4, i4, b4, lo4, rfl, o4, -, L4⟩
  obtain ⟨w5, hw5⟩ : ∃ w5, w4.alloc (.cells #[.int .i64 wd, .slice (some ⟨m4, 0, none⟩) ms.length ms.length, .int .i64 d, .slice (some ⟨b4, 0, none⟩) ts.length ts.length, .int .i64 nx] 35) = w5 := ⟨_, rfl⟩
  have L5 : Below w4.heap.size w4 w5 := by rw [← hw5]; exact (Below.refl _ _).alloc (Nat.le_refl _) _
  have hI5 : StIn true w5 w4.heap.size (some ⟨m4, 0, none⟩) (some ⟨b4, 0, none⟩) ms.length ts.length wd ms d ts nx := by rw [← hw5]; exact StIn.box o4.mview o4.wview
  have q0 := hI5.c0
  have q1 := hI5.c1
  have q2 := hI5.c2
  have q3 := hI5.c3
  have q4 := hI5.c4
  have HW5 := hidP hI5
  have HI5 := hidP (HW3.out.below (chain L4 L5))
  have HB5 := hidP (chain (chain HB3.out L4) L5)
  have HC5 := hidP (iStateOk (some ⟨m4, 0, none⟩) (some ⟨b4, 0, none⟩) ms.length ts.length wd ms d ts nx w5 hI5.mv hI5.wv HSM.out)
  rw [HR.out] at HC5
  clear o4 L4 L5 hI5
  go_wp2_with fail
  refine HC5.out.mono ?_
  rintro e w6 ⟨rfl, L6⟩
  have ht : ((R : Bool) != R) = false := by simp
  have HW6 := hidP (HW5.out.below L6)
  have HI6 := hidP (HI5.out.below L6)
  have HB6 := hidP (chain HB5.out L6)
  have HS6 : Hid (∀ W', Below w6.heap.size w6 W' → (W'.cell? ⟨w4.heap.size, 0, none⟩ = some (.int .i64 wd) ∧ W'.cell? ⟨w4.heap.size, 1, none⟩ = some (.slice (some ⟨m4, 0, none⟩) ms.length ms.length) ∧ W'.cell? ⟨w4.heap.size, 2, none⟩ = some (.int .i64 d) ∧ W'.cell? ⟨w4.heap.size, 3, none⟩ = some (.slice (some ⟨b4, 0, none⟩) ts.length ts.length) ∧ W'.cell? ⟨w4.heap.size, 4, none⟩ = some (.int .i64 nx)) ∧ W'.cell? ⟨w.heap.size, 0, none⟩ = some (.int .i64 wd) ∧ W'.cell? ⟨w.heap.size, 1, none⟩ = some (.slice am ms.length cm) ∧ W'.cell? ⟨w.heap.size, 2, none⟩ = some (.int .i64 d) ∧ W'.cell? ⟨w.heap.size, 3, none⟩ = some (.slice aw ts.length cw) ∧ W'.cell? ⟨w.heap.size, 4, none⟩ = some (.int .i64 nx)) := fun W' L' => ⟨⟨(HW6.out.below L').c0, (HW6.out.below L').c1, (HW6.out.below L').c2, (HW6.out.below L').c3, (HW6.out.below L').c4⟩, (HI6.out.below L').c0, (HI6.out.below L').c1, (HI6.out.below L').c2, (HI6.out.below L').c3, (HI6.out.below L').c4⟩
  have HC6 := hidP (toSt false am aw cm cw wd ms d ts nx w6.drew (HI6.out.below (Below.refl _ _).drew).mv (HI6.out.below (Below.refl _ _).drew).wv HSM.out)
  have BL := hidP ((Below.refl w6.heap.size w6).drew)
  clear L6 hw5
  go_wp2_with fail
  refine wp_region_takes (S := fun W' => Below w6.heap.size w6 W') (fuel := 3) [0, 1] (by kernel_rfl) (by kernel_rfl) (by kernel_rfl) (by kernel_rfl) BL.out (fun _ => ?_)
  iterate 2
    refine ⟨_, rfl, ?_⟩
    apply Exists.intro
    refine ⟨Or.inl ⟨by rfl, fun w' hw' => ?_⟩, ?_⟩
    · obtain ⟨⟨e1, e2, e3, e4, e5⟩, f1, f2, f3, f4, f5⟩ := HS6.out w' hw'
      first
      | (go_simp; done)
      | (go_simp; with_reducible rfl)
    simp only [Act.put, List.getElem_toArray, List.getElem_cons_succ, List.getElem_cons_zero, List.setIfInBounds_toArray, List.set_cons_zero, List.set_cons_succ]
  refine calm_one 2 (by kernel_rfl) rfl (fun K hK => ?_)
  go_simp
  refine HC6.out.mono ?_
  rintro e w7 ⟨m7, i7, b7, lo7, rfl, o7, -, L7⟩
  have HL7 := hidP (chain BL.out L7)
  have HC7 := hidP (eqSt true true (some ⟨m4, 0, none⟩) (some ⟨b4, 0, none⟩) ms.length ts.length wd ms d ts nx (some ⟨m7, 0, none⟩) (some ⟨b7, 0, none⟩) ms.length ts.length w7 (HW6.out.below HL7.out).mv (HW6.out.below HL7.out).wv o7.mview o7.wview HSM.out)
  clear o7 L7
  refine hK.out _ _ HL7.out (fun _ => ?_)
  clear hK K
  refine calm_one 3 (by kernel_rfl) rfl (fun K hK => ?_)
  go_simp
  refine HC7.out.mono ?_
  rintro e w8 ⟨rfl, L8⟩
  have HL8 := hidP (chain HL7.out L8)
  clear L8
  refine hK.out _ _ HL8.out (fun _ => ?_)
  clear hK K
  refine calm_rest [4] rfl (by kernel_rfl) (by kernel_rfl) (by kernel_rfl) HL8.out ?_
  iterate 1
    refine ⟨_, rfl, ?_⟩
    apply Exists.intro
    refine ⟨Or.inl ⟨by rfl, fun w' hw' => ?_⟩, ?_⟩
    · skip
      first
      | (go_simp; done)
      | (go_simp; with_reducible rfl)
    simp only [Act.put, List.getElem_toArray, List.getElem_cons_succ, List.getElem_cons_zero, List.setIfInBounds_toArray, List.set_cons_zero, List.set_cons_succ]
  refine NoPanic.normal (NoPanic.normal ?_)
  have HF := hidP (chain HB1.out (chain HB6.out HL8.out))
  clear HS6 HC6 BL HL7 HL8
  go_wp2_with fail
  go_ret
  exact ⟨rfl, HF.out⟩
end Go.Proofs.Ytfbhohpbhjlihaa
