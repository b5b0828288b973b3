/-
  The walk of FnExactTowerOk.
-/
import Derived.Test.YtmembegdbceooaaTwImpZz
import Derived.Test.YtmembegdbceooaaFeHelpZz
import Derived.Test.YtmembegdbceooaaTwArgsZz
namespace Go.Proofs.Ytmembegdbceooaa
open Go Go.RowKit

set_option maxRecDepth 100000 in
set_option maxHeartbeats 4000000 in
theorem walkTowerOk (ao : Option Addr) (cap : Nat) (d : Int) (ts : List Wb) (w : World) (hv : WbView false w ao ts) (hf : WbFit ts) :
    Calls Try.prog 7 #[.agg #[.int .i64 d, .slice ao ts.length cap]] w fun e w' => e = .returned (.bool true) ∧ Below w.heap.size w w' := by
  obtain ⟨W, hW⟩ : ∃ W, w.alloc (.cells #[.int .i64 d, .slice ao ts.length cap] 48) = W := ⟨_, rfl⟩
  have hB : Below w.heap.size w W := by rw [← hW]; exact (Below.refl _ _).alloc (Nat.le_refl _) _
  have hI : TwIn false W w.heap.size d ao cap ts := by rw [← hW]; exact TwIn.box hv
  have HS := hidP (szTw false ao cap d ts 1048576 W hI.wv (by omega) (by omega) hf.1 hf.2)
  have HB := hidP hB
  have HW := hidP hI
  have k0 := hI.c0
  have k1 := hI.c1
  clear hv hB hI hf
  go_enter Try.func7, Try.ntmps7
  go_wp2_with fail
  refine HS.out.mono ?_
  rintro e w1 ⟨r, rfl, -, hr, L1⟩
  by_cases hneg : r < 0
  · go_wp2_with fail
    go_ret
    exact ⟨rfl, chain HB.out L1⟩
  have hsm : WbSmall ts := by rcases hr with h | h; exact absurd h hneg; exact h.1
  have hI1 := HW.out.below L1
  have p0 := hI1.c0
  have p1 := hI1.c1
  have HW1 := hidP hI1
  have HB1 := hidP (chain HB.out L1)
  have HSM := hidP hsm
  have HC := hidP (toTw false ao cap d ts w1 hI1.wv hsm)
  obtain ⟨R, hR⟩ : ∃ R, towB d ts = R := ⟨_, rfl⟩
  have HR := hidP hR
  clear hr L1 hI1 HS k0 k1 hW hR hsm
  go_wp2_with fail
  refine HC.out.mono ?_
  rintro e w2 ⟨b2, lo2, rfl, o2, -, L2⟩
  have HC2 := hidP (sTowerOk true (some ⟨b2, 0, none⟩) ts.length d ts w2 o2.view HSM.out)
  rw [HR.out] at HC2
  have HB2 := hidP L2
  clear o2 L2
  go_wp2_with fail
  refine HC2.out.mono ?_
  rintro e w3 ⟨rfl, L3⟩
  have HB3 := hidP (chain HB2.out L3)
  have hI3 := HW1.out.below (chain HB2.out L3)
  have p0 := hI3.c0
  have p1 := hI3.c1
  have HC3 := hidP (toTw false ao cap d ts w3 hI3.wv HSM.out)
  have HW3 := hidP hI3
  clear L3 hI3
  go_wp2_with fail
  refine HC3.out.mono ?_
  rintro e w4 ⟨b4, lo4, rfl, o4, -, L4⟩
  obtain ⟨w5, hw5⟩ : ∃ w5, w4.alloc (.cells #[.int .i64 d, .slice (some ⟨b4, 0, none⟩) ts.length ts.length] 53) = w5 := ⟨_, rfl⟩
  have L5 : Below w4.heap.size w4 w5 := by rw [← hw5]; exact (Below.refl _ _).alloc (Nat.le_refl _) _
  have hI5 : TwIn true w5 w4.heap.size d (some ⟨b4, 0, none⟩) ts.length ts := by rw [← hw5]; exact TwIn.box o4.view
  have q0 := hI5.c0
  have q1 := hI5.c1
  have HW5 := hidP hI5
  have HI5 := hidP (HW3.out.below (chain L4 L5))
  have HB5 := hidP (chain (chain HB3.out L4) L5)
  have HC5 := hidP (iTowerOk (some ⟨b4, 0, none⟩) ts.length d ts w5 hI5.wv HSM.out)
  rw [HR.out] at HC5
  clear o4 L4 L5 hI5
  go_wp2_with fail
  refine HC5.out.mono ?_
  rintro e w6 ⟨rfl, L6⟩
  have ht : ((R : Bool) != R) = false := by simp
  have HW6 := hidP (HW5.out.below L6)
  have HI6 := hidP (HI5.out.below L6)
  have HB6 := hidP (chain HB5.out L6)
  have HS6 : Hid (∀ W', Below w6.heap.size w6 W' → (W'.cell? ⟨w4.heap.size, 0, none⟩ = some (.int .i64 d) ∧ W'.cell? ⟨w4.heap.size, 1, none⟩ = some (.slice (some ⟨b4, 0, none⟩) ts.length ts.length)) ∧ W'.cell? ⟨w.heap.size, 0, none⟩ = some (.int .i64 d) ∧ W'.cell? ⟨w.heap.size, 1, none⟩ = some (.slice ao ts.length cap)) := fun W' L' => ⟨⟨(HW6.out.below L').c0, (HW6.out.below L').c1⟩, (HI6.out.below L').c0, (HI6.out.below L').c1⟩
  have HC6 := hidP (toTw false ao cap d ts w6.drew (HI6.out.below (Below.refl _ _).drew).wv HSM.out)
  have BL := hidP ((Below.refl w6.heap.size w6).drew)
  clear L6 hw5
  go_wp2_with fail
  refine wp_region_takes (S := fun W' => Below w6.heap.size w6 W') (fuel := 3) [0, 1] (by kernel_rfl) (by kernel_rfl) (by kernel_rfl) (by kernel_rfl) BL.out (fun _ => ?_)
  iterate 2
    refine ⟨_, rfl, ?_⟩
    apply Exists.intro
    refine ⟨Or.inl ⟨by rfl, fun w' hw' => ?_⟩, ?_⟩
    · obtain ⟨⟨e1, e2⟩, e3, e4⟩ := HS6.out w' hw'
      first
      | (go_simp; done)
      | (go_simp; with_reducible rfl)
    simp only [Act.put, List.getElem_toArray, List.getElem_cons_succ, List.getElem_cons_zero, List.setIfInBounds_toArray, List.set_cons_zero, List.set_cons_succ]
  refine calm_one 2 (by kernel_rfl) rfl (fun K hK => ?_)
  go_simp
  refine HC6.out.mono ?_
  rintro e w7 ⟨b7, lo7, rfl, o7, -, L7⟩
  have HL7 := hidP (chain BL.out L7)
  have HC7 := hidP (eqTw true true (some ⟨b4, 0, none⟩) (some ⟨b7, 0, none⟩) ts.length ts.length d ts w7 (HW6.out.below HL7.out).wv o7.view HSM.out)
  clear o7 L7
  refine hK.out _ _ HL7.out (fun _ => ?_)
  clear hK K
  refine calm_one 3 (by kernel_rfl) rfl (fun K hK => ?_)
  go_simp
  refine HC7.out.mono ?_
  rintro e w8 ⟨rfl, L8⟩
  have HL8 := hidP (chain HL7.out L8)
  clear L8
  refine hK.out _ _ HL8.out (fun _ => ?_)
  clear hK K
  refine calm_rest [4] rfl (by kernel_rfl) (by kernel_rfl) (by kernel_rfl) HL8.out ?_
  iterate 1
    refine ⟨_, rfl, ?_⟩
    apply Exists.intro
    refine ⟨Or.inl ⟨by rfl, fun w' hw' => ?_⟩, ?_⟩
    · skip
      first
      | (go_simp; done)
      | (go_simp; with_reducible rfl)
    simp only [Act.put, List.getElem_toArray, List.getElem_cons_succ, List.getElem_cons_zero, List.setIfInBounds_toArray, List.set_cons_zero, List.set_cons_succ]
  refine NoPanic.normal (NoPanic.normal ?_)
  have HF := hidP (chain HB1.out (chain HB6.out HL8.out))
  clear HS6 HC6 BL HL7 HL8
  go_wp2_with fail
  go_ret
  exact ⟨rfl, HF.out⟩
end Go.Proofs.Ytmembegdbceooaa
