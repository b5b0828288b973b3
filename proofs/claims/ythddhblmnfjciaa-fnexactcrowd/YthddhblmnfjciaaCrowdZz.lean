/-
  FnExactCrowd holds: for every grid the program's Crowd answers as the given one and leaves its argument alone; no condition.
-/
import Derived.Test.YthddhblmnfjciaaGKeepZz
import Derived.Test.YthddhblmnfjciaaGArgsZz
namespace Go.Proofs.Ythddhblmnfjciaa.fnExactCrowd
open Go.ChangeShapes Go.WideShapes Go.ChangeAt Go.RowKit
set_option linter.unusedVariables false

theorem own : ownKnob Try.prog.godebug = none := by kernel_rfl
theorem laidOut : laidOutB Try.prog = true := by kernel_rfl

set_option maxRecDepth 100000 in
set_option maxHeartbeats 4000000 in
theorem walk (ao0 : Option Addr) (cap0 : Nat) (s0 : Int) (ms0 : List Mk) (w : World) (hv0 : MView w ao0 ms0) (hn0 : ms0.length ≤ maxLen) (hat0 : ∀ i, (mat ms0 i).length ≤ maxLen) :
    Calls Try.prog 11 #[.agg #[.int .i64 s0, .slice ao0 ms0.length cap0]] w fun e w' => e = .returned (.bool true) ∧ Below w.heap.size w w' := by
  obtain ⟨W0, hW0⟩ : ∃ W, W = w.alloc (.cells #[.int .i64 s0, .slice ao0 ms0.length cap0] 57) := ⟨_, rfl⟩
  have T0 : Two W0 w.heap.size (.int .i64 s0) (.slice ao0 ms0.length cap0) 57 := by rw [hW0]; exact Two.new w _ _ _
  have L0 : Below w.heap.size w W0 := by rw [hW0]; exact alloc_below w _
  have HSZ := hidP (szG ao0 cap0 s0 ms0 W0 (hv0.next L0) hn0 hat0)
  have HT0 := hidP (And.intro T0 L0)
  clear T0 L0
  subst hW0
  go_enter Try.func11, Try.ntmps11
  go_wp2_with fail
  refine HSZ.out.mono ?_
  rintro e w1 ⟨r, rfl, hr, L1⟩
  have T1 := HT0.out.1.below L1
  replace L1 := chain HT0.out.2 L1
  clear HSZ HT0
  by_cases hneg : r < 0
  · go_wp2_with fail
    go_ret
    exact ⟨rfl, L1⟩
  · have hsm : MSmall ms0 := by rcases hr with h | h; exact absurd h hneg; exact h
    clear hr
    have a0 := T1.c0
    have a1 := T1.c1
    go_wp2_with fail
    refine (toG ao0 cap0 s0 ms0 _ (hv0.next L1) hsm).mono ?_
    rintro e w3 ⟨b2, rfl, p2, hb2, L3⟩
    have T3 := T1.below L3
    replace L3 := chain L1 L3
    clear L1 a0 a1 T1
    have HC := hidP (sCrowd (some ⟨b2, 0, none⟩) ms0.length s0 ms0 w3 p2.view hsm)
    go_wp2_with fail
    refine HC.out.mono ?_
    rintro e w4 ⟨rfl, L4⟩
    have T4 := T3.below L4
    replace L4 := chain L3 L4
    clear L3 p2 HC hb2 T3
    have a0 := T4.c0
    have a1 := T4.c1
    go_wp2_with fail
    refine (toG ao0 cap0 s0 ms0 _ (hv0.next L4) hsm).mono ?_
    rintro e v5 ⟨bx, rfl, px, hbx, L5⟩
    have T5 := T4.below L5
    replace L5 := chain L4 L5
    clear L4 hbx a0 a1 T4
    obtain ⟨w5, hw5⟩ : ∃ W, W = v5.alloc (.cells #[.int .i64 s0, .slice (some ⟨bx, 0, none⟩) ms0.length ms0.length] 62) := ⟨_, rfl⟩
    have A5 : Below v5.heap.size v5 w5 := by rw [hw5]; exact alloc_below v5 _
    have X5 : Two w5 v5.heap.size (.int .i64 s0) (.slice (some ⟨bx, 0, none⟩) ms0.length ms0.length) 62 := by rw [hw5]; exact Two.new v5 _ _ _
    replace T5 := T5.below A5
    replace px := px.below (Nat.le_refl _) A5
    replace L5 := chain L5 A5
    have HC := hidP (iCrowd (some ⟨bx, 0, none⟩) ms0.length s0 ms0 w5 px.view hsm)
    have x0 := X5.c0
    have x1 := X5.c1
    have HP5 := hidP (And.intro px (And.intro T5 (And.intro X5 L5)))
    clear A5 px T5 X5 L5
    subst hw5
    go_wp2_with fail
    refine HC.out.mono ?_
    rintro e w7 ⟨rfl, L7⟩
    have hbb : (crowdV s0 ms0 != crowdV s0 ms0) = false := by simp
    generalize crowdV s0 ms0 = vv at *
    have P7 := hidP (And.intro (HP5.out.1.below (Nat.le_refl _) L7) (And.intro (HP5.out.2.1.below L7) (And.intro (HP5.out.2.2.1.below L7) (chain HP5.out.2.2.2 L7))))
    clear L7 HP5 HC x0 x1
    have HTG := hidP (toG ao0 cap0 s0 ms0 w7.drew ((hv0.next P7.out.2.2.2).drewN 1) hsm)
    have HEQ : Hid (∀ W b9, MPart W b9 ms0.length ms0.length ms0 → Below w7.drew.heap.size w7.drew W → Calls Try.prog 49 #[.agg #[.int .i64 s0, .slice (some ⟨bx, 0, none⟩) ms0.length ms0.length], .agg #[.int .i64 s0, .slice (some ⟨b9, 0, none⟩) ms0.length ms0.length]] W fun e w' => e = .returned (.bool true) ∧ Below W.heap.size W w') := fun W b9 hp hL =>
      eqGd _ _ _ _ s0 ms0 W (MView.next (P7.out.1.view) (Below.trans ((Below.refl w7.heap.size w7).drew) hL)) hp.view hsm
    have a0 := P7.out.2.1.c0
    have a1 := P7.out.2.1.c1
    have x0 := P7.out.2.2.1.c0
    have x1 := P7.out.2.2.1.c1
    have hAl := P7.out.2.1.lt
    have hXl := P7.out.2.2.1.lt
    have KEEP : Hid (∀ W, Below w7.drew.heap.size w7.drew W → W.cell? ⟨w.heap.size, 0, none⟩ = some (.int .i64 s0) ∧ W.cell? ⟨w.heap.size, 1, none⟩ = some (.slice ao0 ms0.length cap0) ∧ W.cell? ⟨v5.heap.size, 0, none⟩ = some (.int .i64 s0) ∧ W.cell? ⟨v5.heap.size, 1, none⟩ = some (.slice (some ⟨bx, 0, none⟩) ms0.length ms0.length)) :=
      fun W hL => ⟨(hL.cell (p := ⟨w.heap.size, 0, none⟩) hAl).trans a0, (hL.cell (p := ⟨w.heap.size, 1, none⟩) hAl).trans a1, (hL.cell (p := ⟨v5.heap.size, 0, none⟩) hXl).trans x0, (hL.cell (p := ⟨v5.heap.size, 1, none⟩) hXl).trans x1⟩
    go_wp2_with fail
    go_region_held3 (fun w' => w'.cell? ⟨w.heap.size, 0, none⟩ = some (.int .i64 s0) ∧ w'.cell? ⟨w.heap.size, 1, none⟩ = some (.slice ao0 ms0.length cap0) ∧ w'.cell? ⟨v5.heap.size, 0, none⟩ = some (.int .i64 s0) ∧ w'.cell? ⟨v5.heap.size, 1, none⟩ = some (.slice (some ⟨bx, 0, none⟩) ms0.length ms0.length))
      (first
        | go_keep
        | exact KEEP.out _ L9
        | exact KEEP.out _ (chain L9 La))
      (first
        | (go_at_call 46; refine HTG.out.mono ?_; rintro e w9 ⟨b9, rfl, p9, hb9, L9⟩)
        | (go_at_call 49; refine (HEQ.out _ b9 p9 L9).mono ?_; rintro e wa ⟨rfl, La⟩))
    have Lc := chain P7.out.2.2.2 (Below.trans ((Below.refl w7.heap.size w7).drew) (chain L9 La))
    clear La P7 p9 hb9 L9 a0 a1 x0 x1 HTG HEQ KEEP
    simp only [Exit.then]
    go_wp2_with fail
    go_ret
    exact ⟨rfl, Lc⟩

set_option maxRecDepth 100000 in
theorem lifted (os : Os) (started : os.Started) (H : Type) (enc : TypeId × Value → H) :
    ReturnsInHanded {} Try.checked os 11 .any (Rows.fnExactCrowdSpec.pre6 enc Try.prog Try.f11 Rows.fnExactCrowdRow.domain false) (Rows.fnExactCrowdSpec.post enc Try.prog Try.f11 false true false false) := by
  refine returnsInHanded_of_change (C := Try.checked) own started (by kernel_rfl) Try.func11
    (ChangeSpec.witness6 (enc := enc) (C := Try.checked) false ⟨#[], #[.agg #[.int .i64 0, .slice none 0 0]], []⟩ 8 (by kernel_rfl) (by kernel_rfl) (by kernel_rfl) (by kernel_rfl)) ?_
  intro W base args ds gs before hval0 hW hcnd _
  have hval : ∀ (j : Nat) t v, Try.f11.params[j]? = some t → args[j]? = some v → Value.okWide Try.prog W .any base t v := hval0
  have hW' := hW
  obtain ⟨p, q, hA0, hV, rfl, hfz, hnd⟩ := hW
  have hA : DataW.TrodAll enc Try.prog W 0 (fun _ => true) true Try.f11.params.toList args.toList ds p := hA0
  rw [Try.params11] at hA hval
  obtain ⟨v0, vs0, d0, ds0, p0, q0, hargs, rfl, rfl, h0, r0⟩ := trodAll_cons hA
  obtain ⟨rfl, rfl, rfl⟩ := trodAll_nil r0
  obtain rfl : args = #[v0] := by cases args; simp_all
  obtain ⟨rfl, rfl⟩ := trodVars_none hV
  obtain ⟨cs0, rfl, sz0⟩ := okWide_grid (hval 0 57 v0 rfl rfl)
  have k0 := h0
  have lt0 : ∀ x ∈ p0, x.block < W.heap.size := by obtain ⟨m, hm⟩ := k0; exact DataW.trod_lt m _ _ _ hm
  obtain ⟨s0, ms0, a0, cap0, rfl, hv0, hn0, hat0⟩ := (by obtain ⟨fuel, hf⟩ := h0; exact grid_view sz0 hf : ∃ (s : Int) (ms : List Mk) (a : Option Addr) (c : Nat), cs0 = #[.int .i64 s, .slice a ms.length c] ∧ MView W a ms ∧ ms.length ≤ maxLen ∧ ∀ i, (mat ms i).length ≤ maxLen)
  clear hA0 hval0
  refine (walk a0 cap0 s0 ms0 W hv0 hn0 hat0).mono fun e W' ⟨he, bel⟩ => ?_
  subst he
  exact ⟨_, rfl, _, _, _, [], _, [], hW', trodAll_mk1 (shut_bool Try.underlying4 _), (trodAll_cons_mk (Below.trod laidOut (by kernel_rfl) (of_decide_eq_true (by kernel_rfl)) k0 bel lt0) trodAll_mk0), rfl, bel.frame _, fun h => by cases h⟩

theorem over : Rows.fnExactCrowdRow.holds Try.pinned (OpenSpec.ofChange Rows.fnExactCrowdSpec) :=
  OpenClaim.holds_of_wide 11 Try.f11 rfl rfl rfl rfl rfl rfl rfl ⟨rfl, rfl, rfl, rfl, rfl⟩ rfl rfl rfl rfl rfl (by kernel_rfl) Try.func11 (by kernel_rfl)
    (of_decide_eq_true (by kernel_rfl)) (by unfold Func.isWrapper; first | (rw [if_pos (by decide +kernel)]; kernel_rfl) | (rw [if_neg (by decide +kernel)]; exact ⟨rfl, rfl⟩))
    (fun os started H enc _ => lifted os started H enc)

end Go.Proofs.Ythddhblmnfjciaa.fnExactCrowd
namespace Go.Proofs.Ythddhblmnfjciaa

theorem FnExactCrowd_holds : Rows.FnExactCrowdSaid := fnExactCrowd.over

end Go.Proofs.Ythddhblmnfjciaa
