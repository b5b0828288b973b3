/-
  At every box and every place the program's Corner answers as the given one, and changes nothing.
-/
import Derived.Test.YtadcpiljhhfcpaaBArgs
import Derived.Test.YtadcpiljhhfcpaaBMark2
import Derived.Test.YtadcpiljhhfcpaaBSpec2
import Derived.Test.YtadcpiljhhfcpaaBI3
namespace Go.Proofs.Ytadcpiljhhfcpaa.fnExactCorner
open Go.ChangeShapes Go.WideShapes Go.ChangeAt Go.RowKit
set_option linter.unusedVariables false

theorem own : ownKnob Try.prog.godebug = none := by kernel_rfl
theorem laidOut : laidOutB Try.prog = true := by kernel_rfl

set_option maxRecDepth 100000 in
set_option maxHeartbeats 4000000 in
theorem walk (al0 ah0 : Option Addr) (cl0 ch0 : Nat) (lo0 hi0 : List Int) (ao1 : Option Addr) (cap1 : Nat) (xs1 : List Int) (w : World) (hl0 : View w al0 lo0) (hh0 : View w ah0 hi0) (nl0 : lo0.length ≤ maxLen) (nh0 : hi0.length ≤ maxLen) (hv1 : View w ao1 xs1) (hn1 : xs1.length ≤ maxLen) :
    Calls Try.prog 7 #[.agg #[.slice al0 lo0.length cl0, .slice ah0 hi0.length ch0], .slice ao1 xs1.length cap1] w fun e w' => e = .returned (.bool true) ∧ Below w.heap.size w w' := by
  unfold maxLen at nl0 nh0
  by_cases hq : xs1.length ≤ 1048576
  case neg =>
    have hq2 : (xs1.length : Int) > 1048576 := by omega
    go_enter Try.func7, Try.ntmps7
    go_wp2_with fail
    go_ret
    exact ⟨rfl, alloc_below w _⟩
  case pos =>
  have hq2 : ¬ ((xs1.length : Int) > 1048576) := by omega
  obtain ⟨W0, hW0⟩ : ∃ W0, W0 = w.alloc (.cells #[.slice al0 lo0.length cl0, .slice ah0 hi0.length ch0] 24) := ⟨_, rfl⟩
  have L0 : Below w.heap.size w W0 := by rw [hW0]; exact alloc_below w _
  have t0 : Two W0 w.heap.size (.slice al0 lo0.length cl0) (.slice ah0 hi0.length ch0) 24 := by rw [hW0]; exact Two.new w _ _ _
  go_enter Try.func7, Try.ntmps7
  go_wp2_with fail
  rw [← hW0]
  clear hW0
  refine (szX al0 ah0 lo0.length cl0 hi0.length ch0 _ _ (by unfold maxLen; omega) (by unfold maxLen; omega) (by omega) (by omega)).mono ?_
  rintro e w1 ⟨⟨r, rfl, hr⟩, L1⟩
  have t1 := t0.below L1
  replace L1 := chain L0 L1
  clear L0 t0
  by_cases hneg : r < 0
  · go_wp2_with fail
    go_ret
    exact ⟨rfl, L1⟩
  · have n1 : lo0.length ≤ 1048576 := by omega
    have n2 : hi0.length ≤ 1048576 := by omega
    have k0 := t1.c0
    have k1 := t1.c1
    have T1 := hidP t1
    clear hr t1
    go_wp2_with fail
    refine (toX al0 ah0 cl0 ch0 lo0 hi0 _ (hl0.next L1) (hh0.next L1) n1 n2).mono ?_
    rintro e w2 ⟨b1, b2, rfl, o1, o2, hb1, hb2, L2⟩
    have T2 := hidP (T1.out.below L2)
    replace L2 := chain L1 L2
    clear L1 T1 k0 k1
    go_wp2_with fail
    refine (toS ao1 cap1 xs1 _ (hv1.next L2) hq).mono ?_
    rintro e w2b ⟨b7, rfl, o7, hb7, L2b⟩
    replace o1 := o1.below o1.lt L2b
    replace o2 := o2.below o2.lt L2b
    have T2b := hidP (T2.out.below L2b)
    replace L2b := chain L2 L2b
    clear L2 T2
    go_wp2_with fail
    refine (sCorner _ _ _ _ _ _ lo0 hi0 xs1 _ o1.view o2.view o7.view n1 n2 hq).mono ?_
    rintro e w3 ⟨rfl, L3⟩
    have T3 := hidP (T2b.out.below L3)
    have k0 := T3.out.c0
    have k1 := T3.out.c1
    replace L3 := chain L2b L3
    clear L2b o1 o2 o7 T2b hb1 hb2 hb7
    go_wp2_with fail
    refine (toX al0 ah0 cl0 ch0 lo0 hi0 _ (hl0.next L3) (hh0.next L3) n1 n2).mono ?_
    rintro e w4 ⟨b3, b4, rfl, o3, o4, hb3, hb4, L4⟩
    have T4 := hidP (T3.out.below L4)
    replace L4 := chain L3 L4
    obtain ⟨W4, hW4⟩ : ∃ W4, W4 = w4.alloc (.cells #[.slice (some ⟨b3, 0, none⟩) lo0.length lo0.length, .slice (some ⟨b4, 0, none⟩) hi0.length hi0.length] 27) := ⟨_, rfl⟩
    have hA : Below w4.heap.size w4 W4 := by rw [hW4]; exact alloc_below w4 _
    have q4 : Two W4 w4.heap.size (.slice (some ⟨b3, 0, none⟩) lo0.length lo0.length) (.slice (some ⟨b4, 0, none⟩) hi0.length hi0.length) 27 := by rw [hW4]; exact Two.new w4 _ _ _
    have HS := hidP (toS ao1 cap1 xs1 W4 (hv1.next (chain L4 hA)) hq)
    have H4 := hidP (And.intro (T4.out.below hA) (And.intro q4 (And.intro (o3.below o3.lt hA) (And.intro (o4.below o4.lt hA) (chain L4 hA)))))
    clear L3 T3 k0 k1 hb3 hb4 T4 L4 hA q4 o3 o4
    go_wp2_with fail
    rw [← hW4]
    clear hW4
    refine HS.out.mono ?_
    rintro e w4b ⟨b8, rfl, o8, hb8, L4b⟩
    obtain ⟨t4, q4, o3, o4, L4⟩ := H4.out
    have q4b := q4.below L4b
    have m2 := q4b.c0
    have m3 := q4b.c1
    have HI := hidP (iCorner (some ⟨b3, 0, none⟩) (some ⟨b4, 0, none⟩) (some ⟨b8, 0, none⟩) lo0.length hi0.length xs1.length lo0 hi0 xs1 w4b (o3.below o3.lt L4b).view (o4.below o4.lt L4b).view o8.view n1 n2 hq)
    have H5 := hidP (And.intro (t4.below L4b) (And.intro q4b (And.intro (o3.below o3.lt L4b) (And.intro (o4.below o4.lt L4b) (And.intro o8 (chain L4 L4b))))))
    clear H4 HS t4 q4 o3 o4 L4 q4b o8 L4b hb8
    go_wp2_with fail
    refine HI.out.mono ?_
    rintro e w5 ⟨rfl, L5⟩
    obtain ⟨t4, q4, o3, o4, o8, L4⟩ := H5.out
    have t5 := t4.below L5
    have q5 := q4.below L5
    have m0 := t5.c0
    have m1 := t5.c1
    have m2 := q5.c0
    have m3 := q5.c1
    have hz0 := t5.lt
    have hz1 := q5.lt
    have p3 := o3.below o3.lt L5
    have p4 := o4.below o4.lt L5
    have p8 := hidP (o8.below o8.lt L5)
    have M5 := chain L4 L5
    have HT := hidP (toX al0 ah0 cl0 ch0 lo0 hi0 w5.drew (hl0.next M5).drew (hh0.next M5).drew n1 n2)
    have HE : Hid (∀ (W : World) (b5 b6 : Nat), Below w5.drew.heap.size w5.drew W → Own W b5 lo0 → Own W b6 hi0 → Calls Try.prog 13 #[.agg #[.slice (some ⟨b3, 0, none⟩) lo0.length lo0.length, .slice (some ⟨b4, 0, none⟩) hi0.length hi0.length], .agg #[.slice (some ⟨b5, 0, none⟩) lo0.length lo0.length, .slice (some ⟨b6, 0, none⟩) hi0.length hi0.length]] W fun e w' => e = .returned (.bool true) ∧ Below W.heap.size W w') := fun W b5 b6 hb i5 i6 => by
      have hb' : Below w5.heap.size w5 W := ⟨hb.os, hb.tape, hb.output, hb.size, hb.block⟩
      have a3 : Own W b3 lo0 := p3.below p3.lt hb'
      have a4 : Own W b4 hi0 := p4.below p4.lt hb'
      have h := eqX _ _ _ _ lo0.length hi0.length lo0.length hi0.length lo0 hi0 lo0 hi0 W a3.view a4.view i5.view i6.view n1 n2
      simpa using h
    have HM5 := hidP M5
    have hbb : (cornerV (lo0, hi0) xs1 != cornerV (lo0, hi0) xs1) = false := by simp
    clear H5 HI t4 q4 o3 o4 o8 L4 t5 q5 p3 p4 M5 L5
    go_wp2_with fail
    go_region_held3 (fun w' => (w'.cell? ⟨w.heap.size, 0, none⟩ = some (.slice al0 lo0.length cl0) ∧ w'.cell? ⟨w.heap.size, 1, none⟩ = some (.slice ah0 hi0.length ch0)) ∧ (w'.cell? ⟨w4.heap.size, 0, none⟩ = some (.slice (some ⟨b3, 0, none⟩) lo0.length lo0.length) ∧ w'.cell? ⟨w4.heap.size, 1, none⟩ = some (.slice (some ⟨b4, 0, none⟩) hi0.length hi0.length)))
      (first
        | go_keep
        | (refine ⟨⟨(L6.cell (p := ⟨w.heap.size, 0, none⟩) hz0).trans m0, (L6.cell (p := ⟨w.heap.size, 1, none⟩) hz0).trans m1⟩, ⟨(L6.cell (p := ⟨w4.heap.size, 0, none⟩) hz1).trans m2, (L6.cell (p := ⟨w4.heap.size, 1, none⟩) hz1).trans m3⟩⟩)
        | (refine ⟨⟨((chain L6 L7).cell (p := ⟨w.heap.size, 0, none⟩) hz0).trans m0, ((chain L6 L7).cell (p := ⟨w.heap.size, 1, none⟩) hz0).trans m1⟩, ⟨((chain L6 L7).cell (p := ⟨w4.heap.size, 0, none⟩) hz1).trans m2, ((chain L6 L7).cell (p := ⟨w4.heap.size, 1, none⟩) hz1).trans m3⟩⟩))
      (first
        | (go_at_call 11; refine HT.out.mono ?_; rintro e w6 ⟨b5, b6, rfl, o5, o6, _, _, L6⟩)
        | (go_at_call 13; refine (HE.out w6 b5 b6 L6 o5 o6).mono ?_; rintro e w7 ⟨rfl, L7⟩))
    have hc := chain L6 L7
    have hc' : Below w5.heap.size w5 w7 := ⟨hc.os, hc.tape, hc.output, hc.size, hc.block⟩
    have P8 := hidP (p8.out.below p8.out.lt hc')
    have M7 := chain HM5.out hc'
    clear hc hc' L6 L7 o5 o6 HT HE m0 m1 m2 m3
    go_wp2_with fail
    refine (toS ao1 cap1 xs1 _ (hv1.next M7) hq).mono ?_
    rintro e w8 ⟨b9, rfl, o9, hb9, L8⟩
    have P9 := P8.out.below P8.out.lt L8
    have M8 := chain M7 L8
    have ht : decide (xs1 = xs1) = true := by simp
    clear M7 L8 P8
    go_wp2_with fail
    refine (eqS _ _ _ _ xs1 xs1 _ P9.view o9.view hq).mono ?_
    rintro e w9 ⟨rfl, n9, hw9⟩
    have M9 : Below w.heap.size w w9 := by rw [hw9]; exact below_drewN M8 n9
    clear hw9
    go_wp2_with fail
    go_ret
    exact ⟨rfl, M9⟩

set_option maxRecDepth 100000 in
theorem lifted (os : Os) (started : os.Started) (H : Type) (enc : TypeId × Value → H) :
    ReturnsInHanded {} Try.checked os 7 .any (Rows.fnExactCornerSpec.pre6 enc Try.prog Try.f7 Rows.fnExactCornerRow.domain false) (Rows.fnExactCornerSpec.post enc Try.prog Try.f7 false true false false) := by
  refine returnsInHanded_of_change (C := Try.checked) own started (by kernel_rfl) Try.func7
    (ChangeSpec.witness6 (enc := enc) (C := Try.checked) false ⟨#[], #[.agg #[.slice none 0 0, .slice none 0 0], .slice none 0 0], []⟩ 8 (by kernel_rfl) (by kernel_rfl) (by kernel_rfl) (by kernel_rfl)) ?_
  intro W base args ds gs before hval0 hW hcnd _
  have hval : ∀ (j : Nat) t v, Try.f7.params[j]? = some t → args[j]? = some v → Value.okWide Try.prog W .any base t v := hval0
  have hW' := hW
  obtain ⟨p, q, hA0, hV, rfl, hfz, hnd⟩ := hW
  have hA : DataW.TrodAll enc Try.prog W 0 (fun _ => true) true Try.f7.params.toList args.toList ds p := hA0
  rw [Try.params7] at hA hval
  obtain ⟨v0, vs0, d0, ds0, p0, q0, hargs, rfl, rfl, h0, r0⟩ := trodAll_cons hA
  obtain ⟨v1, vs1, d1, ds1, p1, q1, rfl, rfl, rfl, h1, r1⟩ := trodAll_cons r0
  obtain ⟨rfl, rfl, rfl⟩ := trodAll_nil r1
  obtain rfl : args = #[v0, v1] := by cases args; simp_all
  obtain ⟨rfl, rfl⟩ := trodVars_none hV
  obtain ⟨cs0, rfl, sz0⟩ := okWide_two (hval 0 24 v0 rfl rfl)
  have k0 := h0
  have lt0 : ∀ x ∈ p0, x.block < W.heap.size := by obtain ⟨m, hm⟩ := k0; exact DataW.trod_lt m _ _ _ hm
  obtain ⟨lo0, hi0, al0, cl0, ah0, ch0, rfl, hl0, hh0, nl0, nh0⟩ := (by obtain ⟨fuel, hf⟩ := h0; exact box_view sz0 hf : ∃ (lo hi : List Int) (a1 : Option Addr) (c1 : Nat) (a2 : Option Addr) (c2 : Nat), cs0 = #[.slice a1 lo.length c1, .slice a2 hi.length c2] ∧ View W a1 lo ∧ View W a2 hi ∧ lo.length ≤ maxLen ∧ hi.length ≤ maxLen)
  obtain ⟨a1, len1, cap1, rfl⟩ := okWide_slice Try.underlying22 (hval 1 22 v1 rfl rfl)
  have k1 := h1
  have lt1 : ∀ x ∈ p1, x.block < W.heap.size := by obtain ⟨m, hm⟩ := k1; exact DataW.trod_lt m _ _ _ hm
  obtain ⟨xs1, rfl, hv1, hn1⟩ := (by obtain ⟨fuel, hf⟩ := h1; exact row_view1 hf : ∃ xs : List Int, len1 = xs.length ∧ View W a1 xs ∧ xs.length ≤ maxLen)
  clear hA0 hval0
  refine (walk al0 ah0 cl0 ch0 lo0 hi0 a1 cap1 xs1 W hl0 hh0 nl0 nh0 hv1 hn1).mono fun e W' ⟨he, bel⟩ => ?_
  subst he
  exact ⟨_, rfl, _, _, _, [], _, [], hW', trodAll_mk1 (shut_bool Try.underlying4 _), (trodAll_cons_mk (Below.trod laidOut (by kernel_rfl) (of_decide_eq_true (by kernel_rfl)) k0 bel lt0) (trodAll_cons_mk (Below.trod laidOut (by kernel_rfl) (of_decide_eq_true (by kernel_rfl)) k1 bel lt1) trodAll_mk0)), rfl, bel.frame _, fun h => by cases h⟩

theorem over : Rows.fnExactCornerRow.holds Try.pinned (OpenSpec.ofChange Rows.fnExactCornerSpec) :=
  OpenClaim.holds_of_wide 7 Try.f7 rfl rfl rfl rfl rfl rfl rfl ⟨rfl, rfl, rfl, rfl, rfl⟩ rfl rfl rfl rfl rfl (by kernel_rfl) Try.func7 (by kernel_rfl)
    (of_decide_eq_true (by kernel_rfl)) (by unfold Func.isWrapper; first | (rw [if_pos (by decide +kernel)]; kernel_rfl) | (rw [if_neg (by decide +kernel)]; exact ⟨rfl, rfl⟩))
    (fun os started H enc _ => lifted os started H enc)

end Go.Proofs.Ytadcpiljhhfcpaa.fnExactCorner
namespace Go.Proofs.Ytadcpiljhhfcpaa

theorem FnExactCorner_holds : Rows.FnExactCornerSaid := fnExactCorner.over

end Go.Proofs.Ytadcpiljhhfcpaa
