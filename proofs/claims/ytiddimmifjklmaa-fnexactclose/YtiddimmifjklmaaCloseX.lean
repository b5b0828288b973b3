/-
  FnExactClose holds: for every list and any two numbers the program's Close answers as the given one, in new memory, and leaves its argument alone; no condition.
-/
import Derived.Test.YtiddimmifjklmaaMArgs
import Derived.Test.YtiddimmifjklmaaWIm5
namespace Go.Proofs.Ytiddimmifjklmaa.fnExactClose
open Go.ChangeShapes Go.WideShapes Go.ChangeAt Go.RowKit
set_option linter.unusedVariables false

theorem own : ownKnob Try.prog.godebug = none := by kernel_rfl
theorem laidOut : laidOutB Try.prog = true := by kernel_rfl

set_option maxRecDepth 100000 in
set_option maxHeartbeats 4000000 in
theorem walk (ao0 : Option Addr) (cap0 : Nat) (xs0 : List Int) (x1 : Int) (x2 : Int) (w : World) (hv0 : View w ao0 xs0) (hn0 : xs0.length ≤ maxLen) (hx1 : (Lit.int .i64 x1).wf = true) (hx2 : (Lit.int .i64 x2).wf = true) :
    Calls Try.prog 8 #[.slice ao0 xs0.length cap0, .int .i64 x1, .int .i64 x2] w fun e w' => e = .returned (.bool true) ∧ Below w.heap.size w w' := by
  unfold maxLen at hn0
  by_cases hbig : 1048576 < xs0.length
  · go_enter Try.func8, Try.ntmps8
    go_wp2
    go_ret
    exact ⟨rfl, Below.refl _ _⟩
  have hn : xs0.length ≤ 1048576 := by omega
  clear hn0
  have hx : decide (xs0 = xs0) = true := by simp
  obtain ⟨L, hLe⟩ : ∃ L, L = closeL xs0 x1 x2 := ⟨_, rfl⟩
  have hL60 : L.length ≤ 60 := by rw [hLe]; exact closeL_short _ _ _
  have hl : decide (L = L) = true := by simp
  have HS := hidP (fun ao cap w hv => sClose ao cap xs0 x1 x2 w hv hn)
  have HI := hidP (fun ao cap w hv => iClose ao cap xs0 x1 x2 w hv hn)
  rw [← hLe] at HS HI
  clear hLe
  go_enter Try.func8, Try.ntmps8
  go_wp2_with fail
  refine (toS ao0 cap0 xs0 _ hv0 hn).mono ?_
  rintro e u1 ⟨b1, rfl, o1, hb1, M1⟩
  go_wp2_with fail
  refine (HS.out _ _ _ o1.view).mono ?_
  rintro e u2 ⟨g2, c2, rfl, r2, L2⟩
  have M2 := chain M1 L2
  have hw2 := M2.size
  have s2 := r2.seg
  have hg2 := r2.lt.2
  clear M1 o1 hb1 L2 r2
  go_wp2_with fail
  refine (toS ao0 cap0 xs0 _ (hv0.below (Nat.le_refl _) M2) hn).mono ?_
  rintro e u3 ⟨b3, rfl, o3, hb3, L3⟩
  have s3 := s2.below hg2 L3
  have M3 := chain M2 L3
  have hg3 : g2 < u3.heap.size := by have := L3.size; omega
  have hb3l := o3.lt
  clear M2 s2 L3
  go_wp2_with fail
  refine (HI.out _ _ _ o3.view).mono ?_
  rintro e u4 ⟨a4, c4, rfl, q4, L4⟩
  have P4 : Hid (u3.heap.size ≤ u4.heap.size ∧ Seg u4 g2 0 L ∧ Own u4 b3 xs0 ∧ IOut u3.heap.size u4 (.slice a4 L.length c4) L) := ⟨L4.size, s3.below hg3 L4, o3.below hb3l L4, q4⟩
  have STP : Hid (∀ wa wb, Below wa.heap.size wa wb → (u3.heap.size ≤ wa.heap.size ∧ Seg wa g2 0 L ∧ Own wa b3 xs0 ∧ IOut u3.heap.size wa (.slice a4 L.length c4) L) → (u3.heap.size ≤ wb.heap.size ∧ Seg wb g2 0 L ∧ Own wb b3 xs0 ∧ IOut u3.heap.size wb (.slice a4 L.length c4) L)) :=
    fun wa wb hab h => ⟨Nat.le_trans h.1 hab.size, h.2.1.below (by omega) hab, h.2.2.1.below (by omega) hab, h.2.2.2.below hab⟩
  have M4 := chain M3 L4
  clear L4 M3 s3 o3 q4
  go_wp2_with fail
  refine (eqS _ _ _ _ L L _ P4.out.2.2.2.slice (Or.inr ⟨g2, 0, rfl, by have := P4.out.1; omega, P4.out.2.1⟩) (by omega)).mono ?_
  rintro e u5 ⟨rfl, n5, hw5⟩
  have L5 : Below u4.heap.size u4 u5 := by rw [hw5]; exact below_drewN (Below.refl _ _) n5
  have P5 := hidP (STP.out _ _ L5 P4.out)
  have M5 := chain M4 L5
  clear hw5 L5 P4 M4
  go_wp2_with fail
  refine (toS ao0 cap0 xs0 _ (hv0.below (Nat.le_refl _) M5) hn).mono ?_
  rintro e u6 ⟨b6, rfl, o6, hb6, L6⟩
  have P6 := hidP (STP.out _ _ L6 P5.out)
  have M6 := chain M5 L6
  clear L6 P5 M5
  go_wp2_with fail
  refine (eqS _ _ _ _ xs0 xs0 _ P6.out.2.2.1.view o6.view hn).mono ?_
  rintro e u7 ⟨rfl, n7, hw7⟩
  have L7 : Below u6.heap.size u6 u7 := by rw [hw7]; exact below_drewN (Below.refl _ _) n7
  have P7 := hidP (STP.out _ _ L7 P6.out)
  have M7 := chain M6 L7
  clear hw7 L7 P6 M6 o6 hb6
  go_wp2_with fail
  refine (mark_own b3 1 xs0 _ P7.out.2.2.1 hn (by omega) (by omega)).mono ?_
  rintro e u8 ⟨rfl, o8, hg8⟩
  have hq0 : ¬ ((1 : Int) + xs0.length < 0) := by omega
  have P8 : Hid (u3.heap.size ≤ u8.heap.size ∧ Seg u8 g2 0 L ∧ IOut u3.heap.size u8 (.slice a4 L.length c4) L) := by
    obtain ⟨h1, h2, h3, h4⟩ := P7.out
    refine ⟨Nat.le_trans h1 hg8.size, fun i hi => ?_, ?_⟩
    · rw [hg8.cell_far ⟨g2, 0 + i, none⟩ (by simp; omega) (by simp; omega)]; exact h2 i hi
    · refine h4.other (u := .slice (some ⟨b3, 0, none⟩) xs0.length xs0.length) ⟨hg8.os, hg8.tape, hg8.output, hg8.size, fun i hi hne => hg8.block i hi (fun e => hne ⟨b3, 0, none⟩ _ _ rfl (by injection e))⟩ ?_
      intro a n c b m d e1 e2
      rcases h4 with ⟨e3, _⟩ | ⟨g, c', e3, hr⟩
      · rw [e1] at e3; cases e3
      · rw [e1] at e3
        injection e3 with e4 e5 e6
        injection e4 with e4
        injection e2 with e7 e8 e9
        injection e7 with e7
        rw [e4, ← e7]
        have := hr.lt
        simp only
        omega
  have M8 : Below w.heap.size w u8 := M7.grown hg8 M7.size (by intro k hk; cases hk; omega)
  clear M7 P7 hg8 o8
  go_wp2_with fail
  refine (eqS _ _ _ _ L L _ P8.out.2.2.slice (Or.inr ⟨g2, 0, rfl, by have := P8.out.1; omega, P8.out.2.1⟩) (by omega)).mono ?_
  rintro e u9 ⟨rfl, n9, hw9⟩
  have L9 : Below u8.heap.size u8 u9 := by rw [hw9]; exact below_drewN (Below.refl _ _) n9
  have P9 : Hid (u3.heap.size ≤ u9.heap.size ∧ Seg u9 g2 0 L ∧ IOut u3.heap.size u9 (.slice a4 L.length c4) L) := by
    obtain ⟨h1, h2, h3⟩ := P8.out
    exact ⟨Nat.le_trans h1 L9.size, h2.below (by omega) L9, h3.below L9⟩
  have M9 := chain M8 L9
  clear hw9 L9 P8 M8
  go_wp2_with fail
  refine (markO u3.heap.size c4 a4 1 L _ P9.out.2.2 (by omega) (by omega) (by omega)).mono ?_
  rintro e u10 ⟨rfl, q10, hch, hbl⟩
  rw [tabL_length] at q10
  have hm0 : ¬ ((1 : Int) + L.length < 0) := by omega
  have hm1 : (((1 : Int) + L.length) != (1 + L.length)) = false := by simp
  have hfar : ∀ i, i < u3.heap.size → u10.heap[i]? = u9.heap[i]? := fun i hi => hch.2.2.2.2 i (by have := P9.out.1; omega) (fun a n c e => by
    injection e with e1 e2 e3
    have := hbl a.block ⟨a, e1, rfl⟩
    omega)
  have P10 : Hid (u3.heap.size ≤ u10.heap.size ∧ Seg u10 g2 0 L ∧ IOut u3.heap.size u10 (.slice a4 L.length c4) (tabL (fun i => 1 + (i : Int)) L.length)) := by
    obtain ⟨h1, h2, h3⟩ := P9.out
    refine ⟨Nat.le_trans h1 hch.2.2.2.1, fun i hi => ?_, q10⟩
    have := h2 i hi
    simp only [World.cell?, hfar g2 hg3] at this ⊢
    exact this
  have M10 : Below w.heap.size w u10 := M9.trans ⟨hch.1, hch.2.1, hch.2.2.1, hch.2.2.2.1, fun i hi => hfar i (by omega)⟩
  clear hch hbl hfar P9 M9 q10
  go_wp2_with fail
  refine (heldI a4 c4 L.length 1 _ P10.out.2.2.slice (by omega) (by omega) (by omega)).mono ?_
  rintro e u11 ⟨rfl, hw11⟩
  subst hw11
  go_wp2_with fail
  refine (toS ao0 cap0 xs0 _ (hv0.below (Nat.le_refl _) M10) hn).mono ?_
  rintro e u12 ⟨b12, rfl, o12, hb12, L12⟩
  have M12 := chain M10 L12
  have P12 : Hid (u3.heap.size ≤ u12.heap.size ∧ Seg u12 g2 0 L ∧ IOut u3.heap.size u12 (.slice a4 L.length c4) (tabL (fun i => 1 + (i : Int)) L.length)) := by
    obtain ⟨h1, h2, h3⟩ := P10.out
    exact ⟨Nat.le_trans h1 L12.size, h2.below (by omega) L12, h3.below L12⟩
  clear L12 P10 M10
  go_wp2_with fail
  refine (HI.out _ _ _ o12.view).mono ?_
  rintro e u13 ⟨a13, c13, rfl, q13, L13⟩
  have M13 := chain M12 L13
  have P13 : Hid (u3.heap.size ≤ u13.heap.size ∧ Seg u13 g2 0 L ∧ IOut u3.heap.size u13 (.slice a4 L.length c4) (tabL (fun i => 1 + (i : Int)) L.length)) := by
    obtain ⟨h1, h2, h3⟩ := P12.out
    exact ⟨Nat.le_trans h1 L13.size, h2.below (by omega) L13, h3.below L13⟩
  clear L13 P12 M12 o12 hb12
  go_wp2_with fail
  refine (eqS _ _ _ _ L L _ q13.slice (Or.inr ⟨g2, 0, rfl, by have := P13.out.1; omega, P13.out.2.1⟩) (by omega)).mono ?_
  rintro e u14 ⟨rfl, n14, hw14⟩
  have L14 : Below u13.heap.size u13 u14 := by rw [hw14]; exact below_drewN (Below.refl _ _) n14
  have P14 := hidP (P13.out.2.2.below L14)
  have M14 := chain M13 L14
  clear hw14 L14 P13 M13 q13
  go_wp2_with fail
  refine (heldI a4 c4 L.length 1 _ P14.out.slice (by omega) (by omega) (by omega)).mono ?_
  rintro e u15 ⟨rfl, hw15⟩
  subst hw15
  go_wp2_with fail
  go_ret
  exact ⟨rfl, M14⟩

set_option maxRecDepth 100000 in
theorem lifted (os : Os) (started : os.Started) (H : Type) (enc : TypeId × Value → H) :
    ReturnsInHanded {} Try.checked os 8 .any (Rows.fnExactCloseSpec.pre6 enc Try.prog Try.f8 Rows.fnExactCloseRow.domain false) (Rows.fnExactCloseSpec.post enc Try.prog Try.f8 false true false false) := by
  refine returnsInHanded_of_change (C := Try.checked) own started (by kernel_rfl) Try.func8
    (ChangeSpec.witness6 (enc := enc) (C := Try.checked) false ⟨#[], #[.slice none 0 0, .int .i64 0, .int .i64 0], []⟩ 8 (by kernel_rfl) (by kernel_rfl) (by kernel_rfl) (by kernel_rfl)) ?_
  intro W base args ds gs before hval0 hW hcnd _
  have hval : ∀ (j : Nat) t v, Try.f8.params[j]? = some t → args[j]? = some v → Value.okWide Try.prog W .any base t v := hval0
  have hW' := hW
  obtain ⟨p, q, hA0, hV, rfl, hfz, hnd⟩ := hW
  have hA : DataW.TrodAll enc Try.prog W 0 (fun _ => true) true Try.f8.params.toList args.toList ds p := hA0
  rw [Try.params8] at hA hval
  obtain ⟨v0, vs0, d0, ds0, p0, q0, hargs, rfl, rfl, h0, r0⟩ := trodAll_cons hA
  obtain ⟨v1, vs1, d1, ds1, p1, q1, rfl, rfl, rfl, h1, r1⟩ := trodAll_cons r0
  obtain ⟨v2, vs2, d2, ds2, p2, q2, rfl, rfl, rfl, h2, r2⟩ := trodAll_cons r1
  obtain ⟨rfl, rfl, rfl⟩ := trodAll_nil r2
  obtain rfl : args = #[v0, v1, v2] := by cases args; simp_all
  obtain ⟨rfl, rfl⟩ := trodVars_none hV
  obtain ⟨a0, len0, cap0, rfl⟩ := okWide_slice Try.underlying24 (hval 0 24 v0 rfl rfl)
  have k0 := h0
  have lt0 : ∀ x ∈ p0, x.block < W.heap.size := by obtain ⟨m, hm⟩ := k0; exact DataW.trod_lt m _ _ _ hm
  obtain ⟨xs0, rfl, hv0, hn0⟩ := (by obtain ⟨fuel, hf⟩ := h0; exact row_view1 hf : ∃ xs : List Int, len0 = xs.length ∧ View W a0 xs ∧ xs.length ≤ maxLen)
  obtain ⟨a1, rfl, rfl, rfl, w1⟩ := open_int Try.underlying2 (hval 1 2 v1 rfl rfl) h1
  obtain ⟨a2, rfl, rfl, rfl, w2⟩ := open_int Try.underlying2 (hval 2 2 v2 rfl rfl) h2
  clear hA0 hval0
  refine (walk a0 cap0 xs0 a1 a2 W hv0 hn0 w1 w2).mono fun e W' ⟨he, bel⟩ => ?_
  subst he
  exact ⟨_, rfl, _, _, _, [], _, [], hW', trodAll_mk1 (shut_bool Try.underlying4 _), (trodAll_cons_mk (Below.trod laidOut (by kernel_rfl) (of_decide_eq_true (by kernel_rfl)) k0 bel lt0) (trodAll_cons_mk (shut_int Try.underlying2 w1) (trodAll_cons_mk (shut_int Try.underlying2 w2) trodAll_mk0))), rfl, bel.frame _, fun h => by cases h⟩

theorem over : Rows.fnExactCloseRow.holds Try.pinned (OpenSpec.ofChange Rows.fnExactCloseSpec) :=
  OpenClaim.holds_of_wide 8 Try.f8 rfl rfl rfl rfl rfl rfl rfl ⟨rfl, rfl, rfl, rfl, rfl⟩ rfl rfl rfl rfl rfl (by kernel_rfl) Try.func8 (by kernel_rfl)
    (of_decide_eq_true (by kernel_rfl)) (by unfold Func.isWrapper; first | (rw [if_pos (by decide +kernel)]; kernel_rfl) | (rw [if_neg (by decide +kernel)]; exact ⟨rfl, rfl⟩))
    (fun os started H enc _ => lifted os started H enc)

end Go.Proofs.Ytiddimmifjklmaa.fnExactClose
namespace Go.Proofs.Ytiddimmifjklmaa

theorem FnExactClose_holds : Rows.FnExactCloseSaid := fnExactClose.over

end Go.Proofs.Ytiddimmifjklmaa
