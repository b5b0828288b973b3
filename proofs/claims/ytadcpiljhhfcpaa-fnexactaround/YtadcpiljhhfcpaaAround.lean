/-
  At every list of marks the program's Around answers as the given one, changes nothing that came in, and owns its answer.
-/
import Derived.Test.YtadcpiljhhfcpaaMArgs
import Derived.Test.YtadcpiljhhfcpaaBKeep
import Derived.Test.YtadcpiljhhfcpaaBS3
namespace Go.Proofs.Ytadcpiljhhfcpaa.fnExactAround
open Go.ChangeShapes Go.WideShapes Go.ChangeAt Go.RowKit
set_option linter.unusedVariables false

theorem own : ownKnob Try.prog.godebug = none := by kernel_rfl
theorem laidOut : laidOutB Try.prog = true := by kernel_rfl

set_option maxRecDepth 100000 in
set_option maxHeartbeats 4000000 in
theorem walk (ao0 : Option Addr) (cap0 : Nat) (ms0 : List Mk) (w : World) (hv0 : MView w ao0 ms0) (hn0 : ms0.length ≤ maxLen) (hat0 : ∀ i, (mat ms0 i).length ≤ maxLen) :
    Calls Try.prog 4 #[.slice ao0 ms0.length cap0] w fun e w' => e = .returned (.bool true) ∧ Below w.heap.size w w' := by
  go_enter Try.func4, Try.ntmps4
  go_wp2_with fail
  refine (szMS ao0 cap0 ms0 _ hv0 hn0 hat0).mono ?_
  rintro e w1 ⟨r, rfl, hr, L1⟩
  by_cases hneg : r < 0
  · go_wp2_with fail
    go_ret
    exact ⟨rfl, L1⟩
  · have hsm : MSmall ms0 := by rcases hr with h | h; exact absurd h hneg; exact h
    clear hr
    obtain ⟨lo, hlo⟩ : ∃ lo, lo = (aroundV ms0).1 := ⟨_, rfl⟩
    obtain ⟨hi, hhi⟩ : ∃ hi, hi = (aroundV ms0).2 := ⟨_, rfl⟩
    have nlo : lo.length ≤ 4 := by rw [hlo]; exact (around_short ms0).1
    have nhi : hi.length ≤ 4 := by rw [hhi]; exact (around_short ms0).2
    have HLO := hidP hlo
    have HHI := hidP hhi
    clear hlo hhi
    go_wp2_with fail
    refine (toMS ao0 cap0 ms0 _ (hv0.next L1) hsm).mono ?_
    rintro e w2 ⟨b2, rfl, p2, hb2, L2⟩
    replace L2 := chain L1 L2
    clear L1 hb2
    have HC := hidP (sAround (some ⟨b2, 0, none⟩) ms0.length ms0 w2 p2.view hsm)
    rw [← HLO.out, ← HHI.out] at HC
    go_wp2_with fail
    refine HC.out.mono ?_
    rintro e w3 ⟨a1, c1, a2, c2, rfl, v1, v2, L3⟩
    replace L3 := chain L2 L3
    clear L2 HC p2
    obtain ⟨W3, hW3⟩ : ∃ W3, W3 = w3.alloc (.cells #[.slice a1 lo.length c1, .slice a2 hi.length c2] 27) := ⟨_, rfl⟩
    have hA3 : Below w3.heap.size w3 W3 := by rw [hW3]; exact alloc_below w3 _
    have t3 : Two W3 w3.heap.size (.slice a1 lo.length c1) (.slice a2 hi.length c2) 27 := by rw [hW3]; exact Two.new w3 _ _ _
    have LW3 := chain L3 hA3
    have P3 := hidP (And.intro (v1.ev (Nat.le_refl _) |>.below hA3) (And.intro (v2.ev (Nat.le_refl _) |>.below hA3) t3))
    have HT := hidP (toMS ao0 cap0 ms0 W3 (hv0.next LW3) hsm)
    clear v1 v2 t3 L3 hA3
    go_wp2_with fail
    rw [← hW3]
    clear hW3
    refine HT.out.mono ?_
    rintro e w5 ⟨bx, rfl, px, hbx, L5⟩
    have hwx : w.heap.size ≤ bx := Nat.le_trans LW3.size hbx
    have h3x : w3.heap.size < bx := Nat.lt_of_lt_of_le P3.out.2.2.lt hbx
    have P5 := hidP (And.intro ((P3.out.1.below L5).mono (Nat.le_of_lt h3x)) (And.intro ((P3.out.2.1.below L5).mono (Nat.le_of_lt h3x)) (And.intro (P3.out.2.2.below L5) (And.intro px px.over))))
    replace L5 := chain LW3 L5
    clear LW3 P3 HT hbx
    have HC := hidP (iAround (some ⟨bx, 0, none⟩) ms0.length ms0 w5 px.view hsm)
    rw [← HLO.out, ← HHI.out] at HC
    clear px
    go_wp2_with fail
    refine HC.out.mono ?_
    rintro e w6 ⟨a3, c3, a4, c4, rfl, o3, o4, ap, L6⟩
    clear HC
    obtain ⟨W6, hW6⟩ : ∃ W6, W6 = w6.alloc (.cells #[.slice a3 lo.length c3, .slice a4 hi.length c4] 27) := ⟨_, rfl⟩
    have hA6 : Below w6.heap.size w6 W6 := by rw [hW6]; exact alloc_below w6 _
    have t6 : Two W6 w6.heap.size (.slice a3 lo.length c3) (.slice a4 hi.length c4) 27 := by rw [hW6]; exact Two.new w6 _ _ _
    have b3 := o3.block
    have b4 := o4.block
    have h56 := L6.size
    have L56 := chain L6 hA6
    have P6 : Hid (w5.heap.size ≤ W6.heap.size ∧ EV bx W6 a1 lo ∧ EV bx W6 a2 hi ∧ Two W6 w3.heap.size (.slice a1 lo.length c1) (.slice a2 hi.length c2) 27 ∧ MPart W6 bx ms0.length ms0.length ms0 ∧ MOver W6 bx w5.heap.size ms0 ∧ IOut w5.heap.size W6 (.slice a3 lo.length c3) lo ∧ IOut w5.heap.size W6 (.slice a4 hi.length c4) hi ∧ Two W6 w6.heap.size (.slice a3 lo.length c3) (.slice a4 hi.length c4) 27) :=
      ⟨L56.size, P5.out.1.below L56, P5.out.2.1.below L56, P5.out.2.2.1.below L56, P5.out.2.2.2.1.below (Nat.le_refl _) L56, P5.out.2.2.2.2.below (Nat.le_refl _) L56, o3.below hA6, o4.below hA6, t6⟩
    have stp : ∀ wa wb, Below wa.heap.size wa wb → (w5.heap.size ≤ wa.heap.size ∧ EV bx wa a1 lo ∧ EV bx wa a2 hi ∧ Two wa w3.heap.size (.slice a1 lo.length c1) (.slice a2 hi.length c2) 27 ∧ MPart wa bx ms0.length ms0.length ms0 ∧ MOver wa bx w5.heap.size ms0 ∧ IOut w5.heap.size wa (.slice a3 lo.length c3) lo ∧ IOut w5.heap.size wa (.slice a4 hi.length c4) hi ∧ Two wa w6.heap.size (.slice a3 lo.length c3) (.slice a4 hi.length c4) 27) → (w5.heap.size ≤ wb.heap.size ∧ EV bx wb a1 lo ∧ EV bx wb a2 hi ∧ Two wb w3.heap.size (.slice a1 lo.length c1) (.slice a2 hi.length c2) 27 ∧ MPart wb bx ms0.length ms0.length ms0 ∧ MOver wb bx w5.heap.size ms0 ∧ IOut w5.heap.size wb (.slice a3 lo.length c3) lo ∧ IOut w5.heap.size wb (.slice a4 hi.length c4) hi ∧ Two wb w6.heap.size (.slice a3 lo.length c3) (.slice a4 hi.length c4) 27) :=
      fun wa wb hb ⟨h0, h1, h2, h3, h4, h5, h6, h7, h8⟩ => ⟨Nat.le_trans h0 hb.size, h1.below hb, h2.below hb, h3.below hb, h4.below (Nat.le_refl _) hb, h5.below h0 hb, h6.below hb, h7.below hb, h8.below hb⟩
    have STP := hidP stp
    have HB34 := hidP (And.intro b3 (And.intro b4 ap))
    have LW6 := chain L5 L56
    have q0 := P6.out.2.2.2.2.2.2.2.2.c0
    have q1 := P6.out.2.2.2.2.2.2.2.2.c1
    have q2 := P6.out.2.2.2.1.c0
    have q3 := P6.out.2.2.2.1.c1
    have HQ := hidP (eqX a3 a4 a1 a2 c3 c4 c1 c2 lo hi lo hi W6 P6.out.2.2.2.2.2.2.1.slice P6.out.2.2.2.2.2.2.2.1.slice P6.out.2.1.view P6.out.2.2.1.view (by omega) (by omega))
    have ht : (decide (lo = lo) && decide (hi = hi)) = true := by simp
    clear stp o3 o4 ap b3 b4 hA6 t6 L6 L5 P5 L56
    rw [hW6] at q0 q1 q2 q3
    go_wp2_with fail
    rw [← hW6] at *
    clear hW6
    refine HQ.out.mono ?_
    rintro e w7 ⟨rfl, L7⟩
    have P7 := hidP (STP.out _ _ L7 P6.out)
    replace L7 := chain LW6 L7
    clear HQ LW6 P6 q0 q1 q2 q3
    go_wp2_with fail
    refine (toMS ao0 cap0 ms0 _ (hv0.next L7) hsm).mono ?_
    rintro e w8 ⟨b8, rfl, p8, hb8, L8⟩
    have P8 := hidP (STP.out _ _ L8 P7.out)
    replace L8 := chain L7 L8
    clear L7 P7 hb8
    go_wp2_with fail
    refine (eqMS _ _ _ _ ms0 ms0 _ P8.out.2.2.2.2.1.view p8.view hsm).mono ?_
    rintro e w9 ⟨rfl, L9⟩
    have P9 := hidP (STP.out _ _ L9 P8.out)
    replace L9 := chain L8 L9
    have ht0 : decide (ms0 = ms0) = true := by simp
    clear L8 P8 p8
    go_wp2_with fail
    refine (markMS bx w5.heap.size ms0.length 1 ms0 w9 P9.out.2.2.2.2.2.1 hsm (by omega) (by omega)).mono ?_
    rintro e wa ⟨⟨k1, hk1, hk2, rfl⟩, ga⟩
    have Pa : Hid (EV bx wa a1 lo ∧ EV bx wa a2 hi ∧ Two wa w3.heap.size (.slice a1 lo.length c1) (.slice a2 hi.length c2) 27 ∧ IOut w5.heap.size wa (.slice a3 lo.length c3) lo ∧ IOut w5.heap.size wa (.slice a4 hi.length c4) hi ∧ Two wa w6.heap.size (.slice a3 lo.length c3) (.slice a4 hi.length c4) 27) :=
      ⟨P9.out.2.1.gin ga (Nat.le_refl _), P9.out.2.2.1.gin ga (Nat.le_refl _), P9.out.2.2.2.1.gin ga (Or.inl h3x), P9.out.2.2.2.2.2.2.1.gin ga (Nat.le_refl _), P9.out.2.2.2.2.2.2.2.1.gin ga (Nat.le_refl _), P9.out.2.2.2.2.2.2.2.2.gin ga (Or.inr h56)⟩
    have hx5 : bx < w5.heap.size := P9.out.2.2.2.2.2.1.2.1
    have La := below_gin L9 ga hwx
    clear P9 L9 ga STP
    have q0 := Pa.out.2.2.2.2.2.c0
    have q1 := Pa.out.2.2.2.2.2.c1
    have q2 := Pa.out.2.2.1.c0
    have q3 := Pa.out.2.2.1.c1
    go_wp2_with fail
    refine (eqX a3 a4 a1 a2 c3 c4 c1 c2 lo hi lo hi wa Pa.out.2.2.2.1.slice Pa.out.2.2.2.2.1.slice Pa.out.1.view Pa.out.2.1.view (by omega) (by omega)).mono ?_
    rintro e wb ⟨rfl, Lb⟩
    have Pb : Hid (EV bx wb a1 lo ∧ EV bx wb a2 hi ∧ Two wb w3.heap.size (.slice a1 lo.length c1) (.slice a2 hi.length c2) 27 ∧ IOut w5.heap.size wb (.slice a3 lo.length c3) lo ∧ IOut w5.heap.size wb (.slice a4 hi.length c4) hi ∧ Two wb w6.heap.size (.slice a3 lo.length c3) (.slice a4 hi.length c4) 27) :=
      ⟨Pa.out.1.below Lb, Pa.out.2.1.below Lb, Pa.out.2.2.1.below Lb, Pa.out.2.2.2.1.below Lb, Pa.out.2.2.2.2.1.below Lb, Pa.out.2.2.2.2.2.below Lb⟩
    replace Lb := chain La Lb
    clear La Pa q0 q1 q2 q3
    have q0 := Pb.out.2.2.2.2.2.c0
    have q1 := Pb.out.2.2.2.2.2.c1
    go_wp2_with fail
    refine (markX w5.heap.size c3 c4 a3 a4 1 lo hi wb Pb.out.2.2.2.1 Pb.out.2.2.2.2.1 HB34.out.2.2 (by omega) (by omega) (by omega) (by omega)).mono ?_
    rintro e wc ⟨rfl, v3, v4, ch⟩
    have Pc : Hid (EV bx wc a1 lo ∧ EV bx wc a2 hi ∧ Two wc w3.heap.size (.slice a1 lo.length c1) (.slice a2 hi.length c2) 27 ∧ View wc a3 (tabL (fun i => 1 + (i : Int)) lo.length) ∧ View wc a4 (tabL (fun i => 1 + (lo.length : Int) + (i : Int)) hi.length) ∧ Two wc w6.heap.size (.slice a3 lo.length c3) (.slice a4 hi.length c4) 27) :=
      ⟨Pb.out.1.chg ch (fun a n c e => by have := HB34.out.1 a n c e; omega) (fun a n c e => by have := HB34.out.2.1 a n c e; omega), Pb.out.2.1.chg ch (fun a n c e => by have := HB34.out.1 a n c e; omega) (fun a n c e => by have := HB34.out.2.1 a n c e; omega),
        Pb.out.2.2.1.chg ch (fun a n c e => by have := HB34.out.1 a n c e; omega) (fun a n c e => by have := HB34.out.2.1 a n c e; omega), v3, v4,
        Pb.out.2.2.2.2.2.chg ch (fun a n c e => by have := HB34.out.1 a n c e; omega) (fun a n c e => by have := HB34.out.2.1 a n c e; omega)⟩
    have Lc := below_chgW Lb ch (fun a n c e => by have := HB34.out.1 a n c e; omega) (fun a n c e => by have := HB34.out.2.1 a n c e; omega)
    clear Lb Pb q0 q1 v3 v4 ch
    have q0 := Pc.out.2.2.2.2.2.c0
    have q1 := Pc.out.2.2.2.2.2.c1
    have HH := hidP (heldX c3 c4 a3 a4 1 lo.length hi.length wc Pc.out.2.2.2.1 Pc.out.2.2.2.2.1 (by omega) (by omega) (by omega) (by omega))
    go_wp2_with fail
    refine HH.out.mono ?_
    rintro e wd ⟨rfl, Ld⟩
    have Pd : Hid (EV bx wd a1 lo ∧ EV bx wd a2 hi ∧ Two wd w3.heap.size (.slice a1 lo.length c1) (.slice a2 hi.length c2) 27 ∧ View wd a3 (tabL (fun i => 1 + (i : Int)) lo.length) ∧ View wd a4 (tabL (fun i => 1 + (lo.length : Int) + (i : Int)) hi.length) ∧ Two wd w6.heap.size (.slice a3 lo.length c3) (.slice a4 hi.length c4) 27) :=
      ⟨Pc.out.1.below Ld, Pc.out.2.1.below Ld, Pc.out.2.2.1.below Ld, Pc.out.2.2.2.1.next Ld, Pc.out.2.2.2.2.1.next Ld, Pc.out.2.2.2.2.2.below Ld⟩
    replace Ld := chain Lc Ld
    clear Lc Pc q0 q1 HH
    have d1 : ¬ (1 + (lo.length : Int) + (hi.length : Int) < 0) := by omega
    have d2 : ((1 + (lo.length : Int) + (hi.length : Int)) != (1 + (lo.length : Int) + (hi.length : Int))) = false := by simp
    go_wp2_with fail
    refine (toMS ao0 cap0 ms0 _ (hv0.next Ld) hsm).mono ?_
    rintro e we ⟨be, rfl, pe, hbe, Le⟩
    have HC := hidP (iAround (some ⟨be, 0, none⟩) ms0.length ms0 we pe.view hsm)
    rw [← HLO.out, ← HHI.out] at HC
    have Pe : Hid (EV bx we a1 lo ∧ EV bx we a2 hi ∧ Two we w3.heap.size (.slice a1 lo.length c1) (.slice a2 hi.length c2) 27 ∧ View we a3 (tabL (fun i => 1 + (i : Int)) lo.length) ∧ View we a4 (tabL (fun i => 1 + (lo.length : Int) + (i : Int)) hi.length) ∧ Two we w6.heap.size (.slice a3 lo.length c3) (.slice a4 hi.length c4) 27) :=
      ⟨Pd.out.1.below Le, Pd.out.2.1.below Le, Pd.out.2.2.1.below Le, Pd.out.2.2.2.1.next Le, Pd.out.2.2.2.2.1.next Le, Pd.out.2.2.2.2.2.below Le⟩
    replace Le := chain Ld Le
    clear Ld Pd pe hbe
    go_wp2_with fail
    refine HC.out.mono ?_
    rintro e wf ⟨a5, c5, a6, c6, rfl, o5, o6, _, Lf⟩
    clear HC
    obtain ⟨WF, hWF⟩ : ∃ WF, WF = wf.alloc (.cells #[.slice a5 lo.length c5, .slice a6 hi.length c6] 27) := ⟨_, rfl⟩
    have hAF : Below wf.heap.size wf WF := by rw [hWF]; exact alloc_below wf _
    have tF : Two WF wf.heap.size (.slice a5 lo.length c5) (.slice a6 hi.length c6) 27 := by rw [hWF]; exact Two.new wf _ _ _
    have LeF := chain Lf hAF
    have PF : Hid (EV bx WF a1 lo ∧ EV bx WF a2 hi ∧ Two WF w3.heap.size (.slice a1 lo.length c1) (.slice a2 hi.length c2) 27 ∧ View WF a3 (tabL (fun i => 1 + (i : Int)) lo.length) ∧ View WF a4 (tabL (fun i => 1 + (lo.length : Int) + (i : Int)) hi.length) ∧ Two WF w6.heap.size (.slice a3 lo.length c3) (.slice a4 hi.length c4) 27) :=
      ⟨Pe.out.1.below LeF, Pe.out.2.1.below LeF, Pe.out.2.2.1.below LeF, Pe.out.2.2.2.1.next LeF, Pe.out.2.2.2.2.1.next LeF, Pe.out.2.2.2.2.2.below LeF⟩
    have LF := chain Le LeF
    have q0 := tF.c0
    have q1 := tF.c1
    have q2 := PF.out.2.2.1.c0
    have q3 := PF.out.2.2.1.c1
    have HQ := hidP (eqX a5 a6 a1 a2 c5 c6 c1 c2 lo hi lo hi WF (o5.below hAF).slice (o6.below hAF).slice PF.out.1.view PF.out.2.1.view (by omega) (by omega))
    clear Le Lf LeF Pe o5 o6 hAF tF
    rw [hWF] at q0 q1 q2 q3
    go_wp2_with fail
    rw [← hWF] at *
    clear hWF
    refine HQ.out.mono ?_
    rintro e wg ⟨rfl, Lg⟩
    have Pg : Hid (View wg a3 (tabL (fun i => 1 + (i : Int)) lo.length) ∧ View wg a4 (tabL (fun i => 1 + (lo.length : Int) + (i : Int)) hi.length) ∧ Two wg w6.heap.size (.slice a3 lo.length c3) (.slice a4 hi.length c4) 27) :=
      ⟨PF.out.2.2.2.1.next Lg, PF.out.2.2.2.2.1.next Lg, PF.out.2.2.2.2.2.below Lg⟩
    replace Lg := chain LF Lg
    clear LF PF HQ q0 q1 q2 q3
    have q0 := Pg.out.2.2.c0
    have q1 := Pg.out.2.2.c1
    have HH := hidP (heldX c3 c4 a3 a4 1 lo.length hi.length wg Pg.out.1 Pg.out.2.1 (by omega) (by omega) (by omega) (by omega))
    go_wp2_with fail
    refine HH.out.mono ?_
    rintro e wh ⟨rfl, Lh⟩
    replace Lh := chain Lg Lh
    clear Lg Pg q0 q1 HH
    go_wp2_with fail
    go_ret
    exact ⟨rfl, Lh⟩

set_option maxRecDepth 100000 in
theorem lifted (os : Os) (started : os.Started) (H : Type) (enc : TypeId × Value → H) :
    ReturnsInHanded {} Try.checked os 4 .any (Rows.fnExactAroundSpec.pre6 enc Try.prog Try.f4 Rows.fnExactAroundRow.domain false) (Rows.fnExactAroundSpec.post enc Try.prog Try.f4 false true false false) := by
  refine returnsInHanded_of_change (C := Try.checked) own started (by kernel_rfl) Try.func4
    (ChangeSpec.witness6 (enc := enc) (C := Try.checked) false ⟨#[], #[.slice none 0 0], []⟩ 8 (by kernel_rfl) (by kernel_rfl) (by kernel_rfl) (by kernel_rfl)) ?_
  intro W base args ds gs before hval0 hW hcnd _
  have hval : ∀ (j : Nat) t v, Try.f4.params[j]? = some t → args[j]? = some v → Value.okWide Try.prog W .any base t v := hval0
  have hW' := hW
  obtain ⟨p, q, hA0, hV, rfl, hfz, hnd⟩ := hW
  have hA : DataW.TrodAll enc Try.prog W 0 (fun _ => true) true Try.f4.params.toList args.toList ds p := hA0
  rw [Try.params4] at hA hval
  obtain ⟨v0, vs0, d0, ds0, p0, q0, hargs, rfl, rfl, h0, r0⟩ := trodAll_cons hA
  obtain ⟨rfl, rfl, rfl⟩ := trodAll_nil r0
  obtain rfl : args = #[v0] := by cases args; simp_all
  obtain ⟨rfl, rfl⟩ := trodVars_none hV
  obtain ⟨a0, len0, cap0, rfl⟩ := okWide_slice Try.underlying31 (hval 0 31 v0 rfl rfl)
  have k0 := h0
  have lt0 : ∀ x ∈ p0, x.block < W.heap.size := by obtain ⟨m, hm⟩ := k0; exact DataW.trod_lt m _ _ _ hm
  obtain ⟨ms0, rfl, hv0, hn0, hat0⟩ := (by obtain ⟨fuel, hf⟩ := h0; exact marks_view hf : ∃ ms : List Mk, len0 = ms.length ∧ MView W a0 ms ∧ ms.length ≤ maxLen ∧ ∀ i, (mat ms i).length ≤ maxLen)
  clear hA0 hval0
  refine (walk a0 cap0 ms0 W hv0 hn0 hat0).mono fun e W' ⟨he, bel⟩ => ?_
  subst he
  exact ⟨_, rfl, _, _, _, [], _, [], hW', trodAll_mk1 (shut_bool Try.underlying4 _), (trodAll_cons_mk (Below.trod laidOut (by kernel_rfl) (of_decide_eq_true (by kernel_rfl)) k0 bel lt0) trodAll_mk0), rfl, bel.frame _, fun h => by cases h⟩

theorem over : Rows.fnExactAroundRow.holds Try.pinned (OpenSpec.ofChange Rows.fnExactAroundSpec) :=
  OpenClaim.holds_of_wide 4 Try.f4 rfl rfl rfl rfl rfl rfl rfl ⟨rfl, rfl, rfl, rfl, rfl⟩ rfl rfl rfl rfl rfl (by kernel_rfl) Try.func4 (by kernel_rfl)
    (of_decide_eq_true (by kernel_rfl)) (by unfold Func.isWrapper; first | (rw [if_pos (by decide +kernel)]; kernel_rfl) | (rw [if_neg (by decide +kernel)]; exact ⟨rfl, rfl⟩))
    (fun os started H enc _ => lifted os started H enc)

end Go.Proofs.Ytadcpiljhhfcpaa.fnExactAround
namespace Go.Proofs.Ytadcpiljhhfcpaa

theorem FnExactAround_holds : Rows.FnExactAroundSaid := fnExactAround.over

end Go.Proofs.Ytadcpiljhhfcpaa
