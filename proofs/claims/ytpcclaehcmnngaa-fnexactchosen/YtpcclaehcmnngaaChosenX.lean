/-
  FnExactChosen holds: for every slice of marks, every count and every kind the program's Chosen answers as the given one, leaves its argument alone, and its answer is new memory; no condition.
-/
import Derived.Test.YtpcclaehcmnngaaMArgs
import Derived.Test.YtpcclaehcmnngaaMMark
import Derived.Test.YtpcclaehcmnngaaZCho
namespace Go.Proofs.Ytpcclaehcmnngaa.fnExactChosen
open Go.ChangeShapes Go.WideShapes Go.ChangeAt Go.RowKit
set_option linter.unusedVariables false

theorem own : ownKnob Try.prog.godebug = none := by kernel_rfl
theorem laidOut : laidOutB Try.prog = true := by kernel_rfl

set_option maxRecDepth 100000 in
set_option maxHeartbeats 4000000 in
theorem walk (ao0 : Option Addr) (cap0 : Nat) (ms0 : List Mk) (x1 : Int) (x2 : Int) (w : World) (hv0 : MView w ao0 ms0) (hn0 : ms0.length ≤ maxLen) (hat0 : ∀ i, (mat ms0 i).length ≤ maxLen) (hx1 : (Lit.int .i64 x1).wf = true) (hx2 : (Lit.int .i64 x2).wf = true) :
    Calls Try.prog 4 #[.slice ao0 ms0.length cap0, .int .i64 x1, .int .i64 x2] w fun e w' => e = .returned (.bool true) ∧ Below w.heap.size w w' := by
  go_enter Try.func4, Try.ntmps4
  go_wp2_with fail
  refine (szMS ao0 cap0 ms0 _ hv0 hn0 hat0).mono ?_
  rintro e w1 ⟨r, rfl, hr, L1⟩
  by_cases hneg : r < 0
  · go_wp2_with fail
    go_ret
    exact ⟨rfl, L1⟩
  have hsm : MSmall ms0 := by rcases hr with h | h; exact absurd h hneg; exact h
  clear hr
  obtain ⟨R, hR⟩ : ∃ R, choL ms0 x1 x2 = R := ⟨_, rfl⟩
  have nR : R.length ≤ 60 := by rw [← hR]; exact choL_short ms0 x1 x2
  have HR := hidP hR
  clear hR
  go_wp2_with fail
  refine (toMS ao0 cap0 ms0 _ (hv0.next L1) hsm).mono ?_
  rintro e w2 ⟨b2, rfl, p2, hb2, L2⟩
  replace L2 := chain L1 L2
  clear L1 hb2
  have HC := hidP (sChosen (some ⟨b2, 0, none⟩) ms0.length ms0 x1 x2 w2 p2.view hsm)
  rw [HR.out] at HC
  go_wp2_with fail
  refine HC.out.mono ?_
  rintro e w3 ⟨gw, cw, rfl, row3, L3⟩
  replace L3 := chain L2 L3
  have s3 := row3.seg
  have hgw := row3.lt.2
  clear L2 HC p2 row3
  go_wp2_with fail
  refine (toMS ao0 cap0 ms0 _ (hv0.next L3) hsm).mono ?_
  rintro e w5 ⟨bx, rfl, px, hbx, L5⟩
  have hwx : w.heap.size ≤ bx := Nat.le_trans L3.size hbx
  have hgx : gw < bx := by omega
  have s5 := s3.below hgw L5
  have LW5 := chain L3 L5
  have ov := px.over
  have hbl := px.1
  clear L3 L5 s3
  have HC := hidP (iChosen (some ⟨bx, 0, none⟩) ms0.length ms0 x1 x2 w5 px.view hsm)
  rw [HR.out] at HC
  go_wp2_with fail
  refine HC.out.mono ?_
  rintro e w6 ⟨ag, cg, rfl, g6, L6⟩
  have hz6 := L6.size
  have s6 := s5.below (by omega : gw < w5.heap.size) L6
  have p6 := px.below (Nat.le_refl _) L6
  have ov6 := ov.below (Nat.le_refl _) L6
  have LW6 := chain LW5 L6
  clear HC L6 s5 px ov LW5
  go_wp2_with fail
  refine (eqS _ _ _ _ R R _ g6.slice (Or.inr ⟨gw, 0, rfl, by omega, s6⟩) (by omega)).mono ?_
  rintro e w7 ⟨rfl, n7, hw7⟩
  have ht : decide (R = R) = true := by simp
  have s7 : Seg w7 gw 0 R := by rw [hw7]; exact s6
  have g7 : IOut w5.heap.size w7 (.slice ag R.length cg) R := by rw [hw7]; exact g6
  have p7 : MPart w7 bx ms0.length ms0.length ms0 := by rw [hw7]; exact p6
  have ov7 : MOver w7 bx w5.heap.size ms0 := by rw [hw7]; exact ov6
  have LW7 : Below w.heap.size w w7 := by rw [hw7]; exact below_drewN LW6 n7
  have hz7 : w5.heap.size ≤ w7.heap.size := by rw [hw7]; exact hz6
  clear hw7 s6 g6 p6 ov6 LW6 hz6
  go_wp2_with fail
  refine (toMS ao0 cap0 ms0 _ (hv0.next LW7) hsm).mono ?_
  rintro e w8 ⟨b8, rfl, p8, hb8, L8⟩
  have s8' := s7.below (by omega : gw < w7.heap.size) L8
  have g8 := g7.below L8
  have p8x := p7.below (Nat.le_refl _) L8
  have ov8 := ov7.below hz7 L8
  have LW8 := chain LW7 L8
  have hz8 := Nat.le_trans hz7 L8.size
  clear L8 s7 g7 p7 ov7 LW7 hz7 hb8
  go_wp2_with fail
  refine (eqMS _ _ _ _ ms0 ms0 _ p8x.view p8.view hsm).mono ?_
  rintro e w9 ⟨rfl, L9⟩
  have ht2 : decide (ms0 = ms0) = true := by simp
  have s9 := s8'.below (by omega : gw < w8.heap.size) L9
  have g9 := g8.below L9
  have ov9 := ov8.below hz8 L9
  have LW9 := chain LW8 L9
  have hz9 := Nat.le_trans hz8 L9.size
  clear L9 s8' g8 p8x ov8 LW8 hz8 p8
  go_wp2_with fail
  refine (markMS bx w5.heap.size ms0.length 1 ms0 _ ov9 hsm (by omega) (by omega)).mono ?_
  rintro e w10 ⟨⟨k1, hk1, hk2, rfl⟩, gi⟩
  have hk0 : ¬ k1 < 0 := by omega
  have gsame : ∀ i, (i < bx ∨ w5.heap.size ≤ i) → i < w9.heap.size → w10.heap[i]? = w9.heap[i]? := fun i h1 h2 => gi.2.2.2.2 i h2 (by omega)
  have s10 : Seg w10 gw 0 R := fun i hi => (World.cell?_of_block (w := w9) (a := ⟨gw, 0 + i, none⟩) (gsame gw (Or.inl hgx) (by omega))).trans (s9 i hi)
  have g10 : IOut w5.heap.size w10 (.slice ag R.length cg) R := g9.imp id fun ⟨g, c, e, hr⟩ => ⟨g, c, e, by
    obtain ⟨k1, k2 | ⟨g', c', cur, e1, h3, h4, h5⟩⟩ := hr
    · exact ⟨k1, Or.inl k2⟩
    · refine ⟨k1, Or.inr ⟨g', c', cur, e1, h3, ?_, h5⟩⟩
      rw [gsame g' (Or.inr h3) (Array.getElem?_eq_some_iff.1 h4).1]; exact h4⟩
  have LW10 : Below w.heap.size w w10 := ⟨gi.1.trans LW9.os, gi.2.1.trans LW9.tape, gi.2.2.1.trans LW9.output, Nat.le_trans LW9.size gi.2.2.2.1, fun i hi => (gsame i (Or.inl (by omega)) (by have := LW9.size; omega)).trans (LW9.block i hi)⟩
  have hz10 := Nat.le_trans hz9 gi.2.2.2.1
  clear gi gsame s9 g9 ov9 LW9 hz9
  go_wp2_with fail
  refine (eqS _ _ _ _ R R _ g10.slice (Or.inr ⟨gw, 0, rfl, by omega, s10⟩) (by omega)).mono ?_
  rintro e w11 ⟨rfl, n11, hw11⟩
  have s11 : Seg w11 gw 0 R := by rw [hw11]; exact s10
  have g11 : IOut w5.heap.size w11 (.slice ag R.length cg) R := by rw [hw11]; exact g10
  have LW11 : Below w.heap.size w w11 := by rw [hw11]; exact below_drewN LW10 n11
  have hz11 : w5.heap.size ≤ w11.heap.size := by rw [hw11]; exact hz10
  clear hw11 s10 g10 LW10 hz10
  go_wp2_with fail
  refine (markO w5.heap.size cg ag 1 R _ g11 (by omega) (by omega) (by omega)).mono ?_
  rintro e w12 ⟨rfl, g12, ch, hbase⟩
  rw [tabL_length] at g12
  have hah : ∀ i, i < w5.heap.size → w12.heap[i]? = w11.heap[i]? := fun i hi => ch.2.2.2.2 i (by omega) (fun a n c e => by injection e with e1 e2 e3; have := hbase a.block ⟨a, e1, rfl⟩; omega)
  have s12 : Seg w12 gw 0 R := fun i hi => (World.cell?_of_block (w := w11) (a := ⟨gw, 0 + i, none⟩) (hah gw (by omega))).trans (s11 i hi)
  have v12 := g12.slice
  have LW12 : Below w.heap.size w w12 := ⟨ch.1.trans LW11.os, ch.2.1.trans LW11.tape, ch.2.2.1.trans LW11.output, Nat.le_trans LW11.size ch.2.2.2.1, fun i hi => (hah i (by omega)).trans (LW11.block i hi)⟩
  have hz12 := Nat.le_trans hz11 ch.2.2.2.1
  clear g12 ch hbase hah s11 g11 LW11 hz11
  have hq0 : ¬ ((1 : Int) + R.length < 0) := by omega
  have hq1 : (((1 : Int) + R.length) != (1 + R.length)) = false := by simp
  go_wp2_with fail
  refine (heldI ag cg R.length 1 _ v12 (by omega) (by omega) (by omega)).mono ?_
  rintro e w13 ⟨rfl, hw13⟩
  subst w13
  go_wp2_with fail
  refine (toMS ao0 cap0 ms0 _ (hv0.next LW12) hsm).mono ?_
  rintro e w14 ⟨b14, rfl, p14, hb14, L14⟩
  have s14 := s12.below (by omega : gw < w12.heap.size) L14
  have v14 := View.next v12 L14
  have LW14 := chain LW12 L14
  have hz14 := Nat.le_trans hz12 L14.size
  clear L14 s12 v12 LW12 hz12 hb14
  have HC := hidP (iChosen (some ⟨b14, 0, none⟩) ms0.length ms0 x1 x2 w14 p14.view hsm)
  rw [HR.out] at HC
  go_wp2_with fail
  refine HC.out.mono ?_
  rintro e w15 ⟨ah, chh, rfl, h15, L15⟩
  have s15 := s14.below (by omega : gw < w14.heap.size) L15
  have v15 := View.next v14 L15
  have LW15 := chain LW14 L15
  have hz15 := Nat.le_trans hz14 L15.size
  clear L15 s14 v14 LW14 hz14 HC p14
  go_wp2_with fail
  refine (eqS _ _ _ _ R R _ h15.slice (Or.inr ⟨gw, 0, rfl, by omega, s15⟩) (by omega)).mono ?_
  rintro e w16 ⟨rfl, n16, hw16⟩
  have v16 : View w16 ag (tabL (fun i => 1 + (i : Int)) R.length) := by rw [hw16]; exact v15
  have LW16 : Below w.heap.size w w16 := by rw [hw16]; exact below_drewN LW15 n16
  clear hw16 s15 v15 LW15 hz15 h15
  go_wp2_with fail
  refine (heldI ag cg R.length 1 _ v16 (by omega) (by omega) (by omega)).mono ?_
  rintro e w17 ⟨rfl, hw17⟩
  subst w17
  go_wp2_with fail
  go_ret
  exact ⟨rfl, LW16⟩

set_option maxRecDepth 100000 in
theorem lifted (os : Os) (started : os.Started) (H : Type) (enc : TypeId × Value → H) :
    ReturnsInHanded {} Try.checked os 4 .any (Rows.fnExactChosenSpec.pre6 enc Try.prog Try.f4 Rows.fnExactChosenRow.domain false) (Rows.fnExactChosenSpec.post enc Try.prog Try.f4 false true false false) := by
  refine returnsInHanded_of_change (C := Try.checked) own started (by kernel_rfl) Try.func4
    (ChangeSpec.witness6 (enc := enc) (C := Try.checked) false ⟨#[], #[.slice none 0 0, .int .i64 0, .int .i64 0], []⟩ 8 (by kernel_rfl) (by kernel_rfl) (by kernel_rfl) (by kernel_rfl)) ?_
  intro W base args ds gs before hval0 hW hcnd _
  have hval : ∀ (j : Nat) t v, Try.f4.params[j]? = some t → args[j]? = some v → Value.okWide Try.prog W .any base t v := hval0
  have hW' := hW
  obtain ⟨p, q, hA0, hV, rfl, hfz, hnd⟩ := hW
  have hA : DataW.TrodAll enc Try.prog W 0 (fun _ => true) true Try.f4.params.toList args.toList ds p := hA0
  rw [Try.params4] at hA hval
  obtain ⟨v0, vs0, d0, ds0, p0, q0, hargs, rfl, rfl, h0, r0⟩ := trodAll_cons hA
  obtain ⟨v1, vs1, d1, ds1, p1, q1, rfl, rfl, rfl, h1, r1⟩ := trodAll_cons r0
  obtain ⟨v2, vs2, d2, ds2, p2, q2, rfl, rfl, rfl, h2, r2⟩ := trodAll_cons r1
  obtain ⟨rfl, rfl, rfl⟩ := trodAll_nil r2
  obtain rfl : args = #[v0, v1, v2] := by cases args; simp_all
  obtain ⟨rfl, rfl⟩ := trodVars_none hV
  obtain ⟨a0, len0, cap0, rfl⟩ := okWide_slice Try.underlying35 (hval 0 35 v0 rfl rfl)
  have k0 := h0
  have lt0 : ∀ x ∈ p0, x.block < W.heap.size := by obtain ⟨m, hm⟩ := k0; exact DataW.trod_lt m _ _ _ hm
  obtain ⟨ms0, rfl, hv0, hn0, hat0⟩ := (by obtain ⟨fuel, hf⟩ := h0; exact marks_view hf : ∃ ms : List Mk, len0 = ms.length ∧ MView W a0 ms ∧ ms.length ≤ maxLen ∧ ∀ i, (mat ms i).length ≤ maxLen)
  obtain ⟨a1, rfl, rfl, rfl, w1⟩ := open_int Try.underlying2 (hval 1 2 v1 rfl rfl) h1
  obtain ⟨a2, rfl, rfl, rfl, w2⟩ := open_int Try.underlying2 (hval 2 2 v2 rfl rfl) h2
  clear hA0 hval0
  refine (walk a0 cap0 ms0 a1 a2 W hv0 hn0 hat0 w1 w2).mono fun e W' ⟨he, bel⟩ => ?_
  subst he
  exact ⟨_, rfl, _, _, _, [], _, [], hW', trodAll_mk1 (shut_bool Try.underlying4 _), (trodAll_cons_mk (Below.trod laidOut (by kernel_rfl) (of_decide_eq_true (by kernel_rfl)) k0 bel lt0) (trodAll_cons_mk (shut_int Try.underlying2 w1) (trodAll_cons_mk (shut_int Try.underlying2 w2) trodAll_mk0))), rfl, bel.frame _, fun h => by cases h⟩

theorem over : Rows.fnExactChosenRow.holds Try.pinned (OpenSpec.ofChange Rows.fnExactChosenSpec) :=
  OpenClaim.holds_of_wide 4 Try.f4 rfl rfl rfl rfl rfl rfl rfl ⟨rfl, rfl, rfl, rfl, rfl⟩ rfl rfl rfl rfl rfl (by kernel_rfl) Try.func4 (by kernel_rfl)
    (of_decide_eq_true (by kernel_rfl)) (by unfold Func.isWrapper; first | (rw [if_pos (by decide +kernel)]; kernel_rfl) | (rw [if_neg (by decide +kernel)]; exact ⟨rfl, rfl⟩))
    (fun os started H enc _ => lifted os started H enc)

end Go.Proofs.Ytpcclaehcmnngaa.fnExactChosen
namespace Go.Proofs.Ytpcclaehcmnngaa

theorem FnExactChosen_holds : Rows.FnExactChosenSaid := fnExactChosen.over

end Go.Proofs.Ytpcclaehcmnngaa
