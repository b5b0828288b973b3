/-
  FnPrefix holds: for every list of bytes the law of Prefix answers true and leaves its argument alone; no condition.
-/
import Derived.Test.YtibkfdefoaimiaaBytes
import Derived.Test.YtibkfdefoaimiaaMDraw2
import Derived.Test.YtibkfdefoaimiaaOPre
import Derived.Test.YtibkfdefoaimiaaODraw
namespace Go.Proofs.Ytibkfdefoaimiaa.fnPrefix
open Go.ChangeShapes Go.WideShapes Go.ChangeAt Go.RowKit
set_option linter.unusedVariables false

theorem own : ownKnob Try.prog.godebug = none := by kernel_rfl
theorem laidOut : laidOutB Try.prog = true := by kernel_rfl

set_option maxRecDepth 100000 in
set_option maxHeartbeats 4000000 in
theorem walk (ao0 : Option Addr) (len0 cap0 : Nat) (w : World) (hv0 : CodeV w ao0 len0) (hn0 : len0 ≤ maxLen) :
    Calls Try.prog 4 #[.slice ao0 len0 cap0] w fun e w' => e = .returned (.bool true) ∧ Below w.heap.size w w' := by
  unfold maxLen at hn0
  by_cases hbig : 4096 < len0
  · go_enter Try.func4, Try.ntmps4
    go_wp2_with (go_at_call 10; refine (bigC _ _ _ _).mono ?_; rintro e w' ⟨rfl, rfl⟩)
    go_ret
    exact ⟨rfl, Below.refl _ _⟩
  have hn : len0 ≤ 4096 := by omega
  have hbb : decide (4096 < (len0 : Int)) = false := by simp; omega
  clear hn0 hbig
  go_enter Try.func4, Try.ntmps4
  go_wp2_with fail
  refine (bigC _ _ _ _).mono ?_
  rintro e wd0 ⟨rfl, hu0⟩
  subst hu0
  rw [hbb]
  go_wp2_with fail
  refine (cPrefixD ao0 len0 cap0 _ hv0 hn).mono ?_
  rintro e w1 ⟨⟨a, b, rfl⟩, L1⟩
  clear hv0 hbb
  go_wp2_with fail
  refine (iPre a b _).mono ?_
  rintro e w2 ⟨rfl, L2⟩
  replace L2 := chain L1 L2
  clear L1
  go_wp2_with fail
  refine (sPre a b _).mono ?_
  rintro e w3 ⟨rfl, rfl⟩
  have hne : (preV a b != preV a b) = false := by simp
  by_cases hin : fortyB a = true ∧ fortyB b = true
  · obtain ⟨ha, hb⟩ := hin
    have hbd := preV_bd ha hb
    obtain ⟨fa1, fa2⟩ := fortyB_lt ha
    obtain ⟨fb1, fb2⟩ := fortyB_lt hb
    have ha40 : a < 1099511627776 := by omega
    have hb40 : b < 1099511627776 := by omega
    have HSM := hidP (preV_same ha hb)
    have HCM := hidP (preV_comm b a)
    have HA := hidP ha
    have HB := hidP hb
    have h0 : ¬ preV a b < 0 := by omega
    clear fa1 fb1 ha hb
    obtain ⟨N, hN⟩ : ∃ N, preV a b = N := ⟨_, rfl⟩
    have HNE := hidP hN
    rw [hN] at h0 hbd hne HSM HCM ⊢
    have heq : ((N == 40) == (a == b)) = true := by
      have := HSM.out
      by_cases e : a = b
      · simp [e, this.2 e]
      · have h9 : ¬ N = 40 := fun h => e (this.1 h)
        rw [beq_eq_false_iff_ne.2 h9, beq_eq_false_iff_ne.2 e]; rfl
    clear hN
    by_cases hlt : b < a
    · have HMID := hidP (preV_mid (a := b) (b := (b + (a - b) / 2)) (c := a) HB.out HA.out (by omega) (by omega))
      obtain ⟨X, hX⟩ : ∃ X, preV b (b + (a - b) / 2) = X := ⟨_, rfl⟩
      obtain ⟨Y, hY⟩ : ∃ Y, preV (b + (a - b) / 2) a = Y := ⟨_, rfl⟩
      have HX := hidP hX
      have HY := hidP hY
      have HXY := hidP (show min X Y = N by rw [← hX, ← hY, HMID.out, preV_comm, HNE.out])
      clear hX hY HMID
      have hm1 : 0 ≤ (a - b) / 2 := by omega
      have hm2 : (a - b) / 2 ≤ a - b := by omega
      go_wp2_with fail
      refine (iPre b (b + (a - b) / 2) _).mono ?_
      rw [HX.out]
      rintro e w4 ⟨rfl, L4⟩
      replace L4 := chain L2 L4
      clear L2
      go_wp2_with fail
      refine (iPre (b + (a - b) / 2) a _).mono ?_
      rw [HY.out]
      rintro e w5 ⟨rfl, L5⟩
      replace L5 := chain L4 L5
      clear L4
      by_cases hyx : Y < X
      · have hYN : Y = N := by have := HXY.out; omega
        clear HXY
        subst hYN
        go_wp2_with fail
        refine (iPre b a _).mono ?_
        rw [HCM.out]
        rintro e w6 ⟨rfl, L6⟩
        replace L6 := chain L5 L6
        clear L5
        have hnn : (Y == Y) = true := by simp
        go_wp2_with fail
        go_ret
        exact ⟨rfl, L6⟩
      · have hXN : X = N := by have := HXY.out; omega
        clear HXY
        subst hXN
        go_wp2_with fail
        refine (iPre b a _).mono ?_
        rw [HCM.out]
        rintro e w6 ⟨rfl, L6⟩
        replace L6 := chain L5 L6
        clear L5
        have hnn : (X == X) = true := by simp
        go_wp2_with fail
        go_ret
        exact ⟨rfl, L6⟩
    · have HMID := hidP (preV_mid (a := a) (b := (a + (b - a) / 2)) (c := b) HA.out HB.out (by omega) (by omega))
      obtain ⟨X, hX⟩ : ∃ X, preV a (a + (b - a) / 2) = X := ⟨_, rfl⟩
      obtain ⟨Y, hY⟩ : ∃ Y, preV (a + (b - a) / 2) b = Y := ⟨_, rfl⟩
      have HX := hidP hX
      have HY := hidP hY
      have HXY := hidP (show min X Y = N by rw [← hX, ← hY, HMID.out, HNE.out])
      clear hX hY HMID
      have hm1 : 0 ≤ (b - a) / 2 := by omega
      have hm2 : (b - a) / 2 ≤ b - a := by omega
      go_wp2_with fail
      refine (iPre a (a + (b - a) / 2) _).mono ?_
      rw [HX.out]
      rintro e w4 ⟨rfl, L4⟩
      replace L4 := chain L2 L4
      clear L2
      go_wp2_with fail
      refine (iPre (a + (b - a) / 2) b _).mono ?_
      rw [HY.out]
      rintro e w5 ⟨rfl, L5⟩
      replace L5 := chain L4 L5
      clear L4
      by_cases hyx : Y < X
      · have hYN : Y = N := by have := HXY.out; omega
        clear HXY
        subst hYN
        go_wp2_with fail
        refine (iPre b a _).mono ?_
        rw [HCM.out]
        rintro e w6 ⟨rfl, L6⟩
        replace L6 := chain L5 L6
        clear L5
        have hnn : (Y == Y) = true := by simp
        go_wp2_with fail
        go_ret
        exact ⟨rfl, L6⟩
      · have hXN : X = N := by have := HXY.out; omega
        clear HXY
        subst hXN
        go_wp2_with fail
        refine (iPre b a _).mono ?_
        rw [HCM.out]
        rintro e w6 ⟨rfl, L6⟩
        replace L6 := chain L5 L6
        clear L5
        have hnn : (X == X) = true := by simp
        go_wp2_with fail
        go_ret
        exact ⟨rfl, L6⟩
  · have HN := hidP (preV_neg hin)
    rw [HN.out]
    have hne' : ((-1 : Int) != -1) = false := by decide
    clear hne
    go_wp2
    go_ret
    exact ⟨rfl, L2⟩

set_option maxRecDepth 100000 in
theorem lifted (os : Os) (started : os.Started) (H : Type) (enc : TypeId × Value → H) :
    ReturnsInHanded {} Try.checked os 4 .any (Rows.fnPrefixSpec.pre6 enc Try.prog Try.f4 Rows.fnPrefixRow.domain false) (Rows.fnPrefixSpec.post enc Try.prog Try.f4 false true false false) := by
  refine returnsInHanded_of_change (C := Try.checked) own started (by kernel_rfl) Try.func4
    (ChangeSpec.witness6 (enc := enc) (C := Try.checked) false ⟨#[], #[.slice none 0 0], []⟩ 8 (by kernel_rfl) (by kernel_rfl) (by kernel_rfl) (by kernel_rfl)) ?_
  intro W base args ds gs before hval0 hW hcnd _
  have hval : ∀ (j : Nat) t v, Try.f4.params[j]? = some t → args[j]? = some v → Value.okWide Try.prog W .any base t v := hval0
  have hW' := hW
  obtain ⟨p, q, hA0, hV, rfl, hfz, hnd⟩ := hW
  have hA : DataW.TrodAll enc Try.prog W 0 (fun _ => true) true Try.f4.params.toList args.toList ds p := hA0
  rw [Try.params4] at hA hval
  obtain ⟨v0, vs0, d0, ds0, p0, q0, hargs, rfl, rfl, h0, r0⟩ := trodAll_cons hA
  obtain ⟨rfl, rfl, rfl⟩ := trodAll_nil r0
  obtain rfl : args = #[v0] := by cases args; simp_all
  obtain ⟨rfl, rfl⟩ := trodVars_none hV
  obtain ⟨a0, len0, cap0, rfl⟩ := okWide_slice Try.underlying22 (hval 0 22 v0 rfl rfl)
  have k0 := h0
  have lt0 : ∀ x ∈ p0, x.block < W.heap.size := by obtain ⟨m, hm⟩ := k0; exact DataW.trod_lt m _ _ _ hm
  obtain ⟨hv0, hn0⟩ := (by obtain ⟨fuel, hf⟩ := h0; exact code_view hf : CodeV W a0 len0 ∧ len0 ≤ maxLen)
  clear hA0 hval0
  refine (walk a0 len0 cap0 W hv0 hn0).mono fun e W' ⟨he, bel⟩ => ?_
  subst he
  exact ⟨_, rfl, _, _, _, [], _, [], hW', trodAll_mk1 (shut_bool Try.underlying4 _), (trodAll_cons_mk (Below.trod laidOut (by kernel_rfl) (of_decide_eq_true (by kernel_rfl)) k0 bel lt0) trodAll_mk0), rfl, bel.frame _, fun h => by cases h⟩

theorem over : Rows.fnPrefixRow.holds Try.pinned (OpenSpec.ofChange Rows.fnPrefixSpec) :=
  OpenClaim.holds_of_wide 4 Try.f4 rfl rfl rfl rfl rfl rfl rfl ⟨rfl, rfl, rfl, rfl, rfl⟩ rfl rfl rfl rfl rfl (by kernel_rfl) Try.func4 (by kernel_rfl)
    (of_decide_eq_true (by kernel_rfl)) (by unfold Func.isWrapper; first | (rw [if_pos (by decide +kernel)]; kernel_rfl) | (rw [if_neg (by decide +kernel)]; exact ⟨rfl, rfl⟩))
    (fun os started H enc _ => lifted os started H enc)

end Go.Proofs.Ytibkfdefoaimiaa.fnPrefix
namespace Go.Proofs.Ytibkfdefoaimiaa

theorem FnPrefix_holds : Rows.FnPrefixSaid := fnPrefix.over

end Go.Proofs.Ytibkfdefoaimiaa
