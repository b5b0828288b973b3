/-
  FnLooked holds: for every list of bytes the law of Looked answers true and leaves its argument alone; no condition.
-/
import Derived.Test.YtodielfilhodeaaBytesZz
import Derived.Test.YtodielfilhodeaaMDraw2Zz
import Derived.Test.YtodielfilhodeaaKDrawZz
import Derived.Test.YtodielfilhodeaaKLkLZz
import Derived.Test.YtodielfilhodeaaKLkSZz
namespace Go.Proofs.Ytodielfilhodeaa.fnLooked
open Go.ChangeShapes Go.WideShapes Go.ChangeAt Go.RowKit
set_option linter.unusedVariables false

theorem own : ownKnob Try.prog.godebug = none := by kernel_rfl
theorem laidOut : laidOutB Try.prog = true := by kernel_rfl

set_option maxRecDepth 100000 in
set_option maxHeartbeats 4000000 in
theorem walk (ao0 : Option Addr) (len0 cap0 : Nat) (w : World) (hv0 : CodeV w ao0 len0) (hn0 : len0 ≤ maxLen) :
    Calls Try.prog 4 #[.slice ao0 len0 cap0] w fun e w' => e = .returned (.bool true) ∧ Below w.heap.size w w' := by
  unfold maxLen at hn0
  by_cases hbig : 4096 < len0
  · go_enter Try.func4, Try.ntmps4
    go_wp2_with (go_at_call 8; refine (bigC _ _ _ _).mono ?_; rintro e w' ⟨rfl, rfl⟩)
    go_ret
    exact ⟨rfl, Below.refl _ _⟩
  have hn : len0 ≤ 4096 := by omega
  have hbb : decide (4096 < (len0 : Int)) = false := by simp; omega
  clear hn0 hbig
  go_enter Try.func4, Try.ntmps4
  go_wp2_with fail
  refine (bigC _ _ _ _).mono ?_
  rintro e wd0 ⟨rfl, hu0⟩
  subst hu0
  rw [hbb]
  go_wp2_with fail
  refine (cLooked ao0 len0 cap0 _ hv0 hn).mono ?_
  rintro e w1 ⟨a1, c1, ks, g, c, xs, rfl, hkv, hlen, hat, hxv, hxl, L1⟩
  have hsm := ks_small hlen hat
  have HKV := hidP hkv
  clear hv0 hbb
  have HI := hidP (iLooked a1 (some ⟨g, 0, none⟩) c1 c ks xs w1 hkv hsm hxv (by omega))
  have HS := hidP (fun w2 (L2 : Below w1.heap.size w1 w2) => sLookedS a1 (some ⟨g, 0, none⟩) c1 c ks xs w2 (hkv.next L2) hsm (hxv.next L2) (by omega))
  have HR : Hid (∀ w2, Below w1.heap.size w1 w2 → 0 < ks.length → ∃ b o ao ca, a1 = some ⟨b, o, none⟩ ∧ w2.cell? ⟨b, o + 1, none⟩ = some (.slice ao (knth ks 0).1.2.length ca) ∧ Calls Try.prog 25 #[.slice a1 ks.length c1, .slice ao (knth ks 0).1.2.length ca] w2 fun e w' => e = .returned (.int .i64 (lookedV ks (knth ks 0).1.2)) ∧ Below w2.heap.size w2 w') := fun w2 L2 h0 => by
    have hv2 := HKV.out.next L2
    rcases hv2 with h | ⟨b, o, e, hb, hs⟩
    · rw [h] at h0; simp at h0
    · obtain ⟨_, ⟨ao, ca, k1, hv1⟩, _⟩ := hs 0 h0
      simp only [Nat.zero_mul, Nat.add_zero] at k1
      refine ⟨b, o, ao, ca, e, k1, ?_⟩
      exact iLooked a1 ao c1 ca ks (knth ks 0).1.2 w2 (Or.inr ⟨b, o, e, hb, hs⟩) hsm hv1 (hsm.2 0)
  have HF := hidP (fun h => look_facts (ks := ks) (q := xs) h)
  have HG := hidP (fun h1 h2 => look_root (ks := ks) h1 h2)
  have hne : (lookedV ks xs != lookedV ks xs) = false := by simp
  generalize lookedV ks xs = N at *
  clear hkv hxv hsm hat
  go_wp2_with fail
  refine HI.out.mono ?_
  rintro e w2 ⟨rfl, L2⟩
  have HS2 := hidP (HS.out w2 L2)
  have HL2 := hidP L2
  clear L2
  go_wp2_with fail
  refine HS2.out.mono ?_
  rintro e w3 ⟨rfl, L3⟩
  have HL3 := hidP (chain HL2.out L3)
  clear L3
  by_cases hneg : N < 0
  · go_wp2_with fail
    go_ret
    exact ⟨rfl, chain L1 HL3.out⟩
  · have HFF := hidP (HF.out (by omega))
    have hub := HFF.out.2.1
    rcases Nat.eq_zero_or_pos ks.length with h0 | h0
    · have hN0 := HFF.out.2.2.2 h0
      subst hN0
      rw [h0]
      have HL1 := hidP L1
      clear HI HS HR HS2 hub h0 L1
      go_wp2_with fail
      go_ret
      exact ⟨rfl, chain HL1.out HL3.out⟩
    · obtain ⟨b, o, ao, ca, rfl, k1, HR3⟩ := HR.out w3 HL3.out h0
      have hl1 := HFF.out.2.2.1 (by omega)
      have HGG := hidP (HG.out HFF.out.1 h0)
      have hr1 := HGG.out.1
      have hr2 := HGG.out.2
      have h0b : ((ks.length : Int) == 0) = false := beq_eq_false_iff_ne.2 (by omega)
      have h0c : (0 : Int) < (ks.length : Int) := by omega
      have HR4 := hidP HR3
      generalize lookedV ks (knth ks 0).1.2 = R at *
      generalize (knth ks 0).1.2.length = A at *
      have hd1 : decide (1 ≤ N) = true := by simp [hl1]
      have hd2 : decide (N ≤ (ks.length : Int)) = true := by simp [hub]
      have hd3 : decide (1 ≤ R) = true := by simp [hr1]
      have hd4 : decide (R ≤ (ks.length : Int)) = true := by simp [hr2]
      have HL1 := hidP L1
      clear HI HS HR HS2 HR3 L1 HF HG HFF HGG
      by_cases hone : 1 < ks.length
      · have ho1 : (1 : Int) < (ks.length : Int) := by omega
        have hd5 : decide ((1 : Int) < (ks.length : Int)) = true := by simp [ho1]
        clear hone
        go_wp2_with fail
        refine HR4.out.mono ?_
        rintro e w4 ⟨rfl, L4⟩
        have HL4 := hidP L4
        clear L4 k1
        go_wp2_with fail
        go_ret
        exact ⟨rfl, chain (chain HL1.out HL3.out) HL4.out⟩
      · have hN1 : N = 1 := by omega
        subst hN1
        have ho1 : ¬ ((1 : Int) < (ks.length : Int)) := by omega
        have hd5 : decide ((1 : Int) < (ks.length : Int)) = false := by simp; omega
        clear hone
        go_wp2_with fail
        refine HR4.out.mono ?_
        rintro e w4 ⟨rfl, L4⟩
        have HL4 := hidP L4
        clear L4 k1
        go_wp2_with fail
        go_ret
        exact ⟨rfl, chain (chain HL1.out HL3.out) HL4.out⟩

set_option maxRecDepth 100000 in
theorem lifted (os : Os) (started : os.Started) (H : Type) (enc : TypeId × Value → H) :
    ReturnsInHanded {} Try.checked os 4 .any (Rows.fnLookedSpec.pre6 enc Try.prog Try.f4 Rows.fnLookedRow.domain false) (Rows.fnLookedSpec.post enc Try.prog Try.f4 false true false false) := by
  refine returnsInHanded_of_change (C := Try.checked) own started (by kernel_rfl) Try.func4
    (ChangeSpec.witness6 (enc := enc) (C := Try.checked) false ⟨#[], #[.slice none 0 0], []⟩ 8 (by kernel_rfl) (by kernel_rfl) (by kernel_rfl) (by kernel_rfl)) ?_
  intro W base args ds gs before hval0 hW hcnd _
  have hval : ∀ (j : Nat) t v, Try.f4.params[j]? = some t → args[j]? = some v → Value.okWide Try.prog W .any base t v := hval0
  have hW' := hW
  obtain ⟨p, q, hA0, hV, rfl, hfz, hnd⟩ := hW
  have hA : DataW.TrodAll enc Try.prog W 0 (fun _ => true) true Try.f4.params.toList args.toList ds p := hA0
  rw [Try.params4] at hA hval
  obtain ⟨v0, vs0, d0, ds0, p0, q0, hargs, rfl, rfl, h0, r0⟩ := trodAll_cons hA
  obtain ⟨rfl, rfl, rfl⟩ := trodAll_nil r0
  obtain rfl : args = #[v0] := by cases args; simp_all
  obtain ⟨rfl, rfl⟩ := trodVars_none hV
  obtain ⟨a0, len0, cap0, rfl⟩ := okWide_slice Try.underlying22 (hval 0 22 v0 rfl rfl)
  have k0 := h0
  have lt0 : ∀ x ∈ p0, x.block < W.heap.size := by obtain ⟨m, hm⟩ := k0; exact DataW.trod_lt m _ _ _ hm
  obtain ⟨hv0, hn0⟩ := (by obtain ⟨fuel, hf⟩ := h0; exact code_view hf : CodeV W a0 len0 ∧ len0 ≤ maxLen)
  clear hA0 hval0
  refine (walk a0 len0 cap0 W hv0 hn0).mono fun e W' ⟨he, bel⟩ => ?_
  subst he
  exact ⟨_, rfl, _, _, _, [], _, [], hW', trodAll_mk1 (shut_bool Try.underlying4 _), (trodAll_cons_mk (Below.trod laidOut (by kernel_rfl) (of_decide_eq_true (by kernel_rfl)) k0 bel lt0) trodAll_mk0), rfl, bel.frame _, fun h => by cases h⟩

theorem over : Rows.fnLookedRow.holds Try.pinned (OpenSpec.ofChange Rows.fnLookedSpec) :=
  OpenClaim.holds_of_wide 4 Try.f4 rfl rfl rfl rfl rfl rfl rfl ⟨rfl, rfl, rfl, rfl, rfl⟩ rfl rfl rfl rfl rfl (by kernel_rfl) Try.func4 (by kernel_rfl)
    (of_decide_eq_true (by kernel_rfl)) (by unfold Func.isWrapper; first | (rw [if_pos (by decide +kernel)]; kernel_rfl) | (rw [if_neg (by decide +kernel)]; exact ⟨rfl, rfl⟩))
    (fun os started H enc _ => lifted os started H enc)

end Go.Proofs.Ytodielfilhodeaa.fnLooked
namespace Go.Proofs.Ytodielfilhodeaa

theorem FnLooked_holds : Rows.FnLookedSaid := fnLooked.over

end Go.Proofs.Ytodielfilhodeaa
