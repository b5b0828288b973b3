/-
  At every two boxes the program's Shared answers as the given one, changes nothing that came in, and owns its answer.
-/
import Derived.Test.YtadcpiljhhfcpaaBArgs
import Derived.Test.YtadcpiljhhfcpaaBKeep2
import Derived.Test.YtadcpiljhhfcpaaBS4
namespace Go.Proofs.Ytadcpiljhhfcpaa.fnExactShared
open Go.ChangeShapes Go.WideShapes Go.ChangeAt Go.RowKit
set_option linter.unusedVariables false

theorem own : ownKnob Try.prog.godebug = none := by kernel_rfl
theorem laidOut : laidOutB Try.prog = true := by kernel_rfl

set_option maxRecDepth 100000 in
set_option maxHeartbeats 4000000 in
theorem walk (al0 ah0 : Option Addr) (cl0 ch0 : Nat) (lo0 hi0 : List Int) (al1 ah1 : Option Addr) (cl1 ch1 : Nat) (lo1 hi1 : List Int) (w : World) (hl0 : View w al0 lo0) (hh0 : View w ah0 hi0) (nl0 : lo0.length ≤ maxLen) (nh0 : hi0.length ≤ maxLen) (hl1 : View w al1 lo1) (hh1 : View w ah1 hi1) (nl1 : lo1.length ≤ maxLen) (nh1 : hi1.length ≤ maxLen) :
    Calls Try.prog 8 #[.agg #[.slice al0 lo0.length cl0, .slice ah0 hi0.length ch0], .agg #[.slice al1 lo1.length cl1, .slice ah1 hi1.length ch1]] w fun e w' => e = .returned (.bool true) ∧ Below w.heap.size w w' := by
  unfold maxLen at nl0 nh0 nl1 nh1
  obtain ⟨W0, hW0⟩ : ∃ W0, W0 = (w.alloc (.cells #[.slice al0 lo0.length cl0, .slice ah0 hi0.length ch0] 24)).alloc (.cells #[.slice al1 lo1.length cl1, .slice ah1 hi1.length ch1] 24) := ⟨_, rfl⟩
  have L0 : Below w.heap.size w W0 := by rw [hW0]; exact below_alloc (alloc_below w _) _
  have tA : Two W0 w.heap.size (.slice al0 lo0.length cl0) (.slice ah0 hi0.length ch0) 24 := by rw [hW0]; exact Two.made0.alloc _
  have tB : Two W0 (w.heap.size + 1) (.slice al1 lo1.length cl1) (.slice ah1 hi1.length ch1) 24 := by rw [hW0]; exact Two.made1
  go_enter Try.func8, Try.ntmps8
  go_wp2_with fail
  rw [← hW0]
  clear hW0
  refine (szX al0 ah0 lo0.length cl0 hi0.length ch0 _ _ (by unfold maxLen; omega) (by unfold maxLen; omega) (by omega) (by omega)).mono ?_
  rintro e w1 ⟨⟨r, rfl, hr⟩, L1⟩
  replace tA := tA.below L1
  replace tB := tB.below L1
  replace L1 := chain L0 L1
  clear L0
  by_cases hneg : r < 0
  · go_wp2_with fail
    go_ret
    exact ⟨rfl, L1⟩
  have hr0 : 0 ≤ r ∧ r + lo0.length + hi0.length = 1048576 := by omega
  have k0 := tB.c0
  have k1 := tB.c1
  have HTT := hidP (And.intro tA tB)
  have HR0 := hidP hr0
  have HZ := hidP (szX al1 ah1 lo1.length cl1 hi1.length ch1 r w1 (by unfold maxLen; omega) (by unfold maxLen; omega) (by omega) (by omega))
  clear hr tA tB hr0
  go_wp2_with fail
  refine HZ.out.mono ?_
  rintro e w2 ⟨⟨r2, rfl, hr2⟩, L2⟩
  have HT2 := hidP (And.intro (HTT.out.1.below L2) (HTT.out.2.below L2))
  replace L2 := chain L1 L2
  clear L1 HTT k0 k1 HZ
  by_cases hneg2 : r2 < 0
  · go_wp2_with fail
    go_ret
    exact ⟨rfl, L2⟩
  have m1 : lo0.length ≤ 1048576 := by have := HR0.out; omega
  have m2 : hi0.length ≤ 1048576 := by have := HR0.out; omega
  have m3 : lo1.length ≤ 1048576 := by have := HR0.out; omega
  have m4 : hi1.length ≤ 1048576 := by have := HR0.out; omega
  have HSZ : Hid (lo0.length + hi0.length + lo1.length + hi1.length ≤ 1048576) := by show _ ≤ _; have := HR0.out; omega
  clear hr2 HR0
  obtain ⟨rl, hrl⟩ : ∃ rl, rl = (sharedV (lo0, hi0) (lo1, hi1)).1 := ⟨_, rfl⟩
  obtain ⟨rh, hrh⟩ : ∃ rh, rh = (sharedV (lo0, hi0) (lo1, hi1)).2 := ⟨_, rfl⟩
  obtain ⟨sb, hsb⟩ : ∃ sb, sb = shOkB (lo0, hi0) (lo1, hi1) := ⟨_, rfl⟩
  have nrl : rl.length ≤ 4 := by rw [hrl]; exact (shared_short _ _).1
  have nrh : rh.length ≤ 4 := by rw [hrh]; exact (shared_short _ _).2
  have HRL := hidP hrl
  have HRH := hidP hrh
  have HSB := hidP hsb
  have HL2 := hidP L2
  clear hrl hrh hsb L2
  have SK : Hid (∀ X : World, Below w2.heap.size w2 X → (X.cell? ⟨w.heap.size, 0, none⟩ = some (.slice al0 lo0.length cl0) ∧ X.cell? ⟨w.heap.size, 1, none⟩ = some (.slice ah0 hi0.length ch0)) ∧ (X.cell? ⟨w.heap.size + 1, 0, none⟩ = some (.slice al1 lo1.length cl1) ∧ X.cell? ⟨w.heap.size + 1, 1, none⟩ = some (.slice ah1 hi1.length ch1))) := fun X hX => ⟨⟨((HT2.out.1).below hX).c0, ((HT2.out.1).below hX).c1⟩, ⟨((HT2.out.2).below hX).c0, ((HT2.out.2).below hX).c1⟩⟩
  have HTA : Hid (∀ X : World, Below w2.heap.size w2 X → Calls Try.prog 11 #[.agg #[.slice al0 lo0.length cl0, .slice ah0 hi0.length ch0]] X fun e w' => ∃ b1 b2, e = .returned (.agg #[.slice (some ⟨b1, 0, none⟩) lo0.length lo0.length, .slice (some ⟨b2, 0, none⟩) hi0.length hi0.length]) ∧ Own w' b1 lo0 ∧ Own w' b2 hi0 ∧ X.heap.size ≤ b1 ∧ b1 < b2 ∧ Below X.heap.size X w') := fun X hX => toX al0 ah0 cl0 ch0 lo0 hi0 X (hl0.next (chain (HL2.out) hX)) (hh0.next (chain (HL2.out) hX)) m1 m2
  have HTB : Hid (∀ X : World, Below w2.heap.size w2 X → Calls Try.prog 11 #[.agg #[.slice al1 lo1.length cl1, .slice ah1 hi1.length ch1]] X fun e w' => ∃ b1 b2, e = .returned (.agg #[.slice (some ⟨b1, 0, none⟩) lo1.length lo1.length, .slice (some ⟨b2, 0, none⟩) hi1.length hi1.length]) ∧ Own w' b1 lo1 ∧ Own w' b2 hi1 ∧ X.heap.size ≤ b1 ∧ b1 < b2 ∧ Below X.heap.size X w') := fun X hX => toX al1 ah1 cl1 ch1 lo1 hi1 X (hl1.next (chain (HL2.out) hX)) (hh1.next (chain (HL2.out) hX)) m3 m4
  have HSH : Hid (∀ (X : World) (p1 p2 p3 p4 : Nat), Own X p1 lo0 → Own X p2 hi0 → Own X p3 lo1 → Own X p4 hi1 → Calls Try.prog 30 #[.agg #[.slice (some ⟨p1, 0, none⟩) lo0.length lo0.length, .slice (some ⟨p2, 0, none⟩) hi0.length hi0.length], .agg #[.slice (some ⟨p3, 0, none⟩) lo1.length lo1.length, .slice (some ⟨p4, 0, none⟩) hi1.length hi1.length]] X fun e w' => ∃ x1 e1 x2 e2, e = .returned (.tuple #[.agg #[.slice x1 rl.length e1, .slice x2 rh.length e2], .bool sb]) ∧ IOut X.heap.size w' (.slice x1 rl.length e1) rl ∧ IOut X.heap.size w' (.slice x2 rh.length e2) rh ∧ Below X.heap.size X w') := fun X p1 p2 p3 p4 i1 i2 i3 i4 => by
    have h := sShared (some ⟨p1, 0, none⟩) (some ⟨p2, 0, none⟩) (some ⟨p3, 0, none⟩) (some ⟨p4, 0, none⟩) lo0.length hi0.length lo1.length hi1.length lo0 hi0 lo1 hi1 X i1.view i2.view i3.view i4.view m1 m2 m3 m4
    rw [← HRL.out, ← HRH.out, ← HSB.out] at h
    exact h
  go_upto_region 8 with fail
  go_cut [6, 7] from 27 to 34 (fun d b wx => SawBox w2 wx sb rl rh d b)
  case first =>
    go_region_held3 (fun w' => (w'.cell? ⟨w.heap.size, 0, none⟩ = some (.slice al0 lo0.length cl0) ∧ w'.cell? ⟨w.heap.size, 1, none⟩ = some (.slice ah0 hi0.length ch0)) ∧ (w'.cell? ⟨w.heap.size + 1, 0, none⟩ = some (.slice al1 lo1.length cl1) ∧ w'.cell? ⟨w.heap.size + 1, 1, none⟩ = some (.slice ah1 hi1.length ch1)))
      (first
        | (refine SK.out _ ?_; (repeat' (first | (with_reducible exact Below.refl _ _) | (with_reducible refine Below.drew ?_) | (with_reducible refine below_alloc ?_ _) | (with_reducible refine chain ?_ L6) | (with_reducible refine chain ?_ L5) | (with_reducible refine chain ?_ L4) | (with_reducible refine set_below ?_ ?_ _) | omega)))
        | go_keep)
      (first
        | (go_at_call_of 11 (Value.slice al0 lo0.length cl0); refine (HTA.out _ (by (repeat' (first | (with_reducible exact Below.refl _ _) | (with_reducible refine Below.drew ?_) | (with_reducible refine below_alloc ?_ _))) <;> fail)).mono ?_; rintro e wax ⟨p1, p2, rfl, o1, o2, hp1, hp2, L4⟩; refine with_fact (p := Below w2.heap.size w2 wax) ?_ (fun hb4 => ?_); (focus ((repeat' (first | (with_reducible exact Below.refl _ _) | (with_reducible refine Below.drew ?_) | (with_reducible refine below_alloc ?_ _) | (with_reducible refine chain ?_ L4))) <;> fail)); have hz4 := hb4.size)
        | (go_at_call_of 11 (Value.slice al1 lo1.length cl1); refine (HTB.out _ (by (repeat' (first | (with_reducible exact Below.refl _ _) | (with_reducible refine Below.drew ?_) | (with_reducible refine below_alloc ?_ _) | (with_reducible refine chain ?_ L4))) <;> fail)).mono ?_; rintro e wbx ⟨p3, p4, rfl, o3, o4, hp3, hp4, L5⟩; refine with_fact (p := Below wax.heap.size wax wbx) ?_ (fun hb5 => ?_); (focus ((repeat' (first | (with_reducible exact Below.refl _ _) | (with_reducible refine Below.drew ?_) | (with_reducible refine below_alloc ?_ _) | (with_reducible refine chain ?_ L5))) <;> fail)); have hz5 := hb5.size)
        | (go_at_call 30; refine (HSH.out _ p1 p2 p3 p4 (by ((repeat' (first | (with_reducible exact o1) | (with_reducible refine Own.drew ?_) | (with_reducible refine Own.alloc ?_ _) | (with_reducible refine Own.next ?_ L5) | (with_reducible refine Own.next ?_ L4))) <;> fail)) (by ((repeat' (first | (with_reducible exact o2) | (with_reducible refine Own.drew ?_) | (with_reducible refine Own.alloc ?_ _) | (with_reducible refine Own.next ?_ L5) | (with_reducible refine Own.next ?_ L4))) <;> fail)) (by ((repeat' (first | (with_reducible exact o3) | (with_reducible refine Own.drew ?_) | (with_reducible refine Own.alloc ?_ _) | (with_reducible refine Own.next ?_ L5))) <;> fail)) (by ((repeat' (first | (with_reducible exact o4) | (with_reducible refine Own.drew ?_) | (with_reducible refine Own.alloc ?_ _) | (with_reducible refine Own.next ?_ L5))) <;> fail))).mono ?_; rintro e wcx ⟨x1, e1, x2, e2, rfl, v1, v2, L6⟩; refine with_fact (p := Below wbx.heap.size wbx wcx) ?_ (fun hb6 => ?_); (focus ((repeat' (first | (with_reducible exact Below.refl _ _) | (with_reducible refine Below.drew ?_) | (with_reducible refine below_alloc ?_ _) | (with_reducible refine chain ?_ L6))) <;> fail)); have hz6 := hb6.size; (try (refine with_fact (p := Two wcx (w2.heap.size) (.slice none 0 0) (.slice none 0 0) 27) ?_ (fun hD => ?_); (focus ((repeat' (first | (with_reducible refine Two.drew ?_) | (with_reducible exact Two.made0) | (with_reducible exact Two.made1) | (with_reducible refine Two.alloc ?_ _) | (with_reducible refine Two.below ?_ L6) | (with_reducible refine Two.below ?_ L5) | (with_reducible refine Two.below ?_ L4))) <;> fail)); have hDc0 := hD.c0; have hDc1 := hD.c1; have hDf0 := hD.frozen 0; have hDf1 := hD.frozen 1)); (try (refine with_fact (p := Two wcx (wax.heap.size) (.slice none 0 0) (.slice none 0 0) 27) ?_ (fun hD => ?_); (focus ((repeat' (first | (with_reducible refine Two.drew ?_) | (with_reducible exact Two.made0) | (with_reducible exact Two.made1) | (with_reducible refine Two.alloc ?_ _) | (with_reducible refine Two.below ?_ L6) | (with_reducible refine Two.below ?_ L5) | (with_reducible refine Two.below ?_ L4))) <;> fail)); have hDc0 := hD.c0; have hDc1 := hD.c1; have hDf0 := hD.frozen 0; have hDf1 := hD.frozen 1)); (try (refine with_fact (p := Two wcx (wbx.heap.size) (.slice none 0 0) (.slice none 0 0) 27) ?_ (fun hD => ?_); (focus ((repeat' (first | (with_reducible refine Two.drew ?_) | (with_reducible exact Two.made0) | (with_reducible exact Two.made1) | (with_reducible refine Two.alloc ?_ _) | (with_reducible refine Two.below ?_ L6) | (with_reducible refine Two.below ?_ L5) | (with_reducible refine Two.below ?_ L4))) <;> fail)); have hDc0 := hD.c0; have hDc1 := hD.c1; have hDf0 := hD.frozen 0; have hDf1 := hD.frozen 1))))
    all_goals
      go_wp2_with fail
      go_meet
      first
        | exact saw_alloc v1 v2 (chain (chain hb4 hb5) hb6)
        | exact saw_set hD v1 v2 (Two.lt (u := .slice none 0 0) (v := .slice none 0 0) (t := 27) (by (repeat' (first | (with_reducible refine Two.drew ?_) | (with_reducible exact Two.made0) | (with_reducible exact Two.made1) | (with_reducible refine Two.alloc ?_ _) | (with_reducible refine Two.below ?_ L5) | (with_reducible refine Two.below ?_ L4))) <;> fail)) (by omega) (chain (chain hb4 hb5) hb6)
  case rest =>
    obtain ⟨D, x1, e1, x2, e2, rfl, rfl, tF, vF1, vF2, LF⟩ := hcut
    have HK : Hid (ShK wc w.heap.size (w.heap.size + 1) (.slice al0 lo0.length cl0) (.slice ah0 hi0.length ch0) (.slice al1 lo1.length cl1) (.slice ah1 hi1.length ch1) D x1 x2 e1 e2 rl rh wc.heap.size) := ⟨HT2.out.1.below LF, HT2.out.2.below LF, tF, vF1.ev (Nat.le_refl _), vF2.ev (Nat.le_refl _)⟩
    have HL := hidP (chain HL2.out LF)
    have nA : w.heap.size < wc.heap.size := HK.out.1.lt
    have nB : w.heap.size + 1 < wc.heap.size := HK.out.2.1.lt
    have nD : D < wc.heap.size := HK.out.2.2.1.lt
    clear tF vF1 vF2 LF HT2 HL2 SK HTA HTB HSH
    have u0 := HK.out.1.c0
    have u1 := HK.out.1.c1
    go_wp2_with fail
    refine (toX al0 ah0 cl0 ch0 lo0 hi0 _ (hl0.next HL.out) (hh0.next HL.out) m1 m2).mono ?_
    rintro e w3 ⟨p1, p2, rfl, o1, o2, hp1, hp2, L3⟩
    clear u0 u1
    obtain ⟨W3, hW3⟩ : ∃ W3, W3 = w3.alloc (.cells #[.slice (some ⟨p1, 0, none⟩) lo0.length lo0.length, .slice (some ⟨p2, 0, none⟩) hi0.length hi0.length] 27) := ⟨_, rfl⟩
    have hA3 : Below w3.heap.size w3 W3 := by rw [hW3]; exact alloc_below w3 _
    have HX0 : Hid (ShX W3 w3.heap.size p1 p2 lo0 hi0) := ⟨by rw [hW3]; exact Two.made0, o1.next hA3, o2.next hA3⟩
    have hq2 : p2 < w3.heap.size := o2.lt
    have HK' := hidP (HK.out.below (chain L3 hA3))
    have HL' := hidP (chain HL.out (chain L3 hA3))
    clear HK HL
    have HK := HK'
    have HL := HL'
    clear HK' HL'
    have u0 := HK.out.2.1.c0
    have u1 := HK.out.2.1.c1
    have HT := hidP (toX al1 ah1 cl1 ch1 lo1 hi1 W3 (hl1.next HL.out) (hh1.next HL.out) m3 m4)
    rw [hW3] at u0 u1
    clear o1 o2 L3 hA3
    go_wp2_with fail
    rw [← hW3] at *
    clear hW3
    refine HT.out.mono ?_
    rintro e w4 ⟨p3, p4, rfl, o3, o4, hp3, hp4, L4⟩
    clear u0 u1 HT
    have hT8 : w3.heap.size < W3.heap.size := HX0.out.1.lt
    obtain ⟨W4, hW4⟩ : ∃ W4, W4 = w4.alloc (.cells #[.slice (some ⟨p3, 0, none⟩) lo1.length lo1.length, .slice (some ⟨p4, 0, none⟩) hi1.length hi1.length] 27) := ⟨_, rfl⟩
    have hA4 : Below w4.heap.size w4 W4 := by rw [hW4]; exact alloc_below w4 _
    have HX1 : Hid (ShX W4 w4.heap.size p3 p4 lo1 hi1) := ⟨by rw [hW4]; exact Two.made0, o3.next hA4, o4.next hA4⟩
    have hq4 : p4 < w4.heap.size := o4.lt
    have hT9 : w4.heap.size < W4.heap.size := HX1.out.1.lt
    have HK' := hidP (HK.out.below (chain L4 hA4))
    have HX0' := hidP (HX0.out.below (chain L4 hA4))
    have HL' := hidP (chain HL.out (chain L4 hA4))
    clear HK HX0 HL
    have HK := HK'
    have HX0 := HX0'
    have HL := HL'
    clear HK' HX0' HL'
    have HSH : Hid (∃ y, y = 0) := ⟨0, rfl⟩
    have hSh := iShared (some ⟨p1, 0, none⟩) (some ⟨p2, 0, none⟩) (some ⟨p3, 0, none⟩) (some ⟨p4, 0, none⟩) lo0.length hi0.length lo1.length hi1.length lo0 hi0 lo1 hi1 W4 HX0.out.2.1.view HX0.out.2.2.view HX1.out.2.1.view HX1.out.2.2.view m1 m2 m3 m4
    rw [← HRL.out, ← HRH.out, ← HSB.out] at hSh
    have HC := hidP hSh
    have u0 := HX0.out.1.c0
    have u1 := HX0.out.1.c1
    have u2 := HX1.out.1.c0
    have u3 := HX1.out.1.c1
    rw [hW4] at u0 u1 u2 u3
    clear o3 o4 L4 hA4 hSh HSH
    go_wp2_with fail
    rw [← hW4] at *
    clear hW4
    refine HC.out.mono ?_
    rintro e w5 ⟨y1, f1, y2, f2, rfl, g1, g2, ap, L5⟩
    clear u0 u1 u2 u3 HC
    have bl1 := g1.block
    have bl2 := g2.block
    obtain ⟨W5, hW5⟩ : ∃ W5, W5 = w5.alloc (.cells #[.slice y1 rl.length f1, .slice y2 rh.length f2] 27) := ⟨_, rfl⟩
    have hA5 : Below w5.heap.size w5 W5 := by rw [hW5]; exact alloc_below w5 _
    have HG : Hid (ShG W5 w5.heap.size y1 y2 f1 f2 rl rh W4.heap.size) := ⟨by rw [hW5]; exact Two.made0, g1.below hA5, g2.below hA5⟩
    have h45 := L5.size
    have HBL := hidP (And.intro bl1 (And.intro bl2 ap))
    have HK' := hidP (HK.out.below (chain L5 hA5))
    have HX0' := hidP (HX0.out.below (chain L5 hA5))
    have HX1' := hidP (HX1.out.below (chain L5 hA5))
    have HL' := hidP (chain HL.out (chain L5 hA5))
    clear HK HX0 HX1 HL
    have HK := HK'
    have HX0 := HX0'
    have HX1 := HX1'
    have HL := HL'
    clear HK' HX0' HX1' HL'
    have u0 := HG.out.1.c0
    have u1 := HG.out.1.c1
    have u2 := HK.out.2.2.1.c0
    have u3 := HK.out.2.2.1.c1
    have HQ := hidP (eqX y1 y2 x1 x2 f1 f2 e1 e2 rl rh rl rh W5 HG.out.2.1.slice HG.out.2.2.slice HK.out.2.2.2.1.view HK.out.2.2.2.2.view (by omega) (by omega))
    have ht : (decide (rl = rl) && decide (rh = rh)) = true := by simp
    have hsbb : (sb != sb) = false := by simp
    rw [hW5] at u0 u1 u2 u3
    clear g1 g2 ap bl1 bl2 hA5 L5
    go_wp2_with fail
    rw [← hW5] at *
    clear hW5
    refine HQ.out.mono ?_
    rintro e w6 ⟨rfl, L6⟩
    clear u0 u1 u2 u3 HQ
    have HK' := hidP (HK.out.below L6)
    have HX0' := hidP (HX0.out.below L6)
    have HX1' := hidP (HX1.out.below L6)
    have HG' := hidP (HG.out.below L6)
    have HL' := hidP (chain HL.out L6)
    clear HK HX0 HX1 HG HL
    have HK := HK'
    have HX0 := HX0'
    have HX1 := HX1'
    have HG := HG'
    have HL := HL'
    clear HK' HX0' HX1' HG' HL'
    clear L6
    have u0 := HK.out.1.c0
    have u1 := HK.out.1.c1
    have u2 := HX0.out.1.c0
    have u3 := HX0.out.1.c1
    have hz0 := HK.out.1.lt
    have hz1 := HX0.out.1.lt
    have HT := hidP (toX al0 ah0 cl0 ch0 lo0 hi0 w6.drew (hl0.next HL.out).drew (hh0.next HL.out).drew m1 m2)
    have HE : Hid (∀ (W : World) (b5 b6 : Nat), Below w6.drew.heap.size w6.drew W → Own W b5 lo0 → Own W b6 hi0 → Calls Try.prog 13 #[.agg #[.slice (some ⟨p1, 0, none⟩) lo0.length lo0.length, .slice (some ⟨p2, 0, none⟩) hi0.length hi0.length], .agg #[.slice (some ⟨b5, 0, none⟩) lo0.length lo0.length, .slice (some ⟨b6, 0, none⟩) hi0.length hi0.length]] W fun e w' => e = .returned (.bool true) ∧ Below W.heap.size W w') := fun W b5 b6 hb i5 i6 => by
      have a3 := HX0.out.2.1.next (below_drew' hb)
      have a4 := HX0.out.2.2.next (below_drew' hb)
      have h := eqX _ _ _ _ lo0.length hi0.length lo0.length hi0.length lo0 hi0 lo0 hi0 W a3.view a4.view i5.view i6.view m1 m2
      simpa using h
    go_wp2_with fail
    go_region_held3 (fun w' => (w'.cell? ⟨w.heap.size, 0, none⟩ = some (.slice al0 lo0.length cl0) ∧ w'.cell? ⟨w.heap.size, 1, none⟩ = some (.slice ah0 hi0.length ch0)) ∧ (w'.cell? ⟨w3.heap.size, 0, none⟩ = some (.slice (some ⟨p1, 0, none⟩) lo0.length lo0.length) ∧ w'.cell? ⟨w3.heap.size, 1, none⟩ = some (.slice (some ⟨p2, 0, none⟩) hi0.length hi0.length)))
      (first
        | go_keep
        | (refine ⟨⟨(L6.cell (p := ⟨w.heap.size, 0, none⟩) hz0).trans u0, (L6.cell (p := ⟨w.heap.size, 1, none⟩) hz0).trans u1⟩, ⟨(L6.cell (p := ⟨w3.heap.size, 0, none⟩) hz1).trans u2, (L6.cell (p := ⟨w3.heap.size, 1, none⟩) hz1).trans u3⟩⟩)
        | (refine ⟨⟨((chain L6 L7).cell (p := ⟨w.heap.size, 0, none⟩) hz0).trans u0, ((chain L6 L7).cell (p := ⟨w.heap.size, 1, none⟩) hz0).trans u1⟩, ⟨((chain L6 L7).cell (p := ⟨w3.heap.size, 0, none⟩) hz1).trans u2, ((chain L6 L7).cell (p := ⟨w3.heap.size, 1, none⟩) hz1).trans u3⟩⟩))
      (first
        | (go_at_call 11; refine HT.out.mono ?_; rintro e wpa ⟨b5, b6, rfl, o5, o6, _, _, L6⟩)
        | (go_at_call 13; refine (HE.out wpa b5 b6 L6 o5 o6).mono ?_; rintro e wqa ⟨rfl, L7⟩))
    have hc' := below_drew' (chain L6 L7)
    have HK' := hidP (HK.out.below hc')
    have HX0' := hidP (HX0.out.below hc')
    have HX1' := hidP (HX1.out.below hc')
    have HG' := hidP (HG.out.below hc')
    have HL' := hidP (chain HL.out hc')
    clear L6 L7 o5 o6 hc' HK HX0 HX1 HG HL u0 u1 u2 u3 hz0 hz1 HT HE
    have HK := HK'
    have HX0 := HX0'
    have HX1 := HX1'
    have HG := HG'
    have HL := HL'
    clear HK' HX0' HX1' HG' HL'
    have u0 := HK.out.2.1.c0
    have u1 := HK.out.2.1.c1
    have u2 := HX1.out.1.c0
    have u3 := HX1.out.1.c1
    have hz0 := HK.out.2.1.lt
    have hz1 := HX1.out.1.lt
    have HT := hidP (toX al1 ah1 cl1 ch1 lo1 hi1 wqa.drew (hl1.next HL.out).drew (hh1.next HL.out).drew m3 m4)
    have HE : Hid (∀ (W : World) (b5 b6 : Nat), Below wqa.drew.heap.size wqa.drew W → Own W b5 lo1 → Own W b6 hi1 → Calls Try.prog 13 #[.agg #[.slice (some ⟨p3, 0, none⟩) lo1.length lo1.length, .slice (some ⟨p4, 0, none⟩) hi1.length hi1.length], .agg #[.slice (some ⟨b5, 0, none⟩) lo1.length lo1.length, .slice (some ⟨b6, 0, none⟩) hi1.length hi1.length]] W fun e w' => e = .returned (.bool true) ∧ Below W.heap.size W w') := fun W b5 b6 hb i5 i6 => by
      have a3 := HX1.out.2.1.next (below_drew' hb)
      have a4 := HX1.out.2.2.next (below_drew' hb)
      have h := eqX _ _ _ _ lo1.length hi1.length lo1.length hi1.length lo1 hi1 lo1 hi1 W a3.view a4.view i5.view i6.view m3 m4
      simpa using h
    go_wp2_with fail
    go_region_held3 (fun w' => (w'.cell? ⟨w.heap.size + 1, 0, none⟩ = some (.slice al1 lo1.length cl1) ∧ w'.cell? ⟨w.heap.size + 1, 1, none⟩ = some (.slice ah1 hi1.length ch1)) ∧ (w'.cell? ⟨w4.heap.size, 0, none⟩ = some (.slice (some ⟨p3, 0, none⟩) lo1.length lo1.length) ∧ w'.cell? ⟨w4.heap.size, 1, none⟩ = some (.slice (some ⟨p4, 0, none⟩) hi1.length hi1.length)))
      (first
        | go_keep
        | (refine ⟨⟨(L6.cell (p := ⟨w.heap.size + 1, 0, none⟩) hz0).trans u0, (L6.cell (p := ⟨w.heap.size + 1, 1, none⟩) hz0).trans u1⟩, ⟨(L6.cell (p := ⟨w4.heap.size, 0, none⟩) hz1).trans u2, (L6.cell (p := ⟨w4.heap.size, 1, none⟩) hz1).trans u3⟩⟩)
        | (refine ⟨⟨((chain L6 L7).cell (p := ⟨w.heap.size + 1, 0, none⟩) hz0).trans u0, ((chain L6 L7).cell (p := ⟨w.heap.size + 1, 1, none⟩) hz0).trans u1⟩, ⟨((chain L6 L7).cell (p := ⟨w4.heap.size, 0, none⟩) hz1).trans u2, ((chain L6 L7).cell (p := ⟨w4.heap.size, 1, none⟩) hz1).trans u3⟩⟩))
      (first
        | (go_at_call 11; refine HT.out.mono ?_; rintro e wpb ⟨b5, b6, rfl, o5, o6, _, _, L6⟩)
        | (go_at_call 13; refine (HE.out wpb b5 b6 L6 o5 o6).mono ?_; rintro e wqb ⟨rfl, L7⟩))
    have hc' := below_drew' (chain L6 L7)
    have HK' := hidP (HK.out.below hc')
    have HX0' := hidP (HX0.out.below hc')
    have HX1' := hidP (HX1.out.below hc')
    have HG' := hidP (HG.out.below hc')
    have HL' := hidP (chain HL.out hc')
    clear L6 L7 o5 o6 hc' HK HX0 HX1 HG HL u0 u1 u2 u3 hz0 hz1 HT HE
    have HK := HK'
    have HX0 := HX0'
    have HX1 := HX1'
    have HG := HG'
    have HL := HL'
    clear HK' HX0' HX1' HG' HL'
    have u0 := HX0.out.1.c0
    have u1 := HX0.out.1.c1
    go_wp2_with fail
    refine (markX wc.heap.size lo0.length hi0.length (some ⟨p1, 0, none⟩) (some ⟨p2, 0, none⟩) 1 lo0 hi0 wqb (HX0.out.2.1.out hp1 (by unfold maxLen; omega)) (HX0.out.2.2.out (by omega) (by unfold maxLen; omega)) (fun a n c b m d i1 i2 => by cases i1; cases i2; show p1 ≠ p2; omega) m1 m2 (by omega) (by omega)).mono ?_
    rintro e w8 ⟨rfl, _, _, ch8⟩
    have HK' := hidP (HK.out.chg ch8 nA nB nD (fun a n c e => by cases e; show wc.heap.size ≤ p1; omega) (fun a n c e => by cases e; show wc.heap.size ≤ p2; omega))
    have HX1' := hidP (HX1.out.chg ch8 (fun a n c e => by cases e; exact ⟨by show p1 ≠ _; omega, by show p1 ≠ _; omega, by show p1 ≠ _; omega⟩) (fun a n c e => by cases e; exact ⟨by show p2 ≠ _; omega, by show p2 ≠ _; omega, by show p2 ≠ _; omega⟩))
    have HG' := hidP (HG.out.chg ch8 (by omega) (fun a n c e => by cases e; show p1 < _; omega) (fun a n c e => by cases e; show p2 < _; omega))
    have HT8' := hidP (HX0.out.1.chg ch8 (fun a n c e => by cases e; show _ ≠ p1; omega) (fun a n c e => by cases e; show _ ≠ p2; omega))
    have HL' := hidP (below_chgW HL.out ch8 (fun a n c e => by cases e; show w.heap.size ≤ p1; omega) (fun a n c e => by cases e; show w.heap.size ≤ p2; omega))
    clear HK HX1 HG HL
    have HK := HK'
    have HX1 := HX1'
    have HG := HG'
    have HT8 := HT8'
    have HL := HL'
    clear HK' HX1' HG' HT8' HL'
    clear u0 u1 ch8 HX0 HT8
    have u0 := HX1.out.1.c0
    have u1 := HX1.out.1.c1
    have hsz := HSZ.out
    go_wp2_with fail
    refine (markX wc.heap.size lo1.length hi1.length (some ⟨p3, 0, none⟩) (some ⟨p4, 0, none⟩) (1 + lo0.length + hi0.length) lo1 hi1 w8 (HX1.out.2.1.out (by omega) (by unfold maxLen; omega)) (HX1.out.2.2.out (by omega) (by unfold maxLen; omega)) (fun a n c b m d i1 i2 => by cases i1; cases i2; show p3 ≠ p4; omega) m3 m4 (by omega) (by omega)).mono ?_
    rintro e w9 ⟨rfl, _, _, ch9⟩
    have HK' := hidP (HK.out.chg ch9 nA nB nD (fun a n c e => by cases e; show wc.heap.size ≤ p3; omega) (fun a n c e => by cases e; show wc.heap.size ≤ p4; omega))
    have HG' := hidP (HG.out.chg ch9 (by omega) (fun a n c e => by cases e; show p3 < _; omega) (fun a n c e => by cases e; show p4 < _; omega))
    have HL' := hidP (below_chgW HL.out ch9 (fun a n c e => by cases e; show w.heap.size ≤ p3; omega) (fun a n c e => by cases e; show w.heap.size ≤ p4; omega))
    clear HK HG HL
    have HK := HK'
    have HG := HG'
    have HL := HL'
    clear HK' HG' HL'
    clear u0 u1 ch9 HX1
    have d0 : ¬ (1 + (lo0.length : Int) + (hi0.length : Int) + (lo1.length : Int) + (hi1.length : Int) < 0) := by omega
    have u0 := HG.out.1.c0
    have u1 := HG.out.1.c1
    have u2 := HK.out.2.2.1.c0
    have u3 := HK.out.2.2.1.c1
    go_wp2_with fail
    refine (eqX y1 y2 x1 x2 f1 f2 e1 e2 rl rh rl rh w9 HG.out.2.1.slice HG.out.2.2.slice HK.out.2.2.2.1.view HK.out.2.2.2.2.view (by omega) (by omega)).mono ?_
    rintro e wd ⟨rfl, Ld⟩
    clear u0 u1 u2 u3
    have HK' := hidP (HK.out.below Ld)
    have HG' := hidP (HG.out.below Ld)
    have HL' := hidP (chain HL.out Ld)
    clear HK HG HL
    have HK := HK'
    have HG := HG'
    have HL := HL'
    clear HK' HG' HL'
    clear Ld
    have u0 := HG.out.1.c0
    have u1 := HG.out.1.c1
    go_wp2_with fail
    refine (markX W4.heap.size f1 f2 y1 y2 1 rl rh wd HG.out.2.1 HG.out.2.2 HBL.out.2.2 (by omega) (by omega) (by omega) (by omega)).mono ?_
    rintro e we ⟨rfl, vg1, vg2, che⟩
    have HV : Hid (Two we w5.heap.size (.slice y1 rl.length f1) (.slice y2 rh.length f2) 27 ∧ View we y1 (tabL (fun i => 1 + (i : Int)) rl.length) ∧ View we y2 (tabL (fun i => 1 + (rl.length : Int) + (i : Int)) rh.length)) :=
      ⟨HG.out.1.chg che (fun a n c e => by have := HBL.out.1 a n c e; omega) (fun a n c e => by have := HBL.out.2.1 a n c e; omega), vg1, vg2⟩
    have HK' := hidP (HK.out.chg che nA nB nD (fun a n c e => by have := HBL.out.1 a n c e; omega) (fun a n c e => by have := HBL.out.2.1 a n c e; omega))
    have HL' := hidP (below_chgW HL.out che (fun a n c e => by have := HBL.out.1 a n c e; omega) (fun a n c e => by have := HBL.out.2.1 a n c e; omega))
    clear HK HL
    have HK := HK'
    have HL := HL'
    clear HK' HL'
    clear u0 u1 che vg1 vg2 HG
    have u0 := HV.out.1.c0
    have u1 := HV.out.1.c1
    have HH := hidP (heldX f1 f2 y1 y2 1 rl.length rh.length we HV.out.2.1 HV.out.2.2 (by omega) (by omega) (by omega) (by omega))
    go_wp2_with fail
    refine HH.out.mono ?_
    rintro e wf ⟨rfl, Lf⟩
    clear u0 u1 HH
    have HV' : Hid (Two wf w5.heap.size (.slice y1 rl.length f1) (.slice y2 rh.length f2) 27 ∧ View wf y1 (tabL (fun i => 1 + (i : Int)) rl.length) ∧ View wf y2 (tabL (fun i => 1 + (rl.length : Int) + (i : Int)) rh.length)) := ⟨HV.out.1.below Lf, HV.out.2.1.next Lf, HV.out.2.2.next Lf⟩
    clear HV
    have HV := HV'
    clear HV'
    have HK' := hidP (HK.out.below Lf)
    have HL' := hidP (chain HL.out Lf)
    clear HK HL
    have HK := HK'
    have HL := HL'
    clear HK' HL'
    clear Lf
    have d1 : ¬ (1 + (rl.length : Int) + (rh.length : Int) < 0) := by omega
    have d2 : ((1 + (rl.length : Int) + (rh.length : Int)) != (1 + (rl.length : Int) + (rh.length : Int))) = false := by simp
    have SK : Hid (∀ X : World, Below wf.heap.size wf X → (X.cell? ⟨w.heap.size, 0, none⟩ = some (.slice al0 lo0.length cl0) ∧ X.cell? ⟨w.heap.size, 1, none⟩ = some (.slice ah0 hi0.length ch0)) ∧ (X.cell? ⟨w.heap.size + 1, 0, none⟩ = some (.slice al1 lo1.length cl1) ∧ X.cell? ⟨w.heap.size + 1, 1, none⟩ = some (.slice ah1 hi1.length ch1))) := fun X hX => ⟨⟨((HK.out.1).below hX).c0, ((HK.out.1).below hX).c1⟩, ⟨((HK.out.2.1).below hX).c0, ((HK.out.2.1).below hX).c1⟩⟩
    have HTA : Hid (∀ X : World, Below wf.heap.size wf X → Calls Try.prog 11 #[.agg #[.slice al0 lo0.length cl0, .slice ah0 hi0.length ch0]] X fun e w' => ∃ b1 b2, e = .returned (.agg #[.slice (some ⟨b1, 0, none⟩) lo0.length lo0.length, .slice (some ⟨b2, 0, none⟩) hi0.length hi0.length]) ∧ Own w' b1 lo0 ∧ Own w' b2 hi0 ∧ X.heap.size ≤ b1 ∧ b1 < b2 ∧ Below X.heap.size X w') := fun X hX => toX al0 ah0 cl0 ch0 lo0 hi0 X (hl0.next (chain (HL.out) hX)) (hh0.next (chain (HL.out) hX)) m1 m2
    have HTB : Hid (∀ X : World, Below wf.heap.size wf X → Calls Try.prog 11 #[.agg #[.slice al1 lo1.length cl1, .slice ah1 hi1.length ch1]] X fun e w' => ∃ b1 b2, e = .returned (.agg #[.slice (some ⟨b1, 0, none⟩) lo1.length lo1.length, .slice (some ⟨b2, 0, none⟩) hi1.length hi1.length]) ∧ Own w' b1 lo1 ∧ Own w' b2 hi1 ∧ X.heap.size ≤ b1 ∧ b1 < b2 ∧ Below X.heap.size X w') := fun X hX => toX al1 ah1 cl1 ch1 lo1 hi1 X (hl1.next (chain (HL.out) hX)) (hh1.next (chain (HL.out) hX)) m3 m4
    have HSH : Hid (∀ (X : World) (p1 p2 p3 p4 : Nat), Own X p1 lo0 → Own X p2 hi0 → Own X p3 lo1 → Own X p4 hi1 → Calls Try.prog 31 #[.agg #[.slice (some ⟨p1, 0, none⟩) lo0.length lo0.length, .slice (some ⟨p2, 0, none⟩) hi0.length hi0.length], .agg #[.slice (some ⟨p3, 0, none⟩) lo1.length lo1.length, .slice (some ⟨p4, 0, none⟩) hi1.length hi1.length]] X fun e w' => ∃ x1 e1 x2 e2, e = .returned (.tuple #[.agg #[.slice x1 rl.length e1, .slice x2 rh.length e2], .bool sb]) ∧ IOut X.heap.size w' (.slice x1 rl.length e1) rl ∧ IOut X.heap.size w' (.slice x2 rh.length e2) rh ∧ Apart (.slice x1 rl.length e1) (.slice x2 rh.length e2) ∧ Below X.heap.size X w') := fun X p1 p2 p3 p4 i1 i2 i3 i4 => by
      have h := iShared (some ⟨p1, 0, none⟩) (some ⟨p2, 0, none⟩) (some ⟨p3, 0, none⟩) (some ⟨p4, 0, none⟩) lo0.length hi0.length lo1.length hi1.length lo0 hi0 lo1 hi1 X i1.view i2.view i3.view i4.view m1 m2 m3 m4
      rw [← HRL.out, ← HRH.out, ← HSB.out] at h
      exact h
    go_upto_region 31 with fail
    go_cut [15, 16] from 94 to 101 (fun d b wx => SawBox wf wx sb rl rh d b)
    case first =>
      go_region_held3 (fun w' => (w'.cell? ⟨w.heap.size, 0, none⟩ = some (.slice al0 lo0.length cl0) ∧ w'.cell? ⟨w.heap.size, 1, none⟩ = some (.slice ah0 hi0.length ch0)) ∧ (w'.cell? ⟨w.heap.size + 1, 0, none⟩ = some (.slice al1 lo1.length cl1) ∧ w'.cell? ⟨w.heap.size + 1, 1, none⟩ = some (.slice ah1 hi1.length ch1)))
        (first
          | (refine SK.out _ ?_; (repeat' (first | (with_reducible exact Below.refl _ _) | (with_reducible refine Below.drew ?_) | (with_reducible refine below_alloc ?_ _) | (with_reducible refine chain ?_ L6) | (with_reducible refine chain ?_ L5) | (with_reducible refine chain ?_ L4) | (with_reducible refine set_below ?_ ?_ _) | omega)))
          | go_keep)
        (first
          | (go_at_call_of 11 (Value.slice al0 lo0.length cl0); refine (HTA.out _ (by (repeat' (first | (with_reducible exact Below.refl _ _) | (with_reducible refine Below.drew ?_) | (with_reducible refine below_alloc ?_ _))) <;> fail)).mono ?_; rintro e way ⟨p1, p2, rfl, o1, o2, hp1, hp2, L4⟩; refine with_fact (p := Below wf.heap.size wf way) ?_ (fun hb4 => ?_); (focus ((repeat' (first | (with_reducible exact Below.refl _ _) | (with_reducible refine Below.drew ?_) | (with_reducible refine below_alloc ?_ _) | (with_reducible refine chain ?_ L4))) <;> fail)); have hz4 := hb4.size)
          | (go_at_call_of 11 (Value.slice al1 lo1.length cl1); refine (HTB.out _ (by (repeat' (first | (with_reducible exact Below.refl _ _) | (with_reducible refine Below.drew ?_) | (with_reducible refine below_alloc ?_ _) | (with_reducible refine chain ?_ L4))) <;> fail)).mono ?_; rintro e wby ⟨p3, p4, rfl, o3, o4, hp3, hp4, L5⟩; refine with_fact (p := Below way.heap.size way wby) ?_ (fun hb5 => ?_); (focus ((repeat' (first | (with_reducible exact Below.refl _ _) | (with_reducible refine Below.drew ?_) | (with_reducible refine below_alloc ?_ _) | (with_reducible refine chain ?_ L5))) <;> fail)); have hz5 := hb5.size)
          | (go_at_call 31; refine (HSH.out _ p1 p2 p3 p4 (by ((repeat' (first | (with_reducible exact o1) | (with_reducible refine Own.drew ?_) | (with_reducible refine Own.alloc ?_ _) | (with_reducible refine Own.next ?_ L5) | (with_reducible refine Own.next ?_ L4))) <;> fail)) (by ((repeat' (first | (with_reducible exact o2) | (with_reducible refine Own.drew ?_) | (with_reducible refine Own.alloc ?_ _) | (with_reducible refine Own.next ?_ L5) | (with_reducible refine Own.next ?_ L4))) <;> fail)) (by ((repeat' (first | (with_reducible exact o3) | (with_reducible refine Own.drew ?_) | (with_reducible refine Own.alloc ?_ _) | (with_reducible refine Own.next ?_ L5))) <;> fail)) (by ((repeat' (first | (with_reducible exact o4) | (with_reducible refine Own.drew ?_) | (with_reducible refine Own.alloc ?_ _) | (with_reducible refine Own.next ?_ L5))) <;> fail))).mono ?_; rintro e wcy ⟨x1, e1, x2, e2, rfl, v1, v2, _, L6⟩; refine with_fact (p := Below wby.heap.size wby wcy) ?_ (fun hb6 => ?_); (focus ((repeat' (first | (with_reducible exact Below.refl _ _) | (with_reducible refine Below.drew ?_) | (with_reducible refine below_alloc ?_ _) | (with_reducible refine chain ?_ L6))) <;> fail)); have hz6 := hb6.size; (try (refine with_fact (p := Two wcy (wf.heap.size) (.slice none 0 0) (.slice none 0 0) 27) ?_ (fun hD => ?_); (focus ((repeat' (first | (with_reducible refine Two.drew ?_) | (with_reducible exact Two.made0) | (with_reducible exact Two.made1) | (with_reducible refine Two.alloc ?_ _) | (with_reducible refine Two.below ?_ L6) | (with_reducible refine Two.below ?_ L5) | (with_reducible refine Two.below ?_ L4))) <;> fail)); have hDc0 := hD.c0; have hDc1 := hD.c1; have hDf0 := hD.frozen 0; have hDf1 := hD.frozen 1)); (try (refine with_fact (p := Two wcy (way.heap.size) (.slice none 0 0) (.slice none 0 0) 27) ?_ (fun hD => ?_); (focus ((repeat' (first | (with_reducible refine Two.drew ?_) | (with_reducible exact Two.made0) | (with_reducible exact Two.made1) | (with_reducible refine Two.alloc ?_ _) | (with_reducible refine Two.below ?_ L6) | (with_reducible refine Two.below ?_ L5) | (with_reducible refine Two.below ?_ L4))) <;> fail)); have hDc0 := hD.c0; have hDc1 := hD.c1; have hDf0 := hD.frozen 0; have hDf1 := hD.frozen 1)); (try (refine with_fact (p := Two wcy (wby.heap.size) (.slice none 0 0) (.slice none 0 0) 27) ?_ (fun hD => ?_); (focus ((repeat' (first | (with_reducible refine Two.drew ?_) | (with_reducible exact Two.made0) | (with_reducible exact Two.made1) | (with_reducible refine Two.alloc ?_ _) | (with_reducible refine Two.below ?_ L6) | (with_reducible refine Two.below ?_ L5) | (with_reducible refine Two.below ?_ L4))) <;> fail)); have hDc0 := hD.c0; have hDc1 := hD.c1; have hDf0 := hD.frozen 0; have hDf1 := hD.frozen 1))))
      all_goals
        go_wp2_with fail
        go_meet
        first
          | exact saw_alloc v1 v2 (chain (chain hb4 hb5) hb6)
          | exact saw_set hD v1 v2 (Two.lt (u := .slice none 0 0) (v := .slice none 0 0) (t := 27) (by (repeat' (first | (with_reducible refine Two.drew ?_) | (with_reducible exact Two.made0) | (with_reducible exact Two.made1) | (with_reducible refine Two.alloc ?_ _) | (with_reducible refine Two.below ?_ L5) | (with_reducible refine Two.below ?_ L4))) <;> fail)) (by omega) (chain (chain hb4 hb5) hb6)
    case rest =>
    obtain ⟨D2, x3, e3, x4, e4, rfl, rfl, tF, vF1, vF2, LF⟩ := hcut
    have HV' := hidP (And.intro (HV.out.1.below LF) (And.intro (HV.out.2.1.next LF) (HV.out.2.2.next LF)))
    have HK' := hidP (HK.out.below LF)
    have HL' := hidP (chain HL.out LF)
    have u0 := tF.c0
    have u1 := tF.c1
    have u2 := HK'.out.2.2.1.c0
    have u3 := HK'.out.2.2.1.c1
    have HQ := hidP (eqX x3 x4 x1 x2 e3 e4 e1 e2 rl rh rl rh wc vF1 vF2 HK'.out.2.2.2.1.view HK'.out.2.2.2.2.view (by omega) (by omega))
    clear tF vF1 vF2 LF HV HK HL SK HTA HTB HSH
    go_wp2_with fail
    refine HQ.out.mono ?_
    rintro e wh ⟨rfl, Lh⟩
    clear u0 u1 u2 u3 HQ
    have u0 := (HV'.out.1.below Lh).c0
    have u1 := (HV'.out.1.below Lh).c1
    have HH := hidP (heldX f1 f2 y1 y2 1 rl.length rh.length wh (HV'.out.2.1.next Lh) (HV'.out.2.2.next Lh) (by omega) (by omega) (by omega) (by omega))
    have HLh := hidP (chain HL'.out Lh)
    clear Lh HV' HL' HK'
    go_wp2_with fail
    refine HH.out.mono ?_
    rintro e wi ⟨rfl, Li⟩
    have HLi := hidP (chain HLh.out Li)
    clear Li u0 u1 HH HLh
    go_wp2_with fail
    go_ret
    exact ⟨rfl, HLi.out⟩

set_option maxRecDepth 100000 in
theorem lifted (os : Os) (started : os.Started) (H : Type) (enc : TypeId × Value → H) :
    ReturnsInHanded {} Try.checked os 8 .any (Rows.fnExactSharedSpec.pre6 enc Try.prog Try.f8 Rows.fnExactSharedRow.domain false) (Rows.fnExactSharedSpec.post enc Try.prog Try.f8 false true false false) := by
  refine returnsInHanded_of_change (C := Try.checked) own started (by kernel_rfl) Try.func8
    (ChangeSpec.witness6 (enc := enc) (C := Try.checked) false ⟨#[], #[.agg #[.slice none 0 0, .slice none 0 0], .agg #[.slice none 0 0, .slice none 0 0]], []⟩ 8 (by kernel_rfl) (by kernel_rfl) (by kernel_rfl) (by kernel_rfl)) ?_
  intro W base args ds gs before hval0 hW hcnd _
  have hval : ∀ (j : Nat) t v, Try.f8.params[j]? = some t → args[j]? = some v → Value.okWide Try.prog W .any base t v := hval0
  have hW' := hW
  obtain ⟨p, q, hA0, hV, rfl, hfz, hnd⟩ := hW
  have hA : DataW.TrodAll enc Try.prog W 0 (fun _ => true) true Try.f8.params.toList args.toList ds p := hA0
  rw [Try.params8] at hA hval
  obtain ⟨v0, vs0, d0, ds0, p0, q0, hargs, rfl, rfl, h0, r0⟩ := trodAll_cons hA
  obtain ⟨v1, vs1, d1, ds1, p1, q1, rfl, rfl, rfl, h1, r1⟩ := trodAll_cons r0
  obtain ⟨rfl, rfl, rfl⟩ := trodAll_nil r1
  obtain rfl : args = #[v0, v1] := by cases args; simp_all
  obtain ⟨rfl, rfl⟩ := trodVars_none hV
  obtain ⟨cs0, rfl, sz0⟩ := okWide_two (hval 0 24 v0 rfl rfl)
  have k0 := h0
  have lt0 : ∀ x ∈ p0, x.block < W.heap.size := by obtain ⟨m, hm⟩ := k0; exact DataW.trod_lt m _ _ _ hm
  obtain ⟨lo0, hi0, al0, cl0, ah0, ch0, rfl, hl0, hh0, nl0, nh0⟩ := (by obtain ⟨fuel, hf⟩ := h0; exact box_view sz0 hf : ∃ (lo hi : List Int) (a1 : Option Addr) (c1 : Nat) (a2 : Option Addr) (c2 : Nat), cs0 = #[.slice a1 lo.length c1, .slice a2 hi.length c2] ∧ View W a1 lo ∧ View W a2 hi ∧ lo.length ≤ maxLen ∧ hi.length ≤ maxLen)
  obtain ⟨cs1, rfl, sz1⟩ := okWide_two (hval 1 24 v1 rfl rfl)
  have k1 := h1
  have lt1 : ∀ x ∈ p1, x.block < W.heap.size := by obtain ⟨m, hm⟩ := k1; exact DataW.trod_lt m _ _ _ hm
  obtain ⟨lo1, hi1, al1, cl1, ah1, ch1, rfl, hl1, hh1, nl1, nh1⟩ := (by obtain ⟨fuel, hf⟩ := h1; exact box_view sz1 hf : ∃ (lo hi : List Int) (a1 : Option Addr) (c1 : Nat) (a2 : Option Addr) (c2 : Nat), cs1 = #[.slice a1 lo.length c1, .slice a2 hi.length c2] ∧ View W a1 lo ∧ View W a2 hi ∧ lo.length ≤ maxLen ∧ hi.length ≤ maxLen)
  clear hA0 hval0
  refine (walk al0 ah0 cl0 ch0 lo0 hi0 al1 ah1 cl1 ch1 lo1 hi1 W hl0 hh0 nl0 nh0 hl1 hh1 nl1 nh1).mono fun e W' ⟨he, bel⟩ => ?_
  subst he
  exact ⟨_, rfl, _, _, _, [], _, [], hW', trodAll_mk1 (shut_bool Try.underlying4 _), (trodAll_cons_mk (Below.trod laidOut (by kernel_rfl) (of_decide_eq_true (by kernel_rfl)) k0 bel lt0) (trodAll_cons_mk (Below.trod laidOut (by kernel_rfl) (of_decide_eq_true (by kernel_rfl)) k1 bel lt1) trodAll_mk0)), rfl, bel.frame _, fun h => by cases h⟩

theorem over : Rows.fnExactSharedRow.holds Try.pinned (OpenSpec.ofChange Rows.fnExactSharedSpec) :=
  OpenClaim.holds_of_wide 8 Try.f8 rfl rfl rfl rfl rfl rfl rfl ⟨rfl, rfl, rfl, rfl, rfl⟩ rfl rfl rfl rfl rfl (by kernel_rfl) Try.func8 (by kernel_rfl)
    (of_decide_eq_true (by kernel_rfl)) (by unfold Func.isWrapper; first | (rw [if_pos (by decide +kernel)]; kernel_rfl) | (rw [if_neg (by decide +kernel)]; exact ⟨rfl, rfl⟩))
    (fun os started H enc _ => lifted os started H enc)

end Go.Proofs.Ytadcpiljhhfcpaa.fnExactShared
namespace Go.Proofs.Ytadcpiljhhfcpaa

theorem FnExactShared_holds : Rows.FnExactSharedSaid := fnExactShared.over

end Go.Proofs.Ytadcpiljhhfcpaa
