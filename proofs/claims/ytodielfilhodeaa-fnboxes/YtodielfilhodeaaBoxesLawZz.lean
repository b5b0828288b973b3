/-
  FnBoxes holds: for every list of bytes the law of boxes answers true and leaves its argument alone; no condition.
-/
import Derived.Test.YtodielfilhodeaaPrBZz
import Derived.Test.YtodielfilhodeaaBytesZz
import Derived.Test.YtodielfilhodeaaMDraw2Zz
import Derived.Deep.CutBlock
import Derived.Deep.DeepCutAuto
namespace Go.Proofs.Ytodielfilhodeaa.fnBoxes
open Go.ChangeShapes Go.WideShapes Go.ChangeAt Go.RowKit
set_option linter.unusedVariables false

theorem own : ownKnob Try.prog.godebug = none := by kernel_rfl
theorem laidOut : laidOutB Try.prog = true := by kernel_rfl

set_option maxRecDepth 100000 in
set_option maxHeartbeats 16000000 in
theorem walk (ao0 : Option Addr) (len0 cap0 : Nat) (w : World) (hv0 : CodeV w ao0 len0) (hn0 : len0 ≤ maxLen) :
    Calls Try.prog 3 #[.slice ao0 len0 cap0] w fun e w' => e = .returned (.bool true) ∧ Below w.heap.size w w' := by
  unfold maxLen at hn0
  obtain ⟨i0, hi0, hz0, hz1, hz2⟩ := info_parts Try.info2
  by_cases hbig : 4096 < len0
  · go_enter Try.func3, Try.ntmps3
    go_wp2_with (go_at_call 8; refine (bigC _ _ _ _).mono ?_; rintro e w' ⟨rfl, rfl⟩)
    go_ret
    exact ⟨rfl, Below.refl _ _⟩
  have hn : len0 ≤ 4096 := by omega
  have hbb : decide (4096 < (len0 : Int)) = false := by simp; omega
  clear hn0 hbig
  have HCV := hidP hv0
  clear hv0
  go_enter Try.func3, Try.ntmps3
  go_wp2_with fail
  refine (bigC _ _ _ _).mono ?_
  rintro e wa ⟨rfl, hu0⟩
  subst hu0
  rw [hbb]
  go_wp2_with fail
  refine (cToBox ao0 len0 cap0 _ HCV.out hn).mono ?_
  rintro e w1 ⟨v1, v2, g, cp, lo, hi, p, base, rfl, o1, o2, o3, l1, l2, l3, _, L1⟩
  obtain ⟨a1, c1, rfl, va1⟩ := o1.view
  obtain ⟨a2, c2, rfl, va2⟩ := o2.view
  have va3 := Row.view o3
  clear o1 o2 o3
  obtain ⟨W1, hW1⟩ : ∃ W1, W1 = w1.alloc (.cells #[.slice a1 lo.length c1, .slice a2 hi.length c2] 26) := ⟨_, rfl⟩
  have hA1 : Below w1.heap.size w1 W1 := by rw [hW1]; exact alloc_below w1 _
  have HP : Hid (PrP W1 w1.heap.size a1 a2 c1 c2 lo hi g p) := ⟨⟨by rw [hW1]; exact Two.made0, va1.next hA1, va2.next hA1⟩, va3.next hA1⟩
  have HL := hidP (chain L1 hA1)
  have HI := hidP (iToBox a1 a2 (some ⟨g, 0, none⟩) c1 c2 cp lo hi p W1 HP.out.1.2.1 HP.out.1.2.2 HP.out.2 (by omega) (by omega) (by omega))
  obtain ⟨t, ht⟩ : ∃ t, t = toBoxV (lo, hi) p := ⟨_, rfl⟩
  obtain ⟨cv, hcv⟩ : ∃ cv, cv = cornerV (lo, hi) p := ⟨_, rfl⟩
  have HT := hidP ht
  have HC := hidP hcv
  rw [← ht] at HI
  have q0 := HP.out.1.1.c0
  have q1 := HP.out.1.1.c1
  rw [hW1] at q0 q1
  clear va1 va2 va3 L1 hA1 ht hcv
  go_wp2_with fail
  rw [← hW1] at *
  clear hW1
  refine HI.out.mono ?_
  rintro e w2 ⟨rfl, L2⟩
  clear q0 q1 HI
  have HP' := hidP (HP.out.below L2)
  have HL' := hidP (chain HL.out L2)
  clear HP HL L2
  have HP := HP'
  have HL := HL'
  clear HP' HL'
  have HI := hidP (iCorner a1 a2 (some ⟨g, 0, none⟩) c1 c2 cp lo hi p w2 HP.out.1.2.1 HP.out.1.2.2 HP.out.2 (by omega) (by omega) (by omega))
  rw [← HC.out] at HI
  have q0 := HP.out.1.1.c0
  have q1 := HP.out.1.1.c1
  go_wp2_with fail
  refine HI.out.mono ?_
  rintro e w3 ⟨rfl, L3⟩
  clear q0 q1 HI
  have HP' := hidP (HP.out.below L3)
  have HL' := hidP (chain HL.out L3)
  clear HP HL L3
  have HP := HP'
  have HL := HL'
  clear HP' HL'
  have HI := hidP (cAround ao0 len0 cap0 w3 (HCV.out.below (Nat.le_refl _) HL.out) hn)
  go_wp2_with fail
  refine HI.out.mono ?_
  rintro e w4 ⟨gm, cm, ms, base', rfl, hm, _, L4⟩
  have HMV := hidP hm.view
  have hml : ms.length ≤ 61 := by have := hm.1; omega
  have HM5 : Hid (∀ i, (mat ms i).length ≤ 5) := hm.2.2.2
  have HSM : Hid (MSmall ms) := ⟨by omega, fun i => by have := HM5.out i; omega⟩
  clear HI hm
  have HP' := hidP (HP.out.below L4)
  have HL' := hidP (chain HL.out L4)
  clear HP HL L4
  have HP := HP'
  have HL := HL'
  clear HP' HL'
  have HI := hidP (iAround (some ⟨gm, 0, none⟩) cm ms w4 HMV.out HSM.out)
  obtain ⟨rl, hrl⟩ : ∃ rl, rl = (aroundV ms).1 := ⟨_, rfl⟩
  obtain ⟨rh, hrh⟩ : ∃ rh, rh = (aroundV ms).2 := ⟨_, rfl⟩
  have nrl : rl.length ≤ 4 := by rw [hrl]; exact (around_short _).1
  have nrh : rh.length ≤ 4 := by rw [hrh]; exact (around_short _).2
  have HRS : Hid (aroundV ms = (rl, rh)) := by show _ = _; rw [hrl, hrh]
  rw [← hrl, ← hrh] at HI
  have HRL := hidP hrl
  have HRH := hidP hrh
  clear hrl hrh
  go_wp2_with fail
  refine HI.out.mono ?_
  rintro e w5 ⟨x1, e1, x2, e2, rfl, y1, y2, _, L5⟩
  clear HI
  obtain ⟨W5, hW5⟩ : ∃ W5, W5 = w5.alloc (.cells #[.slice x1 rl.length e1, .slice x2 rh.length e2] 26) := ⟨_, rfl⟩
  have hA5 : Below w5.heap.size w5 W5 := by rw [hW5]; exact alloc_below w5 _
  have HR : Hid (PrM W5 w5.heap.size x1 x2 e1 e2 rl rh gm ms) := ⟨⟨by rw [hW5]; exact Two.made0, (y1.below hA5).slice, (y2.below hA5).slice⟩, HMV.out.next (chain L5 hA5)⟩
  have HP' := hidP (HP.out.below (chain L5 hA5))
  have HL' := hidP (chain HL.out (chain L5 hA5))
  clear HP HL HMV
  have HP := HP'
  have HL := HL'
  clear HP' HL'
  clear L5 hA5 y1 y2
  have SK : Hid (∀ X, Below W5.heap.size W5 X → (X.cell? ⟨w1.heap.size, 0, none⟩ = some (.slice a1 lo.length c1) ∧ X.cell? ⟨w1.heap.size, 1, none⟩ = some (.slice a2 hi.length c2)) ∧ (X.cell? ⟨w5.heap.size, 0, none⟩ = some (.slice x1 rl.length e1) ∧ X.cell? ⟨w5.heap.size, 1, none⟩ = some (.slice x2 rh.length e2))) := fun X hX =>
    ⟨⟨(HP.out.below hX).1.1.c0, (HP.out.below hX).1.1.c1⟩, (HR.out.below hX).1.1.c0, (HR.out.below hX).1.1.c1⟩
  have HSTB : Hid (∀ X, Below W5.heap.size W5 X → Calls Try.prog 14 #[.agg #[.slice a1 lo.length c1, .slice a2 hi.length c2], .slice (some ⟨g, 0, none⟩) p.length cp] X fun e w' => e = .returned (.int .i64 t) ∧ Below X.heap.size X w') := fun X hX => by
    rw [HT.out]
    exact sToBox a1 a2 (some ⟨g, 0, none⟩) c1 c2 cp lo hi p X (HP.out.below hX).1.2.1 (HP.out.below hX).1.2.2 (HP.out.below hX).2 (by omega) (by omega) (by omega)
  have HSC : Hid (∀ X, Below W5.heap.size W5 X → Calls Try.prog 15 #[.agg #[.slice a1 lo.length c1, .slice a2 hi.length c2], .slice (some ⟨g, 0, none⟩) p.length cp] X fun e w' => e = .returned (.int .i64 cv) ∧ Below X.heap.size X w') := fun X hX => by
    rw [HC.out]
    exact sCorner a1 a2 (some ⟨g, 0, none⟩) c1 c2 cp lo hi p X (HP.out.below hX).1.2.1 (HP.out.below hX).1.2.2 (HP.out.below hX).2 (by omega) (by omega) (by omega)
  have HSA : Hid (∀ X, Below W5.heap.size W5 X → Calls Try.prog 21 #[.slice (some ⟨gm, 0, none⟩) ms.length cm] X fun e w' => ∃ a1 c1 a2 c2, e = .returned (.agg #[.slice a1 rl.length c1, .slice a2 rh.length c2]) ∧ View w' a1 rl ∧ View w' a2 rh ∧ Below X.heap.size X w') := fun X hX => by
    rw [HRL.out, HRH.out]
    exact sAround (some ⟨gm, 0, none⟩) cm ms X (HR.out.below hX).2 HSM.out
  have HLK : Hid (∀ (x3 x4 : Option Addr) (e3 e4 : Nat) (X : World), View X x1 rl → View X x2 rh → View X x3 rl → View X x4 rh → Calls Try.prog 20 #[.agg #[.slice x1 rl.length e1, .slice x2 rh.length e2], .agg #[.slice x3 rl.length e3, .slice x4 rh.length e4]] X fun e w' => e = .returned (.bool true) ∧ Below X.heap.size X w') := fun x3 x4 e3 e4 X h1 h2 h3 h4 => by
    have h := likeX x1 x2 x3 x4 e1 e2 e3 e4 rl rh rl rh X h1 h2 h3 h4 (by omega) (by omega)
    simpa using h
  go_wp2_with fail
  rw [← hW5]
  clear hW5
  refine wp_region_takes (S := fun X => (X.cell? ⟨w1.heap.size, 0, none⟩ = some (.slice a1 lo.length c1) ∧ X.cell? ⟨w1.heap.size, 1, none⟩ = some (.slice a2 hi.length c2)) ∧ (X.cell? ⟨w5.heap.size, 0, none⟩ = some (.slice x1 rl.length e1) ∧ X.cell? ⟨w5.heap.size, 1, none⟩ = some (.slice x2 rh.length e2))) (fuel := 32) [0, 1, 2] (by kernel_rfl) (by kernel_rfl) (by kernel_rfl) (by kernel_rfl) (SK.out _ (Below.refl _ _).drew) (fun hS => ?_)
  iterate 3
    refine ⟨_, rfl, ?_⟩
    first
      | refine ⟨undef, Or.inr ⟨by rfl, rfl⟩, ?_⟩
      | (apply Exists.intro
         refine ⟨Or.inl ⟨by rfl, fun w' hw' => ?_⟩, ?_⟩
         · first
           | (go_simp; done)
           | (go_simp; with_reducible rfl))
    simp only [Act.put, List.getElem_toArray, List.getElem_cons_succ, List.getElem_cons_zero, List.setIfInBounds_toArray, List.set_cons_zero, List.set_cons_succ]
  have B0 : Below W5.heap.size W5 W5.drew := (Below.refl _ _).drew
  refine calm_one 3 (by kernel_rfl) rfl (fun K hK => ?_)
  go_simp
  refine (HSTB.out _ B0).mono ?_
  rintro e wk1 ⟨rfl, Lk1⟩
  have B1 : Below W5.heap.size W5 wk1 := chain B0 Lk1
  refine hK.out _ _ (SK.out _ B1) (fun _ => ?_)
  clear hK K
  refine calm_some 26 [4, 5, 6, 7, 8] (by kernel_rfl) (by kernel_rfl) (by kernel_rfl) (SK.out _ B1) ?_
  iterate 5
    refine ⟨_, rfl, ?_⟩
    first
      | refine ⟨undef, Or.inr ⟨by rfl, rfl⟩, ?_⟩
      | (apply Exists.intro
         refine ⟨Or.inl ⟨by rfl, fun w' hw' => ?_⟩, ?_⟩
         · first
           | (go_simp; done)
           | (go_simp; with_reducible rfl))
    simp only [Act.put, List.getElem_toArray, List.getElem_cons_succ, List.getElem_cons_zero, List.setIfInBounds_toArray, List.set_cons_zero, List.set_cons_succ]
  refine calm_one 9 (by kernel_rfl) rfl (fun K hK => ?_)
  go_simp
  refine (HSC.out _ B1).mono ?_
  rintro e wk2 ⟨rfl, Lk2⟩
  have B2 : Below W5.heap.size W5 wk2 := chain B1 Lk2
  refine hK.out _ _ (SK.out _ B2) (fun _ => ?_)
  clear hK K
  refine calm_some 18 [10, 11, 12, 13, 14, 16, 17] (by kernel_rfl) (by kernel_rfl) (by kernel_rfl) (SK.out _ B2) ?_
  iterate 7
    refine ⟨_, rfl, ?_⟩
    first
      | refine ⟨undef, Or.inr ⟨by rfl, rfl⟩, ?_⟩
      | (apply Exists.intro
         refine ⟨Or.inl ⟨by rfl, fun w' hw' => ?_⟩, ?_⟩
         · first
           | (go_simp; done)
           | (go_simp; with_reducible rfl))
    simp only [Act.put, List.getElem_toArray, List.getElem_cons_succ, List.getElem_cons_zero, List.setIfInBounds_toArray, List.set_cons_zero, List.set_cons_succ]
  refine calm_one 15 (by kernel_rfl) rfl (fun K hK => ?_)
  go_simp
  refine (iInside a1 a2 (some ⟨g, 0, none⟩) c1 c2 cp lo hi p wk2 (HP.out.below B2).1.2.1 (HP.out.below B2).1.2.2 (HP.out.below B2).2 (by omega) (by omega) (by omega)).mono ?_
  rintro e wk3 ⟨rfl, Lk3⟩
  have B3 : Below W5.heap.size W5 wk3 := chain B2 Lk3
  refine hK.out _ _ (SK.out _ B3) (fun _ => ?_)
  clear hK K
  refine calm_one 18 (by kernel_rfl) rfl (fun K hK => ?_)
  go_simp
  refine (sInside a1 a2 (some ⟨g, 0, none⟩) c1 c2 cp lo hi p wk3 (HP.out.below B3).1.2.1 (HP.out.below B3).1.2.2 (HP.out.below B3).2 (by omega) (by omega) (by omega)).mono ?_
  rintro e wk4 ⟨rfl, Lk4⟩
  have B4 : Below W5.heap.size W5 wk4 := chain B3 Lk4
  refine hK.out _ _ (SK.out _ B4) (fun _ => ?_)
  clear hK K
  refine calm_some 11 [19, 20, 21, 22, 24] (by kernel_rfl) (by kernel_rfl) (by kernel_rfl) (SK.out _ B4) ?_
  iterate 5
    refine ⟨_, rfl, ?_⟩
    first
      | refine ⟨undef, Or.inr ⟨by rfl, rfl⟩, ?_⟩
      | (apply Exists.intro
         refine ⟨Or.inl ⟨by rfl, fun w' hw' => ?_⟩, ?_⟩
         · first
           | (go_simp; done)
           | (go_simp; with_reducible rfl))
    simp only [Act.put, List.getElem_toArray, List.getElem_cons_succ, List.getElem_cons_zero, List.setIfInBounds_toArray, List.set_cons_zero, List.set_cons_succ]
  refine calm_one 23 (by kernel_rfl) rfl (fun K hK => ?_)
  go_simp
  refine (iBoxOk a1 a2 c1 c2 lo hi wk4 (HP.out.below B4).1.2.1 (HP.out.below B4).1.2.2 (by omega) (by omega)).mono ?_
  rintro e wk5 ⟨rfl, Lk5⟩
  have B5 : Below W5.heap.size W5 wk5 := chain B4 Lk5
  refine hK.out _ _ (SK.out _ B5) (fun _ => ?_)
  clear hK K
  refine calm_one 25 (by kernel_rfl) rfl (fun K hK => ?_)
  go_simp
  refine (sBoxOk a1 a2 c1 c2 lo hi wk5 (HP.out.below B5).1.2.1 (HP.out.below B5).1.2.2 (by omega) (by omega)).mono ?_
  rintro e wk6 ⟨rfl, Lk6⟩
  have B6 : Below W5.heap.size W5 wk6 := chain B5 Lk6
  refine hK.out _ _ (SK.out _ B6) (fun _ => ?_)
  clear hK K
  refine calm_some 4 [26, 27, 28, 29, 30] (by kernel_rfl) (by kernel_rfl) (by kernel_rfl) (SK.out _ B6) ?_
  iterate 5
    refine ⟨_, rfl, ?_⟩
    first
      | refine ⟨undef, Or.inr ⟨by rfl, rfl⟩, ?_⟩
      | (apply Exists.intro
         refine ⟨Or.inl ⟨by rfl, fun w' hw' => ?_⟩, ?_⟩
         · first
           | (go_simp; done)
           | (go_simp; with_reducible rfl))
    simp only [Act.put, List.getElem_toArray, List.getElem_cons_succ, List.getElem_cons_zero, List.setIfInBounds_toArray, List.set_cons_zero, List.set_cons_succ]
  refine calm_one 31 (by kernel_rfl) rfl (fun K hK => ?_)
  go_simp
  refine (HSA.out _ B6).mono ?_
  rintro e wk7 ⟨x3, e3, x4, e4, rfl, y3, y4, Lk7⟩
  have B7 : Below W5.heap.size W5 wk7 := chain B6 Lk7
  refine hK.out _ _ (SK.out _ B7) (fun _ => ?_)
  clear hK K
  refine calm_one 32 (by kernel_rfl) rfl (fun K hK => ?_)
  go_simp
  refine (HLK.out x3 x4 e3 e4 _ (HR.out.below B7).1.2.1 (HR.out.below B7).1.2.2 y3 y4).mono ?_
  rintro e wk8 ⟨rfl, Lk8⟩
  have B8 : Below W5.heap.size W5 wk8 := chain B7 Lk8
  refine hK.out _ _ (SK.out _ B8) (fun _ => ?_)
  clear hK K
  refine calm_rest [33, 34] (by kernel_rfl) (by kernel_rfl) (by kernel_rfl) (by kernel_rfl) (SK.out _ B8) ?_
  iterate 2
    refine ⟨_, rfl, ?_⟩
    first
      | refine ⟨undef, Or.inr ⟨by rfl, rfl⟩, ?_⟩
      | (apply Exists.intro
         refine ⟨Or.inl ⟨by rfl, fun w' hw' => ?_⟩, ?_⟩
         · first
           | (go_simp; done)
           | (go_simp; with_reducible rfl))
    simp only [Act.put, List.getElem_toArray, List.getElem_cons_succ, List.getElem_cons_zero, List.setIfInBounds_toArray, List.set_cons_zero, List.set_cons_succ]
  refine NoPanic.normal ?_
  refine NoPanic.normal ?_
  have HP' := hidP (HP.out.below B8)
  have HR' := hidP (HR.out.below B8)
  have HL' := hidP (chain HL.out B8)
  have HQ := hidP (And.intro y3 y4)
  clear HP HL HR SK HSTB HSC HSA HLK y3 y4 hS
  clear B0 B1 Lk1 B2 Lk2 B3 Lk3 B4 Lk4 B5 Lk5 B6 Lk6 B7 Lk7 B8 Lk8
  have HP := HP'
  have HL := HL'
  have HR := HR'
  clear HP' HL' HR' HQ
  have HAL : Hid (boxB (rl, rh) = true → ∀ i, i < ms.length → insideB (rl, rh) (mat ms i) = true) := fun h i hi => by
    have := around_all (ms := ms) (i := i)
    rw [HRS.out] at this
    exact this h hi
  go_upto_block 0 with fail
  go_cut [9] (fun _ wc => PrP wc w1.heap.size a1 a2 c1 c2 lo hi g p ∧ Below w.heap.size w wc)
  case first =>
    go_wp2_with fail
    go_loopw [9] (fun i wr => ∃ k : Nat, k ≤ ms.length ∧ i = .int .i64 k ∧ PrP wr w1.heap.size a1 a2 c1 c2 lo hi g p ∧ PrM wr w5.heap.size x1 x2 e1 e2 rl rh gm ms ∧ Below w.heap.size w wr) (fun i _ => ms.length - (intOf i).toNat)
    case atStart => exact ⟨0, by omega, rfl, HP.out, HR.out, HL.out⟩
    case round =>
      obtain ⟨k, hk, rfl, hp, hr, hl⟩ := hrel
      clear HP HR HL
      have HP := hidP hp
      have HR := hidP hr
      have HL := hidP hl
      clear hp hr hl
      have q2 := HR.out.1.1.c0
      have q3 := HR.out.1.1.c1
      have HI := hidP (iBoxOk x1 x2 e1 e2 rl rh wr HR.out.1.2.1 HR.out.1.2.2 (by omega) (by omega))
      by_cases hgo : k < ms.length ∧ boxB (rl, rh) = true
      · obtain ⟨hlt, hbx⟩ := hgo
        have HIN := hidP (HAL.out hbx k hlt)
        rw [hbx] at HI
        clear hbx
        go_wp2_with fail
        refine HI.out.mono ?_
        rintro e w6 ⟨rfl, L6⟩
        clear q2 q3 HI
        have HP' := hidP (HP.out.below L6)
        have HR' := hidP (HR.out.below L6)
        have HL' := hidP (chain HL.out L6)
        clear HP HL HR L6
        have HP := HP'
        have HL := HL'
        have HR := HR'
        clear HP' HL' HR'
        have HD := hidP (HR.out.2)
        rcases HR.out.2 with hnil | ⟨b, off, hga, hb, hs⟩
        · exfalso
          rw [hnil] at hlt
          simp at hlt
        obtain ⟨e1', e2'⟩ : b = gm ∧ off = 0 := by injection hga with hga; injection hga with h1 h2; exact ⟨h1.symm, h2.symm⟩
        subst e1'
        subst e2'
        obtain ⟨_, am, cam, hcm, vm⟩ := hs k hlt
        rw [Nat.zero_add, mnth_2] at hcm
        rw [mnth_2] at vm
        have HVM := hidP vm
        have HI := hidP (fun X (hX : Below w6.heap.size w6 X) => iInside x1 x2 am e1 e2 cam rl rh (mat ms k) X (HR.out.below hX).1.2.1 (HR.out.below hX).1.2.2 (HVM.out.next hX) (by omega) (by omega) (by have := HM5.out k; omega))
        rw [HIN.out] at HI
        have q2 := HR.out.1.1.c0
        have q3 := HR.out.1.1.c1
        have hbl : b < w6.heap.size := hb
        clear vm hga hb hs HD HIN
        go_wp2_with fail
        refine wp_region_takes (S := fun X => (X.cell? ⟨w5.heap.size, 0, none⟩ = some (.slice x1 rl.length e1) ∧ X.cell? ⟨w5.heap.size, 1, none⟩ = some (.slice x2 rh.length e2)) ∧ X.cell? ⟨b, k * 2 + 1, none⟩ = some (.slice am (mat ms k).length cam)) (fuel := 2) [0, 1, 2, 3, 4, 5] (by kernel_rfl) (by kernel_rfl) (by kernel_rfl) (by kernel_rfl) ⟨⟨q2, q3⟩, hcm⟩ (fun hS => ?_)
        iterate 6
          refine ⟨_, rfl, ?_⟩
          first
            | refine ⟨undef, Or.inr ⟨by rfl, rfl⟩, ?_⟩
            | (apply Exists.intro
               refine ⟨Or.inl ⟨by rfl, fun w' hw' => ?_⟩, ?_⟩
               · first
                 | (go_simp; done)
                 | (go_simp; with_reducible rfl))
          simp only [Act.put, List.getElem_toArray, List.getElem_cons_succ, List.getElem_cons_zero, List.setIfInBounds_toArray, List.set_cons_zero, List.set_cons_succ]
        refine calm_one 6 (by kernel_rfl) rfl (fun K hK => ?_)
        go_simp
        refine (HI.out _ (Below.refl _ _).drew).mono ?_
        rintro e w7 ⟨rfl, L7'⟩
        have L7 := below_drew' L7'
        have hS7 : (w7.cell? ⟨w5.heap.size, 0, none⟩ = some (.slice x1 rl.length e1) ∧ w7.cell? ⟨w5.heap.size, 1, none⟩ = some (.slice x2 rh.length e2)) ∧ w7.cell? ⟨b, k * 2 + 1, none⟩ = some (.slice am (mat ms k).length cam) := ⟨⟨(HR.out.below L7).1.1.c0, (HR.out.below L7).1.1.c1⟩, (L7.cell (p := ⟨b, k * 2 + 1, none⟩) (by show b < w6.heap.size; exact hbl)).trans hcm⟩
        refine hK.out _ _ hS7 (fun _ => ?_)
        clear hK K
        refine calm_rest [7] (by kernel_rfl) (by kernel_rfl) (by kernel_rfl) (by kernel_rfl) hS7 ?_
        iterate 1
          refine ⟨_, rfl, ?_⟩
          first
            | refine ⟨undef, Or.inr ⟨by rfl, rfl⟩, ?_⟩
            | (apply Exists.intro
               refine ⟨Or.inl ⟨by rfl, fun w' hw' => ?_⟩, ?_⟩
               · first
                 | (go_simp; done)
                 | (go_simp; with_reducible rfl))
          simp only [Act.put, List.getElem_toArray, List.getElem_cons_succ, List.getElem_cons_zero, List.setIfInBounds_toArray, List.set_cons_zero, List.set_cons_succ]
        refine NoPanic.normal ?_
        refine NoPanic.normal ?_
        have HP' := hidP (HP.out.below L7)
        have HR' := hidP (HR.out.below L7)
        have HL' := hidP (chain HL.out L7)
        clear HP HL HR L7 L7' hS7 hS q2 q3 hcm HI HVM
        go_wp2_with fail
        go_roundw
        case rel => exact ⟨k + 1, by omega, by go_num, HP'.out, HR'.out, HL'.out⟩
        case measure => simp [intOf]; omega
      · by_cases hlt : k < ms.length
        · have hbx : boxB (rl, rh) = false := by
            rcases h : boxB (rl, rh) with _ | _
            · rfl
            · exact absurd ⟨hlt, h⟩ hgo
          rw [hbx] at HI
          clear hgo hbx
          go_wp2_with fail
          refine HI.out.mono ?_
          rintro e w8 ⟨rfl, L8⟩
          clear q2 q3 HI
          go_wp2_with fail
          go_meet
          case rel => exact ⟨HP.out.below L8, chain HL.out L8⟩
        · clear hgo q2 q3 HI HR
          go_wp2_with fail
          go_meet
          case rel => exact ⟨HP.out, HL.out⟩
  case rest =>
    obtain ⟨hp, hl⟩ := hcut
    have HP' := hidP hp
    have HL' := hidP hl
    clear HP HR HL hp hl HAL
    have HP := HP'
    have HL := HL'
    clear HP' HL'
    obtain ⟨w8, hw8⟩ : ∃ w8, w8 = wc := ⟨_, rfl⟩
    subst hw8
    rcases htd : toldX (lo, hi) p with _ | _
    · obtain ⟨n1, n2, n3⟩ := side_none htd
      rw [← HT.out] at n1
      rw [← HC.out] at n2
      have HI := hidP (iInside a1 a2 (some ⟨g, 0, none⟩) c1 c2 cp lo hi p w8 HP.out.1.2.1 HP.out.1.2.2 HP.out.2 (by omega) (by omega) (by omega))
      rw [n3] at HI
      have q0 := HP.out.1.1.c0
      have q1 := HP.out.1.1.c1
      clear HT HC
      subst n1
      subst n2
      go_wp2_with fail
      refine HI.out.mono ?_
      rintro e w9 ⟨rfl, L9⟩
      clear q0 q1 HI
      go_wp2_with fail
      go_ret
      exact ⟨rfl, chain HL.out L9⟩
    · have hsc := side_corner htd
      rw [← HT.out, ← HC.out] at hsc
      obtain ⟨ht0, htc⟩ := hsc
      obtain ⟨hbx, htw⟩ := toldX_of htd
      obtain ⟨okl, okh, hlh⟩ := twoB_of (boxB_two hbx)
      have hlp : lo.length = p.length := (twoB_of htw).2.2
      have hl1 := (okB_len okl).1
      have hlh' : lo.length = hi.length := hlh
      have HFAR : Hid (∀ x, Amid (lo, hi) x → 0 ≤ farV x p ∧ t ≤ farV x p ∧ farV x p ≤ cv ∧ insideB (lo, hi) x = true) := fun x hx => by
        have h := hx.far htd
        rw [HT.out, HC.out]
        exact ⟨by omega, h.2.1, h.2.2, hx.inside hbx⟩
      have HBD : Hid (∀ i, -1000 ≤ nth lo i ∧ nth lo i ≤ 1000 ∧ -1000 ≤ nth hi i ∧ nth hi i ≤ 1000) := fun i => by
        have h1 : -1000 ≤ nth lo i ∧ nth lo i ≤ 1000 := okB_at okl i
        have h2 : -1000 ≤ nth hi i ∧ nth hi i ≤ 1000 := okB_at okh i
        omega
      have HSD : Hid (∀ i, i < lo.length → nth lo i ≤ nth hi i) := fun i hi' => boxB_at hbx hi'
      have hins : insideB (lo, hi) p = decide (t = 0) := by rw [side_inside htd, HT.out]
      have HINS := hidP hins
      obtain ⟨b1, o1, ea1⟩ : ∃ b off, a1 = some ⟨b, off, none⟩ := by
        rcases HP.out.1.2.1 with h | ⟨b, off, e, _⟩
        · rw [h] at hl1; simp at hl1
        · exact ⟨b, off, e⟩
      obtain ⟨b2, o2, ea2⟩ : ∃ b off, a2 = some ⟨b, off, none⟩ := by
        rcases HP.out.1.2.2 with h | ⟨b, off, e, _⟩
        · rw [h] at hlh'; simp at hlh'; rw [hlh'] at hl1; simp at hl1
        · exact ⟨b, off, e⟩
      subst ea1
      subst ea2
      clear hbx htw okl okh hlh hins htd
      have HHC := hidP hlp
      have HHI := hidP hlh'
      clear hlp hlh' hl1
      go_wp2_with fail
      go_loopw [10] (fun i wr => ∃ k : Nat, k ≤ 8 ∧ i = .int .i64 k ∧ PrP wr w1.heap.size (some ⟨b1, o1, none⟩) (some ⟨b2, o2, none⟩) c1 c2 lo hi g p ∧ Below w.heap.size w wr) (fun i _ => 8 - (intOf i).toNat)
      case atStart => exact ⟨0, by omega, rfl, HP.out, HL.out⟩
      case round =>
        obtain ⟨k', hk', rfl, hp, hl⟩ := hrel
        clear HP HL
        have HP := hidP hp
        have HL := hidP hl
        clear hp hl
        obtain ⟨w9, hw9⟩ : ∃ w9, w9 = wr := ⟨_, rfl⟩
        subst hw9
        by_cases hlt' : k' < 8
        · have hk8 : decide ((k' : Int) < 8) = true := by simp; omega
          have hk8n : decide (k' < 8) = true := by simp; omega
          have R0 : Hid (Row w9.heap.size (w9.alloc (.cells #[] 2)) w9.heap.size 0 []) := World.ownsRow_lit w9 #[] 0 (Nat.le_refl _) (Nat.zero_le _) rfl
          have B9 := hidP (alloc_below w9 (.cells #[] 2))
          go_wp2_with fail
          go_loopw [11, 12] (fun v i wr => ∃ (xs : List Int) (g' c' : Nat), v = .slice (some ⟨g', 0, none⟩) xs.length c' ∧ i = .int .i64 xs.length ∧ xs.length ≤ p.length ∧ (∀ j, j < xs.length → nth lo j ≤ nth xs j ∧ nth xs j ≤ nth hi j) ∧ Row w9.heap.size wr g' c' xs ∧ Below w9.heap.size w9 wr) (fun _ i _ => p.length - (intOf i).toNat)
          case atStart => exact ⟨[], w9.heap.size, 0, rfl, rfl, by simp, fun j hj => by simp at hj, R0.out, B9.out⟩
          case round =>
            obtain ⟨xs, g', c', rfl, rfl, hxl, hxs, hrow, L9⟩ := hrel
            have HX := hidP hxs
            have HR0 := hidP hrow
            have HL9 := hidP L9
            have hgl := Row.lt2 hrow
            have hz9 := L9.size
            have HPr := hidP (HP.out.below L9)
            clear hxs hrow L9
            by_cases hlt2 : xs.length < p.length
            · obtain ⟨lx, hlx⟩ : ∃ lx, lx = nth lo xs.length := ⟨_, rfl⟩
              obtain ⟨hx, hhx⟩ : ∃ hx, hx = nth hi xs.length := ⟨_, rfl⟩
              have hbd := HBD.out xs.length
              have hsd := HSD.out xs.length (by rw [HHC.out]; exact hlt2)
              rw [← hlx, ← hhx] at hbd hsd
              obtain ⟨hd1, hd2, hd3, hd4⟩ := hbd
              have hm1 : IntKind.i64.wrap (20 * (k' : Int)) = 20 * (k' : Int) := IntWalk.i64_in _ ⟨by omega, by omega⟩
              have hm2 : IntKind.i64.wrap (20 * (k' : Int) + xs.length) = 20 * (k' : Int) + xs.length := IntWalk.i64_in _ ⟨by omega, by omega⟩
              have hm3 : IntKind.i64.wrap (hx - lx) = hx - lx := IntWalk.i64_in _ ⟨by omega, by omega⟩
              have hm4 : IntKind.i64.wrap (hx - lx + 1) = hx - lx + 1 := IntWalk.i64_in _ ⟨by omega, by omega⟩
              have hll : (xs.length : Int) < lo.length := by rw [HHC.out]; omega
              have hlh2 : (xs.length : Int) < hi.length := by rw [← HHI.out, HHC.out]; omega
              have SK : Hid (∀ X, Below w9.heap.size w9 X → (X.cell? ⟨w1.heap.size, 0, none⟩ = some (.slice (some ⟨b1, o1, none⟩) lo.length c1) ∧ X.cell? ⟨w1.heap.size, 1, none⟩ = some (.slice (some ⟨b2, o2, none⟩) hi.length c2)) ∧ X.cell? ⟨b1, o1 + xs.length, none⟩ = some (.int .i64 lx) ∧ X.cell? ⟨b2, o2 + xs.length, none⟩ = some (.int .i64 hx)) := fun X hX => by
                have h := HP.out.below hX
                refine ⟨⟨h.1.1.c0, h.1.1.c1⟩, ?_, ?_⟩
                · rw [hlx]; exact view_cell h.1.2.1 (by omega)
                · rw [hhx]; exact view_cell h.1.2.2 (by omega)
              have HLX := hidP (And.intro hlx hhx)
              clear hlx hhx
              have HPK := hidP (pickW ao0 len0 cap0 (20 * (k' : Int) + xs.length) (hx - lx + 1) wr.drew (HCV.out.below (Nat.le_refl _) (chain HL.out HL9.out) : CodeV wr ao0 len0) hn (by omega) (by omega) (by omega) (by omega))
              go_wp2_with fail
              refine wp_region_calm (S := fun X => (X.cell? ⟨w1.heap.size, 0, none⟩ = some (.slice (some ⟨b1, o1, none⟩) lo.length c1) ∧ X.cell? ⟨w1.heap.size, 1, none⟩ = some (.slice (some ⟨b2, o2, none⟩) hi.length c2)) ∧ X.cell? ⟨b1, o1 + xs.length, none⟩ = some (.int .i64 lx) ∧ X.cell? ⟨b2, o2 + xs.length, none⟩ = some (.int .i64 hx)) (fuel := 4)
                [0, 1, 2, 3, 4, 5, 6, 7, 8, 9, 10, 11, 12, 13, 14, 15, 16, 17, 18, 19, 20, 21, 22] _ rfl (by kernel_rfl) (by kernel_rfl) (by kernel_rfl) (by kernel_rfl) (by kernel_rfl) (by kernel_rfl) (by kernel_rfl) (SK.out _ HL9.out.drew) (fun hS => ?_)
              iterate 23
                refine ⟨_, rfl, ?_⟩
                apply Exists.intro
                refine ⟨Or.inl ⟨by rfl, fun w' hw' => ?_⟩, ?_⟩
                · first
                  | (go_simp; done)
                  | (go_simp; with_reducible rfl)
                simp only [Act.put, List.getElem_toArray, List.setIfInBounds_toArray]
              refine calm_one 23 (by kernel_rfl) rfl (fun K hK => ?_)
              go_simp
              refine HPK.out.mono ?_
              rintro e w10 ⟨⟨x, hxa, hxb, rfl⟩, hw10⟩
              have B10 : Hid (Below w9.heap.size w9 w10) := by show Below _ _ _; rw [hw10]; exact HL9.out.drew
              have HR10 : Hid (Row w9.heap.size w10 g' c' xs) := by show Row _ _ _ _ _; rw [hw10]; exact HR0.out
              have hgl10 := Row.lt2 HR10.out
              have hz10 := B10.out.size
              clear hw10 HPK
              refine hK.out _ _ (SK.out _ B10.out) (fun _ => ?_)
              clear hK K
              have hm5 : IntKind.i64.wrap (lx + x) = lx + x := IntWalk.i64_in _ ⟨by omega, by omega⟩
              refine calm_one 24 (by kernel_rfl) rfl (fun K hK => ?_)
              go_simp
              refine hK.out _ _ (SK.out _ B10.out) (fun _ => ?_)
              clear hK K
              have B11 := hidP (B10.out.alloc hz10 (.cells #[.int .i64 (lx + x)] 2))
              refine calm_one 25 (by kernel_rfl) rfl (fun K hK => ?_)
              go_simp
              refine hK.out _ _ (SK.out _ B11.out) (fun _ => ?_)
              clear hK K
              refine calm_one 26 (by kernel_rfl) rfl (fun K hK => ?_)
              refine step_append_lies _ (by rfl) _ _ _ (by rfl) w9.heap.size 2 i0 _ 1 8 Try.underlying24 hi0 hz0 hz1 hz2 rfl (by omega) (.slice (some ⟨g', 0, none⟩) xs.length c') xs.length _ (by rfl) (World.ownsRow.alloc HR10.out _) ⟨w10.heap.size, 0, none⟩ 1 1 [.int .i64 (lx + x)] (by rfl) (by rfl) (World.news_of_block (cs := #[.int .i64 (lx + x)]) (t := 2) (fr := (0, 0)) (heap_alloc_new w10 _)) (by simp [Value.oneCell']) (by omega) (by unfold maxLen; omega) (by omega) (by simp; omega) (w10.heap.size + 1) (by simp) ?_
              intro gg cc w12 hown2 hgrow hat hlt1
              have B12 := hidP (B11.out.grown hgrow (by simp; omega) (by intro k hk; simp [Value.ownBlock] at hk; omega))
              refine hK.out _ _ (SK.out _ B12.out) (fun _ => ?_)
              clear hK K
              refine wpAnyH_done (by kernel_rfl) ?_ _
              simp only [Exit.then]
              have HOW := hidP hown2
              clear hown2 hgrow hat hlt1 SK hS
              go_wp2_with fail
              refine NoPanic.normal ?_
              go_wp2_with fail
              go_roundw
              case rel =>
                refine ⟨xs ++ [lx + x], gg, cc, ?_, ?_, by simp; omega, ?_, ?_, B12.out⟩
                · rw [List.length_append, List.length_singleton]
                · rw [List.length_append, List.length_singleton]; go_num
                · intro j hj
                  rw [List.length_append, List.length_singleton] at hj
                  by_cases hjx : j < xs.length
                  · have h := HX.out j hjx
                    have e : nth (xs ++ [lx + x]) j = nth xs j := by simp only [nth, List.getD]; rw [List.getElem?_append_left hjx]
                    rw [e]; exact h
                  · obtain rfl : j = xs.length := by omega
                    have e : nth (xs ++ [lx + x]) xs.length = lx + x := by simp [nth, List.getD]
                    rw [e, ← HLX.out.1, ← HLX.out.2]; omega
                · unfold Row; rw [List.length_append, List.length_singleton, List.map_append]; exact HOW.out
              case measure => simp [intOf]; omega
            · have hxe : xs.length = p.length := by omega
              have hF := HFAR.out xs ⟨by show xs.length = lo.length; rw [HHC.out]; exact hxe, HX.out⟩
              obtain ⟨fv, hfv⟩ : ∃ fv, fv = farV xs p := ⟨_, rfl⟩
              have HI := hidP (iFar (some ⟨g', 0, none⟩) (some ⟨g, 0, none⟩) c' cp xs p wr (Row.view HR0.out) HPr.out.2 (by omega) (by omega))
              rw [← hfv] at HI hF
              obtain ⟨hf0, hf1, hf2, hf3⟩ := hF
              have HXE := hidP hxe
              have hxl5 : xs.length ≤ 5 := by omega
              clear hxe hfv
              go_wp2_with fail
              refine HI.out.mono ?_
              rintro e w10 ⟨rfl, L10⟩
              clear HI
              have HPs := hidP (HPr.out.below L10)
              have HI := hidP (iInside (some ⟨b1, o1, none⟩) (some ⟨b2, o2, none⟩) (some ⟨g', 0, none⟩) c1 c2 c' lo hi xs w10 HPs.out.1.2.1 HPs.out.1.2.2 ((Row.view HR0.out).next L10) (by omega) (by omega) (by omega))
              rw [hf3] at HI
              have q0 := HPs.out.1.1.c0
              have q1 := HPs.out.1.1.c1
              have HLs := hidP (chain (chain HL.out HL9.out) L10)
              clear L10 hf3
              go_wp2_with fail
              refine HI.out.mono ?_
              rintro e w11 ⟨rfl, L11⟩
              have HPt := hidP (HPs.out.below L11)
              have HLt := hidP (chain HLs.out L11)
              clear q0 q1 HI L11
              go_wp2_with fail
              go_roundw
              case rel => exact ⟨k' + 1, by omega, by go_num, HPt.out, HLt.out⟩
              case measure => simp [intOf]; omega
        · have HI := hidP (iInside (some ⟨b1, o1, none⟩) (some ⟨b2, o2, none⟩) (some ⟨g, 0, none⟩) c1 c2 cp lo hi p w9 HP.out.1.2.1 HP.out.1.2.2 HP.out.2 (by omega) (by omega) (by omega))
          rw [HINS.out] at HI
          have q0 := HP.out.1.1.c0
          have q1 := HP.out.1.1.c1
          by_cases htz : t = 0
          · have hdt : decide (t = 0) = true := by simp [htz]
            have hcv0 : (0 : Int) ≤ cv := by omega
            have hdc0 : decide ((0 : Int) ≤ cv) = true := by simp [hcv0]
            have hdc : decide (t ≤ cv) = true := by simp [htc]
            rw [hdt] at HI
            go_wp2_with fail
            refine HI.out.mono ?_
            rintro e w10 ⟨rfl, L10⟩
            clear q0 q1 HI
            go_wp2_with fail
            go_ret
            exact ⟨rfl, chain HL.out L10⟩
          · have hdt : decide (t = 0) = false := by simp [htz]
            have hdc : decide (t ≤ cv) = true := by simp [htc]
            have htzb : (t == 0) = false := by simp [htz]
            rw [hdt] at HI
            go_wp2_with fail
            refine HI.out.mono ?_
            rintro e w10 ⟨rfl, L10⟩
            clear q0 q1 HI
            go_wp2_with fail
            go_ret
            exact ⟨rfl, chain HL.out L10⟩

set_option maxRecDepth 100000 in
theorem lifted (os : Os) (started : os.Started) (H : Type) (enc : TypeId × Value → H) :
    ReturnsInHanded {} Try.checked os 3 .any (Rows.fnBoxesSpec.pre6 enc Try.prog Try.f3 Rows.fnBoxesRow.domain false) (Rows.fnBoxesSpec.post enc Try.prog Try.f3 false true false false) := by
  refine returnsInHanded_of_change (C := Try.checked) own started (by kernel_rfl) Try.func3
    (ChangeSpec.witness6 (enc := enc) (C := Try.checked) false ⟨#[], #[.slice none 0 0], []⟩ 8 (by kernel_rfl) (by kernel_rfl) (by kernel_rfl) (by kernel_rfl)) ?_
  intro W base args ds gs before hval0 hW hcnd _
  have hval : ∀ (j : Nat) t v, Try.f3.params[j]? = some t → args[j]? = some v → Value.okWide Try.prog W .any base t v := hval0
  have hW' := hW
  obtain ⟨p, q, hA0, hV, rfl, hfz, hnd⟩ := hW
  have hA : DataW.TrodAll enc Try.prog W 0 (fun _ => true) true Try.f3.params.toList args.toList ds p := hA0
  rw [Try.params3] at hA hval
  obtain ⟨v0, vs0, d0, ds0, p0, q0, hargs, rfl, rfl, h0, r0⟩ := trodAll_cons hA
  obtain ⟨rfl, rfl, rfl⟩ := trodAll_nil r0
  obtain rfl : args = #[v0] := by cases args; simp_all
  obtain ⟨rfl, rfl⟩ := trodVars_none hV
  obtain ⟨a0, len0, cap0, rfl⟩ := okWide_slice Try.underlying22 (hval 0 22 v0 rfl rfl)
  have k0 := h0
  have lt0 : ∀ x ∈ p0, x.block < W.heap.size := by obtain ⟨m, hm⟩ := k0; exact DataW.trod_lt m _ _ _ hm
  obtain ⟨hv0, hn0⟩ := (by obtain ⟨fuel, hf⟩ := h0; exact code_view hf : CodeV W a0 len0 ∧ len0 ≤ maxLen)
  clear hA0 hval0
  refine (walk a0 len0 cap0 W hv0 hn0).mono fun e W' ⟨he, bel⟩ => ?_
  subst he
  exact ⟨_, rfl, _, _, _, [], _, [], hW', trodAll_mk1 (shut_bool Try.underlying4 _), (trodAll_cons_mk (Below.trod laidOut (by kernel_rfl) (of_decide_eq_true (by kernel_rfl)) k0 bel lt0) trodAll_mk0), rfl, bel.frame _, fun h => by cases h⟩

theorem over : Rows.fnBoxesRow.holds Try.pinned (OpenSpec.ofChange Rows.fnBoxesSpec) :=
  OpenClaim.holds_of_wide 3 Try.f3 rfl rfl rfl rfl rfl rfl rfl ⟨rfl, rfl, rfl, rfl, rfl⟩ rfl rfl rfl rfl rfl (by kernel_rfl) Try.func3 (by kernel_rfl)
    (of_decide_eq_true (by kernel_rfl)) (by unfold Func.isWrapper; first | (rw [if_pos (by decide +kernel)]; kernel_rfl) | (rw [if_neg (by decide +kernel)]; exact ⟨rfl, rfl⟩))
    (fun os started H enc _ => lifted os started H enc)

end Go.Proofs.Ytodielfilhodeaa.fnBoxes
namespace Go.Proofs.Ytodielfilhodeaa

theorem FnBoxes_holds : Rows.FnBoxesSaid := fnBoxes.over

end Go.Proofs.Ytodielfilhodeaa
