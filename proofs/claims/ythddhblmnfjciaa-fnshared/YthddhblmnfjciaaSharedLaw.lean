/-
  For every code: in the box that two share is just what is in both.
-/
import Derived.Test.YthddhblmnfjciaaPrS
import Derived.Test.YthddhblmnfjciaaBytes
import Derived.Test.YthddhblmnfjciaaMDraw2
namespace Go.Proofs.Ythddhblmnfjciaa.fnShared
open Go.ChangeShapes Go.WideShapes Go.ChangeAt Go.RowKit
set_option linter.unusedVariables false

theorem own : ownKnob Try.prog.godebug = none := by kernel_rfl
theorem laidOut : laidOutB Try.prog = true := by kernel_rfl

set_option maxRecDepth 100000 in
set_option maxHeartbeats 4000000 in
theorem walk (ao0 : Option Addr) (len0 cap0 : Nat) (w : World) (hv0 : CodeV w ao0 len0) (hn0 : len0 ≤ maxLen) :
    Calls Try.prog 13 #[.slice ao0 len0 cap0] w fun e w' => e = .returned (.bool true) ∧ Below w.heap.size w w' := by
  unfold maxLen at hn0
  by_cases hbig : 4096 < len0
  · go_enter Try.func13, Try.ntmps13
    go_wp2_with (go_at_call 57; refine (bigC _ _ _ _).mono ?_; rintro e w' ⟨rfl, rfl⟩)
    go_ret
    exact ⟨rfl, Below.refl _ _⟩
  have hn : len0 ≤ 4096 := by omega
  have hbb : decide (4096 < (len0 : Int)) = false := by simp; omega
  clear hn0 hbig
  have HCV := hidP hv0
  clear hv0
  go_enter Try.func13, Try.ntmps13
  go_wp2_with fail
  refine (bigC _ _ _ _).mono ?_
  rintro e wa ⟨rfl, hu0⟩
  subst hu0
  rw [hbb]
  go_wp2_with fail
  refine (cShared ao0 len0 cap0 _ HCV.out hn).mono ?_
  rintro e w1 ⟨v1, v2, u1, u2, lo, hi, lo', hi', base, rfl, o1, o2, o3, o4, l1, l2, l3, l4, L1⟩
  obtain ⟨a1, c1, rfl, va1⟩ := o1.view
  obtain ⟨a2, c2, rfl, va2⟩ := o2.view
  obtain ⟨b1, d1, rfl, vb1⟩ := o3.view
  obtain ⟨b2, d2, rfl, vb2⟩ := o4.view
  clear o1 o2 o3 o4
  obtain ⟨W1, hW1⟩ : ∃ W1, W1 = (w1.alloc (.cells #[.slice a1 lo.length c1, .slice a2 hi.length c2] 75)).alloc (.cells #[.slice b1 lo'.length d1, .slice b2 hi'.length d2] 75) := ⟨_, rfl⟩
  have hA1 : Below w1.heap.size w1 W1 := by rw [hW1]; exact below_alloc (alloc_below w1 _) _
  have HP : Hid (PrS W1 w1.heap.size (w1.heap.size + 1) a1 a2 b1 b2 c1 c2 d1 d2 lo hi lo' hi') := ⟨by rw [hW1]; exact Two.made0.alloc _, by rw [hW1]; exact Two.made1, va1.next hA1, va2.next hA1, vb1.next hA1, vb2.next hA1⟩
  have HL := hidP (chain L1 hA1)
  have HI := hidP (iShared a1 a2 b1 b2 c1 c2 d1 d2 lo hi lo' hi' W1 HP.out.2.2.1 HP.out.2.2.2.1 HP.out.2.2.2.2.1 HP.out.2.2.2.2.2 (by omega) (by omega) (by omega) (by omega))
  obtain ⟨rl, hrl⟩ : ∃ rl, rl = (sharedV (lo, hi) (lo', hi')).1 := ⟨_, rfl⟩
  obtain ⟨rh, hrh⟩ : ∃ rh, rh = (sharedV (lo, hi) (lo', hi')).2 := ⟨_, rfl⟩
  obtain ⟨sb, hsb⟩ : ∃ sb, sb = shOkB (lo, hi) (lo', hi') := ⟨_, rfl⟩
  have nrl : rl.length ≤ 4 := by rw [hrl]; exact (shared_short _ _).1
  have nrh : rh.length ≤ 4 := by rw [hrh]; exact (shared_short _ _).2
  have HRS : Hid (sharedV (lo, hi) (lo', hi') = (rl, rh)) := by show _ = _; rw [hrl, hrh]
  have HSB := hidP hsb
  rw [← hrl, ← hrh, ← hsb] at HI
  have q0 := HP.out.1.c0
  have q1 := HP.out.1.c1
  have q2 := HP.out.2.1.c0
  have q3 := HP.out.2.1.c1
  rw [hW1] at q0 q1 q2 q3
  have HRL := hidP hrl
  have HRH := hidP hrh
  clear va1 va2 vb1 vb2 L1 hA1 hrl hrh hsb
  go_wp2_with fail
  rw [← hW1] at *
  clear hW1
  refine HI.out.mono ?_
  rintro e w2 ⟨x1, e1, x2, e2, rfl, y1, y2, _, L2⟩
  clear q0 q1 q2 q3 HI
  obtain ⟨W2, hW2⟩ : ∃ W2, W2 = w2.alloc (.cells #[.slice x1 rl.length e1, .slice x2 rh.length e2] 75) := ⟨_, rfl⟩
  have hA2 : Below w2.heap.size w2 W2 := by rw [hW2]; exact alloc_below w2 _
  have HR : Hid (PrR W2 w2.heap.size x1 x2 e1 e2 rl rh) := ⟨by rw [hW2]; exact Two.made0, (y1.below hA2).slice, (y2.below hA2).slice⟩
  have HP' := hidP (HP.out.below (chain L2 hA2))
  have HL' := hidP (chain HL.out (chain L2 hA2))
  clear HP HL
  have HP := HP'
  have HL := HL'
  clear HP' HL'
  have HI := hidP (sShared a1 a2 b1 b2 c1 c2 d1 d2 lo hi lo' hi' W2 HP.out.2.2.1 HP.out.2.2.2.1 HP.out.2.2.2.2.1 HP.out.2.2.2.2.2 (by omega) (by omega) (by omega) (by omega))
  rw [← HRL.out, ← HRH.out, ← HSB.out] at HI
  have q0 := HP.out.1.c0
  have q1 := HP.out.1.c1
  have q2 := HP.out.2.1.c0
  have q3 := HP.out.2.1.c1
  rw [hW2] at q0 q1 q2 q3
  clear y1 y2 L2 hA2
  go_wp2_with fail
  rw [← hW2] at *
  clear hW2
  refine HI.out.mono ?_
  rintro e w3 ⟨x3, e3, x4, e4, rfl, y3, y4, L3⟩
  clear q0 q1 q2 q3 HI
  obtain ⟨W3, hW3⟩ : ∃ W3, W3 = w3.alloc (.cells #[.slice x3 rl.length e3, .slice x4 rh.length e4] 75) := ⟨_, rfl⟩
  have hA3 : Below w3.heap.size w3 W3 := by rw [hW3]; exact alloc_below w3 _
  have t3 : Two W3 w3.heap.size (.slice x3 rl.length e3) (.slice x4 rh.length e4) 75 := by rw [hW3]; exact Two.made0
  have HP' := hidP (HP.out.below (chain L3 hA3))
  have HR' := hidP (HR.out.below (chain L3 hA3))
  have HL' := hidP (chain HL.out (chain L3 hA3))
  clear HP HR HL
  have HP := HP'
  have HR := HR'
  have HL := HL'
  clear HP' HR' HL'
  have HQ := hidP (likeX x1 x2 x3 x4 e1 e2 e3 e4 rl rh rl rh W3 HR.out.2.1 HR.out.2.2 (y3.below hA3).slice (y4.below hA3).slice (by omega) (by omega))
  have ht : (decide (rl = rl) && decide (rh = rh)) = true := by simp
  have hsbb : (sb != sb) = false := by simp
  have q0 := HR.out.1.c0
  have q1 := HR.out.1.c1
  have q2 := t3.c0
  have q3 := t3.c1
  rw [hW3] at q0 q1 q2 q3
  clear y3 y4 L3 hA3 t3
  go_wp2_with fail
  rw [← hW3] at *
  clear hW3
  refine HQ.out.mono ?_
  rintro e w4 ⟨rfl, L4⟩
  clear q0 q1 q2 q3 HQ
  have HP' := hidP (HP.out.below L4)
  have HR' := hidP (HR.out.below L4)
  have HL' := hidP (chain HL.out L4)
  clear HP HR HL
  have HP := HP'
  have HR := HR'
  have HL := HL'
  clear HP' HR' HL'
  clear L4
  have q0 := HP.out.1.c0
  have q1 := HP.out.1.c1
  have HI := hidP (iBoxOk a1 a2 c1 c2 lo hi w4 HP.out.2.2.1 HP.out.2.2.2.1 (by omega) (by omega))
  rcases ha : boxB (lo, hi) with _ | _
  · rw [ha] at HI
    have hsf : sb = false := by rw [HSB.out]; exact sh_not (Or.inl ha)
    subst hsf
    go_wp2_with fail
    refine HI.out.mono ?_
    rintro e w5 ⟨rfl, L5⟩
    go_wp2_with fail
    go_ret
    exact ⟨rfl, chain HL.out L5⟩
  rw [ha] at HI
  go_wp2_with fail
  refine HI.out.mono ?_
  rintro e w5 ⟨rfl, L5⟩
  clear q0 q1 HI
  have HP' := hidP (HP.out.below L5)
  have HR' := hidP (HR.out.below L5)
  have HL' := hidP (chain HL.out L5)
  clear HP HR HL
  have HP := HP'
  have HR := HR'
  have HL := HL'
  clear HP' HR' HL'
  clear L5
  have q2 := HP.out.2.1.c0
  have q3 := HP.out.2.1.c1
  have HI := hidP (iBoxOk b1 b2 d1 d2 lo' hi' w5 HP.out.2.2.2.2.1 HP.out.2.2.2.2.2 (by omega) (by omega))
  rcases hb : boxB (lo', hi') with _ | _
  · rw [hb] at HI
    have hsf : sb = false := by rw [HSB.out]; exact sh_not (Or.inr (Or.inl hb))
    subst hsf
    go_wp2_with fail
    refine HI.out.mono ?_
    rintro e w6 ⟨rfl, L6⟩
    go_wp2_with fail
    go_ret
    exact ⟨rfl, chain HL.out L6⟩
  rw [hb] at HI
  go_wp2_with fail
  refine HI.out.mono ?_
  rintro e w6 ⟨rfl, L6⟩
  clear q2 q3 HI
  have HP' := hidP (HP.out.below L6)
  have HR' := hidP (HR.out.below L6)
  have HL' := hidP (chain HL.out L6)
  clear HP HR HL
  have HP := HP'
  have HR := HR'
  have HL := HL'
  clear HP' HR' HL'
  clear L6
  have q0 := HP.out.1.c0
  have q2 := HP.out.2.1.c0
  by_cases hlen : lo.length = lo'.length
  case neg =>
    have hlb : ((lo.length : Int) != (lo'.length : Int)) = true := by simp; omega
    have hsf : sb = false := by rw [HSB.out]; exact sh_not (Or.inr (Or.inr hlen))
    subst hsf
    clear hlen
    go_wp2_with fail
    go_ret
    exact ⟨rfl, HL.out⟩
  have hlb : ((lo.length : Int) != (lo'.length : Int)) = false := by simp; omega
  have HIN : Hid (∀ p, (insideB (lo, hi) p && insideB (lo', hi') p) = (sb && insideB (rl, rh) p)) := fun p => by rw [shared_inside p ha hb hlen, ← HSB.out, HRS.out]
  have hlo4 : lo.length ≤ 4 := (okB_len (twoB_of (boxB_two ha)).1).2
  clear hlen
  go_wp2_with fail
  clear q0 q2
  go_loopw [9] (fun i wr => ∃ k : Nat, k ≤ 10 ∧ i = .int .i64 k ∧ PrS wr w1.heap.size (w1.heap.size + 1) a1 a2 b1 b2 c1 c2 d1 d2 lo hi lo' hi' ∧ PrR wr w2.heap.size x1 x2 e1 e2 rl rh ∧ Below w.heap.size w wr) (fun i _ => 10 - (intOf i).toNat)
  case atStart => exact ⟨0, by omega, rfl, HP.out, HR.out, HL.out⟩
  case round =>
    obtain ⟨k, hk, rfl, hp, hr, hl⟩ := hrel
    clear HP HR HL
    have HP := hidP hp
    have HR := hidP hr
    have HL := hidP hl
    clear hp hr hl
    by_cases hlt : k < 10
    · have q0 := HP.out.1.c0
      have HT := hidP (pointW ao0 len0 cap0 lo.length (30 * (k : Int)) wr (HCV.out.below (Nat.le_refl _) HL.out) hn (by omega) (by omega) (by omega))
      have hmw : IntKind.i64.wrap (30 * (k : Int)) = 30 * (k : Int) := IntWalk.i64_in _ ⟨by omega, by omega⟩
      go_wp2_with fail
      refine HT.out.mono ?_
      rintro e w7 ⟨g, c, ps, rfl, hps, _, vp, L7⟩
      clear q0 HT
      have HP' := hidP (HP.out.below L7)
      have HR' := hidP (HR.out.below L7)
      have HL' := hidP (chain HL.out L7)
      clear HP HR HL
      have HP := HP'
      have HR := HR'
      have HL := HL'
      clear HP' HR' HL'
      have HVP := hidP vp
      have HLP := hidP hps
      clear L7 vp hps
      have q0 := HP.out.1.c0
      have q1 := HP.out.1.c1
      have HA := hidP (iInside a1 a2 (some ⟨g, 0, none⟩) c1 c2 c lo hi ps w7 HP.out.2.2.1 HP.out.2.2.2.1 HVP.out (by omega) (by omega) (by have := HLP.out; omega))
      have hEQ := HIN.out ps
      rcases hia : insideB (lo, hi) ps with _ | _
      · rw [hia] at HA hEQ
        rw [Bool.false_and] at hEQ
        have HEQ := hidP hEQ
        clear hEQ
        go_wp2_with fail
        refine HA.out.mono ?_
        rintro e w8 ⟨rfl, L8⟩
        clear q0 q1 HA
        have HP' := hidP (HP.out.below L8)
        have HR' := hidP (HR.out.below L8)
        have HL' := hidP (chain HL.out L8)
        have HVP' := hidP (HVP.out.next L8)
        clear HP HR HL HVP
        have HP := HP'
        have HR := HR'
        have HL := HL'
        have HVP := HVP'
        clear HP' HR' HL' HVP'
        clear L8
        rcases sb with _ | _
        · go_wp2_with fail
          go_roundw
          case rel => exact ⟨k + 1, by omega, by go_num, HP.out, HR.out, HL.out⟩
          case measure => simp [intOf]; omega
        · have hEQ := HEQ.out
          rw [Bool.true_and] at hEQ
          have q4 := HR.out.1.c0
          have q5 := HR.out.1.c1
          have HC := hidP (iInside x1 x2 (some ⟨g, 0, none⟩) e1 e2 c rl rh ps w8 HR.out.2.1 HR.out.2.2 HVP.out (by omega) (by omega) (by have := HLP.out; omega))
          rw [← hEQ] at HC
          clear hEQ
          go_wp2_with fail
          refine HC.out.mono ?_
          rintro e w9 ⟨rfl, L9⟩
          clear q4 q5 HC
          have HP' := hidP (HP.out.below L9)
          have HR' := hidP (HR.out.below L9)
          have HL' := hidP (chain HL.out L9)
          clear HP HR HL
          have HP := HP'
          have HR := HR'
          have HL := HL'
          clear HP' HR' HL'
          clear L9
          go_wp2_with fail
          go_roundw
          case rel => exact ⟨k + 1, by omega, by go_num, HP.out, HR.out, HL.out⟩
          case measure => simp [intOf]; omega
      · rw [hia] at HA hEQ
        rw [Bool.true_and] at hEQ
        have HEQ := hidP hEQ
        clear hEQ
        go_wp2_with fail
        refine HA.out.mono ?_
        rintro e w8 ⟨rfl, L8⟩
        clear q0 q1 HA
        have HP' := hidP (HP.out.below L8)
        have HR' := hidP (HR.out.below L8)
        have HL' := hidP (chain HL.out L8)
        have HVP' := hidP (HVP.out.next L8)
        clear HP HR HL HVP
        have HP := HP'
        have HR := HR'
        have HL := HL'
        have HVP := HVP'
        clear HP' HR' HL' HVP'
        clear L8
        have q2 := HP.out.2.1.c0
        have q3 := HP.out.2.1.c1
        have HB := hidP (iInside b1 b2 (some ⟨g, 0, none⟩) d1 d2 c lo' hi' ps w8 HP.out.2.2.2.2.1 HP.out.2.2.2.2.2 HVP.out (by omega) (by omega) (by have := HLP.out; omega))
        rw [HEQ.out] at HB
        rcases sb with _ | _
        · rw [Bool.false_and] at HB
          go_wp2_with fail
          refine HB.out.mono ?_
          rintro e w9 ⟨rfl, L9⟩
          clear q2 q3 HB
          have HP' := hidP (HP.out.below L9)
          have HR' := hidP (HR.out.below L9)
          have HL' := hidP (chain HL.out L9)
          have HVP' := hidP (HVP.out.next L9)
          clear HP HR HL HVP
          have HP := HP'
          have HR := HR'
          have HL := HL'
          have HVP := HVP'
          clear HP' HR' HL' HVP'
          clear L9
          go_wp2_with fail
          go_roundw
          case rel => exact ⟨k + 1, by omega, by go_num, HP.out, HR.out, HL.out⟩
          case measure => simp [intOf]; omega
        · rw [Bool.true_and] at HB
          go_wp2_with fail
          refine HB.out.mono ?_
          rintro e w9 ⟨rfl, L9⟩
          clear q2 q3 HB
          have HP' := hidP (HP.out.below L9)
          have HR' := hidP (HR.out.below L9)
          have HL' := hidP (chain HL.out L9)
          have HVP' := hidP (HVP.out.next L9)
          clear HP HR HL HVP
          have HP := HP'
          have HR := HR'
          have HL := HL'
          have HVP := HVP'
          clear HP' HR' HL' HVP'
          clear L9
          have q4 := HR.out.1.c0
          have q5 := HR.out.1.c1
          have HC := hidP (iInside x1 x2 (some ⟨g, 0, none⟩) e1 e2 c rl rh ps w9 HR.out.2.1 HR.out.2.2 HVP.out (by omega) (by omega) (by have := HLP.out; omega))
          have hself : (insideB (rl, rh) ps != insideB (rl, rh) ps) = false := by simp
          go_wp2_with fail
          refine HC.out.mono ?_
          rintro e w10 ⟨rfl, L10⟩
          clear q4 q5 HC
          have HP' := hidP (HP.out.below L10)
          have HR' := hidP (HR.out.below L10)
          have HL' := hidP (chain HL.out L10)
          clear HP HR HL
          have HP := HP'
          have HR := HR'
          have HL := HL'
          clear HP' HR' HL'
          clear L10
          go_wp2_with fail
          go_roundw
          case rel => exact ⟨k + 1, by omega, by go_num, HP.out, HR.out, HL.out⟩
          case measure => simp [intOf]; omega
    · have HC := hidP (iShared b1 b2 a1 a2 d1 d2 c1 c2 lo' hi' lo hi wr HP.out.2.2.2.2.1 HP.out.2.2.2.2.2 HP.out.2.2.1 HP.out.2.2.2.1 (by omega) (by omega) (by omega) (by omega))
      rw [shared_comm (lo, hi) (lo', hi'), shOk_comm (lo, hi) (lo', hi'), ← HRL.out, ← HRH.out, ← HSB.out] at HC
      have q0 := HP.out.1.c0
      have q1 := HP.out.1.c1
      have q2 := HP.out.2.1.c0
      have q3 := HP.out.2.1.c1
      go_wp2_with fail
      refine HC.out.mono ?_
      rintro e w7 ⟨z1, f1, z2, f2, rfl, y5, y6, _, L7⟩
      clear q0 q1 q2 q3 HC
      obtain ⟨W7, hW7⟩ : ∃ W7, W7 = w7.alloc (.cells #[.slice z1 rl.length f1, .slice z2 rh.length f2] 75) := ⟨_, rfl⟩
      have hA7 : Below w7.heap.size w7 W7 := by rw [hW7]; exact alloc_below w7 _
      have HZ : Hid (PrR W7 w7.heap.size z1 z2 f1 f2 rl rh) := ⟨by rw [hW7]; exact Two.made0, (y5.below hA7).slice, (y6.below hA7).slice⟩
      have HP' := hidP (HP.out.below (chain L7 hA7))
      have HR' := hidP (HR.out.below (chain L7 hA7))
      have HL' := hidP (chain HL.out (chain L7 hA7))
      clear HP HR HL
      have HP := HP'
      have HR := HR'
      have HL := HL'
      clear HP' HR' HL'
      clear L7 hA7 y5 y6
      have HLK : Hid (∀ X, Below W7.heap.size W7 X → Calls Try.prog 61 #[.agg #[.slice z1 rl.length f1, .slice z2 rh.length f2], .agg #[.slice x1 rl.length e1, .slice x2 rh.length e2]] X fun e w' => e = .returned (.bool true) ∧ Below X.heap.size X w') := fun X hX => by
        have hz := HZ.out.below hX
        have hr := HR.out.below hX
        have h := likeX z1 z2 x1 x2 f1 f2 e1 e2 rl rh rl rh X hz.2.1 hz.2.2 hr.2.1 hr.2.2 (by omega) (by omega)
        simpa using h
      have HTS : Hid (∀ X, Below W7.heap.size W7 X → Calls Try.prog 65 #[.agg #[.slice x1 rl.length e1, .slice x2 rh.length e2], .slice a1 lo.length c1] X fun e w' => e = .returned (.int .i64 (toBoxV (rl, rh) lo)) ∧ Below X.heap.size X w') := fun X hX =>
        iToBox x1 x2 a1 e1 e2 c1 rl rh lo X (HR.out.below hX).2.1 (HR.out.below hX).2.2 (HP.out.below hX).2.2.1 (by omega) (by omega) (by omega)
      have HTB : Hid (∀ X, Below W7.heap.size W7 X → Calls Try.prog 65 #[.agg #[.slice b1 lo'.length d1, .slice b2 hi'.length d2], .slice a1 lo.length c1] X fun e w' => e = .returned (.int .i64 (toBoxV (lo', hi') lo)) ∧ Below X.heap.size X w') := fun X hX =>
        iToBox b1 b2 a1 d1 d2 c1 lo' hi' lo X (HP.out.below hX).2.2.2.2.1 (HP.out.below hX).2.2.2.2.2 (HP.out.below hX).2.2.1 (by omega) (by omega) (by omega)
      have SK : Hid (∀ X, Below W7.heap.size W7 X → ((X.cell? ⟨w7.heap.size, 0, none⟩ = some (.slice z1 rl.length f1) ∧ X.cell? ⟨w7.heap.size, 1, none⟩ = some (.slice z2 rh.length f2)) ∧ (X.cell? ⟨w2.heap.size, 0, none⟩ = some (.slice x1 rl.length e1) ∧ X.cell? ⟨w2.heap.size, 1, none⟩ = some (.slice x2 rh.length e2)) ∧ X.cell? ⟨w1.heap.size, 0, none⟩ = some (.slice a1 lo.length c1) ∧ X.cell? ⟨w1.heap.size + 1, 0, none⟩ = some (.slice b1 lo'.length d1) ∧ X.cell? ⟨w1.heap.size + 1, 1, none⟩ = some (.slice b2 hi'.length d2))) := fun X hX =>
        ⟨⟨(HZ.out.below hX).1.c0, (HZ.out.below hX).1.c1⟩, ⟨(HR.out.below hX).1.c0, (HR.out.below hX).1.c1⟩, (HP.out.below hX).1.c0, (HP.out.below hX).2.1.c0, (HP.out.below hX).2.1.c1⟩
      rcases sb with _ | _
      · go_wp2_with fail
        rw [← hW7]
        clear hW7
        refine wp_region_takes (S := fun X => ((X.cell? ⟨w7.heap.size, 0, none⟩ = some (.slice z1 rl.length f1) ∧ X.cell? ⟨w7.heap.size, 1, none⟩ = some (.slice z2 rh.length f2)) ∧ (X.cell? ⟨w2.heap.size, 0, none⟩ = some (.slice x1 rl.length e1) ∧ X.cell? ⟨w2.heap.size, 1, none⟩ = some (.slice x2 rh.length e2)) ∧ X.cell? ⟨w1.heap.size, 0, none⟩ = some (.slice a1 lo.length c1) ∧ X.cell? ⟨w1.heap.size + 1, 0, none⟩ = some (.slice b1 lo'.length d1) ∧ X.cell? ⟨w1.heap.size + 1, 1, none⟩ = some (.slice b2 hi'.length d2))) (fuel := 18) [0, 1, 2, 3, 4, 5] (by kernel_rfl) (by kernel_rfl) (by kernel_rfl) (by kernel_rfl) (SK.out _ (Below.refl _ _).drew) (fun hS => ?_)
        iterate 6
          refine ⟨_, rfl, ?_⟩
          first
            | refine ⟨undef, Or.inr ⟨by rfl, rfl⟩, ?_⟩
            | (apply Exists.intro
               refine ⟨Or.inl ⟨by rfl, fun w' hw' => ?_⟩, ?_⟩
               · first
                 | (go_simp; done)
                 | (go_simp; with_reducible rfl))
          simp only [Act.put, List.getElem_toArray, List.getElem_cons_succ, List.getElem_cons_zero, List.setIfInBounds_toArray, List.set_cons_zero, List.set_cons_succ]
        refine calm_one 6 (by kernel_rfl) rfl (fun K hK => ?_)
        go_simp
        refine (HLK.out _ (Below.refl _ _).drew).mono ?_
        rintro e wk ⟨rfl, Lk⟩
        have Lk' := below_drew' Lk
        refine hK.out _ _ (SK.out _ Lk') (fun _ => ?_)
        clear hK K
        refine calm_rest [7, 8, 9, 10, 11, 12, 13, 14, 15, 16, 17, 18, 19, 20, 21, 22, 23] (by kernel_rfl) (by kernel_rfl) (by kernel_rfl) (by kernel_rfl) (SK.out _ Lk') ?_
        iterate 17
          refine ⟨_, rfl, ?_⟩
          first
            | refine ⟨undef, Or.inr ⟨by rfl, rfl⟩, ?_⟩
            | (apply Exists.intro
               refine ⟨Or.inl ⟨by rfl, fun w' hw' => ?_⟩, ?_⟩
               · first
                 | (go_simp; done)
                 | (go_simp; with_reducible rfl))
          simp only [Act.put, List.getElem_toArray, List.getElem_cons_succ, List.getElem_cons_zero, List.setIfInBounds_toArray, List.set_cons_zero, List.set_cons_succ]
        refine NoPanic.normal ?_
        refine NoPanic.normal ?_
        go_wp2_with fail
        go_ret
        exact ⟨rfl, chain HL.out Lk'⟩
      · have hge : toBoxV (rl, rh) lo ≥ toBoxV (lo', hi') lo := by
          have h := shared_toBox (a := (lo, hi)) (b := (lo', hi')) HSB.out.symm
          rw [HRS.out] at h
          exact h
        have HGE := hidP hge
        obtain ⟨tv, htv⟩ : ∃ tv, tv = toBoxV (rl, rh) lo := ⟨_, rfl⟩
        obtain ⟨tu, htu⟩ : ∃ tu, tu = toBoxV (lo', hi') lo := ⟨_, rfl⟩
        rw [← htv] at HTS hge
        rw [← htu] at HTB hge
        clear htv htu HGE
        go_wp2_with fail
        rw [← hW7]
        clear hW7
        go_region_held3 (fun X => ((X.cell? ⟨w7.heap.size, 0, none⟩ = some (.slice z1 rl.length f1) ∧ X.cell? ⟨w7.heap.size, 1, none⟩ = some (.slice z2 rh.length f2)) ∧ (X.cell? ⟨w2.heap.size, 0, none⟩ = some (.slice x1 rl.length e1) ∧ X.cell? ⟨w2.heap.size, 1, none⟩ = some (.slice x2 rh.length e2)) ∧ X.cell? ⟨w1.heap.size, 0, none⟩ = some (.slice a1 lo.length c1) ∧ X.cell? ⟨w1.heap.size + 1, 0, none⟩ = some (.slice b1 lo'.length d1) ∧ X.cell? ⟨w1.heap.size + 1, 1, none⟩ = some (.slice b2 hi'.length d2)))
          (first
            | (refine SK.out _ ?_; (repeat' (first | (with_reducible exact Below.refl _ _) | (with_reducible refine Below.drew ?_) | (with_reducible refine below_alloc ?_ _) | (with_reducible refine chain ?_ Ln) | (with_reducible refine chain ?_ Lm) | (with_reducible refine chain ?_ Lk))))
            | go_keep)
          (first
            | (go_at_call 61; refine (HLK.out _ (by (repeat' (first | (with_reducible exact Below.refl _ _) | (with_reducible refine Below.drew ?_) | (with_reducible refine below_alloc ?_ _))) <;> fail)).mono ?_; rintro e wk ⟨rfl, Lk⟩)
            | (go_at_call_of 65 (Value.slice x1 rl.length e1); refine (HTS.out _ (by (repeat' (first | (with_reducible exact Below.refl _ _) | (with_reducible refine Below.drew ?_) | (with_reducible refine below_alloc ?_ _) | (with_reducible refine chain ?_ Lk))) <;> fail)).mono ?_; rintro e wm ⟨rfl, Lm⟩)
            | (go_at_call_of 65 (Value.slice b1 lo'.length d1); refine (HTB.out _ (by (repeat' (first | (with_reducible exact Below.refl _ _) | (with_reducible refine Below.drew ?_) | (with_reducible refine below_alloc ?_ _) | (with_reducible refine chain ?_ Lm) | (with_reducible refine chain ?_ Lk))) <;> fail)).mono ?_; rintro e wn ⟨rfl, Ln⟩))
        all_goals
          go_wp2_with fail
          go_ret
          exact ⟨rfl, chain HL.out (by (repeat' (first | (with_reducible exact Below.refl _ _) | (with_reducible refine Below.drew ?_) | (with_reducible refine below_alloc ?_ _) | (with_reducible refine chain ?_ Ln) | (with_reducible refine chain ?_ Lm) | (with_reducible refine chain ?_ Lk))) <;> fail)⟩

set_option maxRecDepth 100000 in
theorem lifted (os : Os) (started : os.Started) (H : Type) (enc : TypeId × Value → H) :
    ReturnsInHanded {} Try.checked os 13 .any (Rows.fnSharedSpec.pre6 enc Try.prog Try.f13 Rows.fnSharedRow.domain false) (Rows.fnSharedSpec.post enc Try.prog Try.f13 false true false false) := by
  refine returnsInHanded_of_change (C := Try.checked) own started (by kernel_rfl) Try.func13
    (ChangeSpec.witness6 (enc := enc) (C := Try.checked) false ⟨#[], #[.slice none 0 0], []⟩ 8 (by kernel_rfl) (by kernel_rfl) (by kernel_rfl) (by kernel_rfl)) ?_
  intro W base args ds gs before hval0 hW hcnd _
  have hval : ∀ (j : Nat) t v, Try.f13.params[j]? = some t → args[j]? = some v → Value.okWide Try.prog W .any base t v := hval0
  have hW' := hW
  obtain ⟨p, q, hA0, hV, rfl, hfz, hnd⟩ := hW
  have hA : DataW.TrodAll enc Try.prog W 0 (fun _ => true) true Try.f13.params.toList args.toList ds p := hA0
  rw [Try.params13] at hA hval
  obtain ⟨v0, vs0, d0, ds0, p0, q0, hargs, rfl, rfl, h0, r0⟩ := trodAll_cons hA
  obtain ⟨rfl, rfl, rfl⟩ := trodAll_nil r0
  obtain rfl : args = #[v0] := by cases args; simp_all
  obtain ⟨rfl, rfl⟩ := trodVars_none hV
  obtain ⟨a0, len0, cap0, rfl⟩ := okWide_slice Try.underlying72 (hval 0 72 v0 rfl rfl)
  have k0 := h0
  have lt0 : ∀ x ∈ p0, x.block < W.heap.size := by obtain ⟨m, hm⟩ := k0; exact DataW.trod_lt m _ _ _ hm
  obtain ⟨hv0, hn0⟩ := (by obtain ⟨fuel, hf⟩ := h0; exact code_view hf : CodeV W a0 len0 ∧ len0 ≤ maxLen)
  clear hA0 hval0
  refine (walk a0 len0 cap0 W hv0 hn0).mono fun e W' ⟨he, bel⟩ => ?_
  subst he
  exact ⟨_, rfl, _, _, _, [], _, [], hW', trodAll_mk1 (shut_bool Try.underlying4 _), (trodAll_cons_mk (Below.trod laidOut (by kernel_rfl) (of_decide_eq_true (by kernel_rfl)) k0 bel lt0) trodAll_mk0), rfl, bel.frame _, fun h => by cases h⟩

theorem over : Rows.fnSharedRow.holds Try.pinned (OpenSpec.ofChange Rows.fnSharedSpec) :=
  OpenClaim.holds_of_wide 13 Try.f13 rfl rfl rfl rfl rfl rfl rfl ⟨rfl, rfl, rfl, rfl, rfl⟩ rfl rfl rfl rfl rfl (by kernel_rfl) Try.func13 (by kernel_rfl)
    (of_decide_eq_true (by kernel_rfl)) (by unfold Func.isWrapper; first | (rw [if_pos (by decide +kernel)]; kernel_rfl) | (rw [if_neg (by decide +kernel)]; exact ⟨rfl, rfl⟩))
    (fun os started H enc _ => lifted os started H enc)

end Go.Proofs.Ythddhblmnfjciaa.fnShared
namespace Go.Proofs.Ythddhblmnfjciaa

theorem FnShared_holds : Rows.FnSharedSaid := fnShared.over

end Go.Proofs.Ythddhblmnfjciaa
