/-
  The program's Walk and Islands.
-/
import Derived.Test.YtlggpfgamjoeaaaFg4Zz
import Derived.Test.YtlggpfgamjoeaaaFeWkZz
namespace Go.Proofs.Ytlggpfgamjoeaaa
open Go Go.RowKit

theorem walkG_ne (ms : List Mk) (ls : List (List Int)) (q : List Int) (x : Int) : walkG ms ls q x ≠ [] := by
  unfold walkG
  cases rkW ms q x with
  | zero => simp [walkF]
  | succ n => simp only [walkF]; split <;> simp
theorem dd_far {ms : List Mk} {q : List Int} (h : toldB ms q = true) : ddQ ms q = farD ms q := by
  funext x
  have hq : okB q = true := by
    simp only [toldB, Bool.and_eq_true] at h
    exact h.1.2
  have h4 := okB_len hq
  unfold ddQ farD
  rw [if_neg (by omega), farV_comm]
theorem told_web {ms : List Mk} {ls : List (List Int)} {fr : Int} {q : List Int} (h : toldW ms ls fr q = true) : LkWeb ms ls q ∧ 0 ≤ zFind ms fr ∧ ddQ ms q = farD ms q := by
  obtain ⟨h1, h2, h3⟩ := (toldW_iff _ _ _ _).1 h
  refine ⟨⟨h1, fun _ i hi => ?_⟩, h3, dd_far h2⟩
  have hm := web_marks h1
  simp only [toldB, Bool.and_eq_true, Bool.or_eq_true, decide_eq_true_eq] at h2
  obtain ⟨⟨-, hq⟩, hl⟩ := h2
  have a := (mOkAt_iff ms i).1 (marksB_at hm hi)
  have hlen : q.length = (mat ms i).length := by
    rcases hl with e | e
    · omega
    · omega
  unfold twoB
  simp [hq, a.2.2.1, hlen]

set_option maxRecDepth 100000 in
set_option maxHeartbeats 1000000 in
theorem iWalk14 : IWalk := by
  intro am cm ms al cl ls fr aq cq q w hm hl hqv hsm hcs hql hcm hcl hcq
  obtain ⟨W, hW⟩ : ∃ W, w.alloc (.cells #[.slice am ms.length cm, .slice al ls.length cl] 27) = W := ⟨_, rfl⟩
  have hB : Below w.heap.size w W := by rw [← hW]; exact (Below.refl _ _).alloc (Nat.le_refl _) _
  have hI : WebIn W w.heap.size am cm ms al cl ls := by rw [← hW]; exact WebIn.box hm hl
  have HML := hidP (iMayLook am al aq cm cl cq ms ls fr q W hI.mv hI.cv (hqv.next hB) hsm hcs hql hcm hcl)
  have HB := hidP hB
  have HI := hidP hI
  have HQ := hidP (hqv.next hB)
  have k0 := hI.c0
  have k1 := hI.c1
  clear hm hl hB hI hsm hcs hqv
  rcases ht : toldW ms ls fr q with _ | _
  · have HV : Hid (walkL ms ls fr q = []) := by show _ = _; simp [walkL, ht]
    rw [ht] at HML
    rw [HV.out]
    clear ht
    go_enter Try.func11, Try.ntmps11
    go_wp2_with fail
    refine HML.out.mono ?_
    rintro e w1 ⟨rfl, L1⟩
    have HL1 := hidP (chain HB.out L1)
    clear L1
    go_wp2_with fail
    go_ret
    exact ⟨none, 0, rfl, Or.inl ⟨rfl, rfl⟩, HL1.out⟩
  · obtain ⟨hw, hf, hdd⟩ := told_web ht
    have HV : Hid (walkL ms ls fr q = walkG ms ls q fr) := by show _ = _; simp [walkL, ht]
    rw [ht] at HML
    have HWF := hidP (And.intro hw (And.intro hf hdd))
    clear ht hw hf hdd
    go_enter Try.func11, Try.ntmps11
    go_wp2_with fail
    refine HML.out.mono ?_
    rintro e w1 ⟨rfl, L1⟩
    have hI1 := HI.out.below L1
    have HL1 := hidP (chain HB.out L1)
    have HLO := hidP (iLooked14 am al aq cm cl cq ms ls fr q 1 w1 ⟨hI1.mv, hI1.cv, HQ.out.next L1⟩ HWF.out.1 HWF.out.2.1)
    clear L1 k0 k1 hW
    have k0 := hI1.c0
    have k1 := hI1.c1
    clear hI1
    go_wp2_with fail
    refine HLO.out.mono ?_
    rintro e w2 ⟨G, rfl, s2, op2, hto, hend, as2, cs2, vs2, ao2, co2, hg⟩
    rw [HWF.out.2.2] at hto
    have HOP : Hid (walkL ms ls fr q = op2) := by show _ = _; rw [HV.out]; exact look_walk HWF.out.1.web HWF.out.2.1 hto hend
    obtain ⟨-, -, -, -, g4⟩ := hg.five.cells
    have HG := hidP hg
    clear hto hend hg k0 k1
    go_wp2_with fail
    go_ret
    have hL := HL1.out
    have hg := HG.out
    rw [HOP.out]
    refine ⟨ao2, co2, rfl, ?_, hL.trans (hg.bel.mono hL.size)⟩
    have hrow := hg.opr
    by_cases h0 : 0 < op2.length
    · obtain ⟨g, e, -, -, -⟩ := own_cell hrow (by rw [numC_len]; exact h0)
      subst e
      refine Or.inr ⟨g, co2, rfl, ?_⟩
      obtain ⟨h1, h2⟩ := hrow
      refine ⟨h1, ?_⟩
      rcases h2 with ⟨e1, e2⟩ | ⟨g', cp, cur, e1, hb, h5⟩
      · omega
      · exact Or.inr ⟨g', cp, cur, e1, Nat.le_trans hL.size hb, h5⟩
    · obtain rfl : op2 = [] := List.length_eq_zero_iff.1 (by omega)
      exact absurd HOP.out (by
        rw [HV.out]
        intro e
        have := walkG_ne ms ls q fr
        exact this e)
end Go.Proofs.Ytlggpfgamjoeaaa
