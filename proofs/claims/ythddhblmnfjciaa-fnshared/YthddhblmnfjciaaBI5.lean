/-
  The program's own Shared.
-/
import Derived.Test.YthddhblmnfjciaaBI2
import Derived.Test.YthddhblmnfjciaaBMark2
import Derived.Test.YthddhblmnfjciaaGrown
import Derived.Test.YthddhblmnfjciaaFresh
import Derived.Deep.CutRange
namespace Go.Proofs.Ythddhblmnfjciaa
open Go Go.RowKit

theorem sh_no1 {a b : Bx} (h : boxB a = false) : shOkB a b = false := by simp [shOkB, h]
theorem sh_no2 {a b : Bx} (ha : boxB a = true) (h : toldX b a.1 = false) : shOkB a b = false := by
  rcases hb : boxB b with _ | _
  · simp [shOkB, hb]
  · have ht : twoB b.1 a.1 = false := by simpa [toldX, hb] using h
    have o1 := (twoB_of (boxB_two ha)).1
    have o2 := (twoB_of (boxB_two hb)).1
    have hl : ¬ a.1.length = b.1.length := fun e => by rw [twoB_true o2 o1 e.symm] at ht; cases ht
    simp [shOkB, hl]
theorem sh_yes {a b : Bx} (ha : boxB a = true) (h : toldX b a.1 = true) : shOkB a b = boxB (shBox a b) := by
  obtain ⟨hb, ht⟩ := toldX_of h
  have hl : a.1.length = b.1.length := (twoB_of ht).2.2.symm
  simp [shOkB, ha, hb, hl]
theorem shared_no {a b : Bx} (h : shOkB a b = false) : sharedV a b = ([], []) := by simp [sharedV, h]
theorem shared_yes {a b : Bx} (h : shOkB a b = true) : sharedV a b = shBox a b := by simp [sharedV, h]
theorem sh_low (a b : Bx) (n : Nat) : tabL (fun k => max (nth b.1 k) (nth a.1 k)) n = tabL (shLow a b) n := tabL_congr _ _ _ fun k _ => by unfold shLow maxV; omega
theorem sh_high (a b : Bx) (n : Nat) : tabL (fun k => min (nth b.2 k) (nth a.2 k)) n = tabL (shHigh a b) n := tabL_congr _ _ _ fun k _ => by unfold shHigh; omega
theorem shared_short (a b : Bx) : (sharedV a b).1.length ≤ 4 ∧ (sharedV a b).2.length ≤ 4 := by
  rcases h : shOkB a b with _ | _
  · rw [shared_no h]; simp
  · rw [shared_yes h]
    have ha : boxB a = true := by
      rcases hb : boxB a with _ | _
      · rw [sh_no1 hb] at h; cases h
      · rfl
    have := okB_len (twoB_of (boxB_two ha)).1
    unfold shBox
    simp only [tabL_length]
    exact ⟨this.2, this.2⟩

theorem Two.alloc {w : World} {p : Nat} {u v : Value} {t : TypeId} (h : Two w p u v t) (o : Obj) : Two (w.alloc o) p u v t := h.below (alloc_below w o)
theorem Two.drew {w : World} {p : Nat} {u v : Value} {t : TypeId} (h : Two w p u v t) : Two w.drew p u v t := h
theorem Two.made {w : World} {p : Nat} {u v : Value} {t : TypeId} (h : w.heap.size = p) : Two (w.alloc (.cells #[u, v] t)) p u v t := by subst h; exact Two.new w u v t

theorem Two.made0 {w : World} {u v : Value} {t : TypeId} : Two (w.alloc (.cells #[u, v] t)) w.heap.size u v t := Two.new w u v t
theorem Two.made1 {w : World} {o : Obj} {u v : Value} {t : TypeId} : Two ((w.alloc o).alloc (.cells #[u, v] t)) (w.heap.size + 1) u v t := Two.made (by simp)
theorem Two.made2 {w : World} {o o' : Obj} {u v : Value} {t : TypeId} : Two (((w.alloc o).alloc o').alloc (.cells #[u, v] t)) (w.heap.size + 1 + 1) u v t := Two.made (by simp)
theorem with_fact {p q : Prop} (hp : p) (h : p → q) : q := h hp
/-- A box that a region leaves: its block D and its two rows. -/
def BoxMade (base : Nat) (w : World) (D g1 c1 g2 c2 n : Nat) (lo hi : List Int) : Prop :=
  Two w D (.slice (some ⟨g1, 0, none⟩) n c1) (.slice (some ⟨g2, 0, none⟩) n c2) 75 ∧ IRow base w g1 c1 lo ∧ IRow base w g2 c2 hi ∧ g1 ≠ g2 ∧ D ≠ g1 ∧ D ≠ g2 ∧ base ≤ D

theorem boxMade_alloc {base : Nat} {w3 w5 : World} {g1 e1 g2 e2 n : Nat} {lo hi : List Int} (r1 : IRow base w5 g1 e1 lo) (r2 : IRow base w5 g2 e2 hi) (ne : g1 ≠ g2) (hs : base ≤ w5.heap.size) (hb : Below base w3 w5) :
    ∃ D' g1' e1' g2' e2', Value.pointer (some ⟨w5.heap.size, 0, none⟩) = .pointer (some ⟨D', 0, none⟩) ∧ BoxMade base (w5.alloc (.cells #[.slice (some ⟨g1, 0, none⟩) n e1, .slice (some ⟨g2, 0, none⟩) n e2] 75)) D' g1' e1' g2' e2' n lo hi ∧ Below base w3 (w5.alloc (.cells #[.slice (some ⟨g1, 0, none⟩) n e1, .slice (some ⟨g2, 0, none⟩) n e2] 75)) :=
  ⟨w5.heap.size, g1, e1, g2, e2, rfl, ⟨Two.new w5 _ _ _, r1.below (alloc_below w5 _), r2.below (alloc_below w5 _), ne, Nat.ne_of_gt r1.lt.2, Nat.ne_of_gt r2.lt.2, hs⟩, hb.alloc hs _⟩
theorem boxMade_set {base : Nat} {w3 w5 : World} {D g1 e1 g2 e2 n : Nat} {u v : Value} {lo hi : List Int} (hD : Two w5 D u v 75) (r1 : IRow base w5 g1 e1 lo) (r2 : IRow base w5 g2 e2 hi) (ne : g1 ≠ g2) (n1 : D ≠ g1) (n2 : D ≠ g2) (hs : base ≤ D) (hb : Below base w3 w5) :
    ∃ D' g1' e1' g2' e2', Value.pointer (some ⟨D, 0, none⟩) = .pointer (some ⟨D', 0, none⟩) ∧ BoxMade base ((w5.setCell ⟨D, 0, none⟩ (.slice (some ⟨g1, 0, none⟩) n e1)).setCell ⟨D, 1, none⟩ (.slice (some ⟨g2, 0, none⟩) n e2)) D' g1' e1' g2' e2' n lo hi ∧ Below base w3 ((w5.setCell ⟨D, 0, none⟩ (.slice (some ⟨g1, 0, none⟩) n e1)).setCell ⟨D, 1, none⟩ (.slice (some ⟨g2, 0, none⟩) n e2)) :=
  ⟨D, g1, e1, g2, e2, rfl, ⟨(hD.set0 _).set1 _, (r1.kept (grown_setCell _ D 0 _) (fun e => n1 (Option.some.inj e).symm)).kept (grown_setCell _ D 1 _) (fun e => n1 (Option.some.inj e).symm), (r2.kept (grown_setCell _ D 0 _) (fun e => n2 (Option.some.inj e).symm)).kept (grown_setCell _ D 1 _) (fun e => n2 (Option.some.inj e).symm), ne, n1, n2, hs⟩, set_below (set_below hb hs _) hs _⟩

set_option maxRecDepth 100000 in
set_option maxHeartbeats 4000000 in
theorem iShared (a1 a2 b1 b2 : Option Addr) (c1 c2 d1 d2 : Nat) (lo hi lo' hi' : List Int) (w : World) (h1 : View w a1 lo) (h2 : View w a2 hi) (h3 : View w b1 lo') (h4 : View w b2 hi') (n1 : lo.length ≤ 1048576) (n2 : hi.length ≤ 1048576) (n3 : lo'.length ≤ 1048576) (n4 : hi'.length ≤ 1048576) :
    Calls Try.prog 59 #[.agg #[.slice a1 lo.length c1, .slice a2 hi.length c2], .agg #[.slice b1 lo'.length d1, .slice b2 hi'.length d2]] w fun e w' => ∃ x1 e1 x2 e2, e = .returned (.tuple #[.agg #[.slice x1 (sharedV (lo, hi) (lo', hi')).1.length e1, .slice x2 (sharedV (lo, hi) (lo', hi')).2.length e2], .bool (shOkB (lo, hi) (lo', hi'))]) ∧ IOut w.heap.size w' (.slice x1 (sharedV (lo, hi) (lo', hi')).1.length e1) (sharedV (lo, hi) (lo', hi')).1 ∧ IOut w.heap.size w' (.slice x2 (sharedV (lo, hi) (lo', hi')).2.length e2) (sharedV (lo, hi) (lo', hi')).2 ∧ Apart (.slice x1 (sharedV (lo, hi) (lo', hi')).1.length e1) (.slice x2 (sharedV (lo, hi) (lo', hi')).2.length e2) ∧ Below w.heap.size w w' := by
  obtain ⟨W, hW⟩ : ∃ W, W = ((w.alloc (.cells #[.slice a1 lo.length c1, .slice a2 hi.length c2] 75)).alloc (.cells #[.slice b1 lo'.length d1, .slice b2 hi'.length d2] 75)).alloc (.cells #[.slice none 0 0, .slice none 0 0] 75) := ⟨_, rfl⟩
  have hB : Below w.heap.size w W := by rw [hW]; exact below_alloc (below_alloc (alloc_below w _) _) _
  have t0 : Two W w.heap.size (.slice a1 lo.length c1) (.slice a2 hi.length c2) 75 := by rw [hW]; exact ((Two.new w _ _ _).alloc _).alloc _
  have t1 : Two W (w.heap.size + 1) (.slice b1 lo'.length d1) (.slice b2 hi'.length d2) 75 := by rw [hW]; exact (Two.made (by simp)).alloc _
  have t2 : Two W (w.heap.size + 1 + 1) (.slice none 0 0) (.slice none 0 0) 75 := by rw [hW]; exact Two.made (by simp)
  have hnone : ∀ (w2 : World), Below w.heap.size w w2 → shOkB (lo, hi) (lo', hi') = false → ∃ x1 e1 x2 e2, Ending.returned (.tuple #[.agg #[.slice none 0 0, .slice none 0 0], .bool false]) = Ending.returned (.tuple #[.agg #[.slice x1 (sharedV (lo, hi) (lo', hi')).1.length e1, .slice x2 (sharedV (lo, hi) (lo', hi')).2.length e2], .bool (shOkB (lo, hi) (lo', hi'))]) ∧ IOut w.heap.size w2 (.slice x1 (sharedV (lo, hi) (lo', hi')).1.length e1) (sharedV (lo, hi) (lo', hi')).1 ∧ IOut w.heap.size w2 (.slice x2 (sharedV (lo, hi) (lo', hi')).2.length e2) (sharedV (lo, hi) (lo', hi')).2 ∧ Apart (.slice x1 (sharedV (lo, hi) (lo', hi')).1.length e1) (.slice x2 (sharedV (lo, hi) (lo', hi')).2.length e2) ∧ Below w.heap.size w w2 := fun w2 hb hv => by
    rw [shared_no hv, hv]
    exact ⟨none, 0, none, 0, rfl, Or.inl ⟨rfl, rfl⟩, Or.inl ⟨rfl, rfl⟩, fun a n c b m d h _ => (by cases h), hb⟩
  have HNO := hidP hnone
  have HC := hidP (iBoxOk a1 a2 c1 c2 lo hi W (h1.next hB) (h2.next hB) n1 n2)
  have HB := hidP (And.intro hB (And.intro t0 (And.intro t1 t2)))
  have q0 := t0.c0
  have q1 := t0.c1
  clear hnone hB t0 t1 t2
  rcases ha : boxB (lo, hi) with _ | _
  · rw [ha] at HC
    have HV := hidP (sh_no1 (b := (lo', hi')) ha)
    rw [hW] at q0 q1
    go_enter Try.func59, Try.ntmps59
    go_wp2_with fail
    rw [← hW]
    clear hW q0 q1
    refine HC.out.mono ?_
    rintro e w2 ⟨rfl, L2⟩
    have t2 := HB.out.2.2.2.below L2
    have L3 := chain HB.out.1 L2
    have f0 := t2.frozen 0
    have f1 := t2.frozen 1
    have e0 := t2.c0
    have e1 := t2.c1
    have t3 := (t2.set0 (.slice none 0 0)).set1 (.slice none 0 0)
    have g0 := t3.c0
    have g1 := t3.c1
    have HT := hidP (set_below (set_below L3 (show w.heap.size ≤ w.heap.size + 1 + 1 by omega) (.slice none 0 0) (i := 0)) (show w.heap.size ≤ w.heap.size + 1 + 1 by omega) (.slice none 0 0) (i := 1))
    clear t2 L2 L3 t3 HC
    go_wp2_with fail
    exact bodyPost_ret (v := .tuple #[.agg #[.slice none 0 0, .slice none 0 0], .bool false]) (by simp [results, Try.results59, go_sem, g0, g1]) rfl (HNO.out _ HT.out HV.out)
  · rw [ha] at HC
    rw [hW] at q0 q1
    go_enter Try.func59, Try.ntmps59
    go_wp2_with fail
    rw [← hW]
    clear hW q0 q1
    refine HC.out.mono ?_
    rintro e w2 ⟨rfl, L2⟩
    have L3 := chain HB.out.1 L2
    have HB2 := hidP (And.intro L3 (And.intro (HB.out.2.1.below L2) (And.intro (HB.out.2.2.1.below L2) (HB.out.2.2.2.below L2))))
    have q0 := HB2.out.2.1.c0
    have q1 := HB2.out.2.1.c1
    have q2 := HB2.out.2.2.1.c0
    have q3 := HB2.out.2.2.1.c1
    have HT := hidP (pTakes b1 b2 a1 d1 d2 c1 lo' hi' lo w2 (h3.next L3) (h4.next L3) (h1.next L3) n3 n4 n1)
    clear L2 L3 HB HC
    rcases ht : toldX (lo', hi') lo with _ | _
    · rw [ht] at HT
      have HV := hidP (sh_no2 (a := (lo, hi)) (b := (lo', hi')) ha ht)
      go_wp2_with fail
      refine HT.out.mono ?_
      rintro e w3 ⟨rfl, L3⟩
      have t2 := HB2.out.2.2.2.below L3
      have L4 := chain HB2.out.1 L3
      have f0 := t2.frozen 0
      have f1 := t2.frozen 1
      have e0 := t2.c0
      have e1 := t2.c1
      have t3 := (t2.set0 (.slice none 0 0)).set1 (.slice none 0 0)
      have g0 := t3.c0
      have g1 := t3.c1
      have HX := hidP (set_below (set_below L4 (show w.heap.size ≤ w.heap.size + 1 + 1 by omega) (.slice none 0 0) (i := 0)) (show w.heap.size ≤ w.heap.size + 1 + 1 by omega) (.slice none 0 0) (i := 1))
      clear t2 L3 L4 t3 HT q0 q1 q2 q3
      go_wp2_with fail
      exact bodyPost_ret (v := .tuple #[.agg #[.slice none 0 0, .slice none 0 0], .bool false]) (by simp [results, Try.results59, go_sem, g0, g1]) rfl (HNO.out _ HX.out HV.out)
    · rw [ht] at HT
      have HV := hidP (sh_yes (a := (lo, hi)) (b := (lo', hi')) ha ht)
      obtain ⟨hbx, htw⟩ := toldX_of ht
      obtain ⟨oa, _, hl⟩ := twoB_of (boxB_two ha)
      obtain ⟨_, _, hl2⟩ := twoB_of (boxB_two hbx)
      obtain ⟨_, _, hl3⟩ := twoB_of htw
      have h4' : 1 ≤ lo.length ∧ lo.length ≤ 4 := okB_len oa
      have hl' : lo.length = hi.length := hl
      have hl2' : lo'.length = hi'.length := hl2
      have hl3' : lo'.length = lo.length := hl3
      obtain ⟨ba, oa1, rfl, hba, s1⟩ := h1.seg (by omega)
      obtain ⟨bb, oa2, rfl, hbb, s2⟩ := h2.seg (by omega)
      obtain ⟨bc, oa3, rfl, hbc, s3⟩ := h3.seg (by omega)
      obtain ⟨bd, oa4, rfl, hbd, s4⟩ := h4.seg (by omega)
      have HS := hidP (And.intro s1 (And.intro s2 (And.intro s3 s4)))
      have HLN : Hid (hi.length = lo.length ∧ lo'.length = lo.length ∧ hi'.length = lo.length) := ⟨by omega, by omega, by omega⟩
      clear hl hl2 hl3 hl' hl2' hl3' hbx htw s1 s2 s3 s4 h1 h2 h3 h4 oa
      go_wp2_with fail
      refine HT.out.mono ?_
      rintro e w3 ⟨rfl, L3⟩
      have HB3 := hidP (And.intro (chain HB2.out.1 L3) (And.intro (HB2.out.2.1.below L3) (And.intro (HB2.out.2.2.1.below L3) (HB2.out.2.2.2.below L3))))
      clear q0 q1 q2 q3 L3 HB2 HT
      simp only [HLN.out.1, HLN.out.2.1, HLN.out.2.2] at HB3 ⊢
      have q0 := HB3.out.2.1.c0
      have q1 := HB3.out.2.1.c1
      have q2 := HB3.out.2.2.1.c0
      have q3 := HB3.out.2.2.1.c1
      have hz0 := HB3.out.2.1.lt
      have hz1 := HB3.out.2.2.1.lt
      have SK : Hid (∀ X, Below w3.heap.size w3 X → (X.cell? ⟨w.heap.size, 0, none⟩ = some (.slice (some ⟨ba, oa1, none⟩) lo.length c1) ∧ X.cell? ⟨w.heap.size, 1, none⟩ = some (.slice (some ⟨bb, oa2, none⟩) lo.length c2)) ∧ (X.cell? ⟨w.heap.size + 1, 0, none⟩ = some (.slice (some ⟨bc, oa3, none⟩) lo.length d1) ∧ X.cell? ⟨w.heap.size + 1, 1, none⟩ = some (.slice (some ⟨bd, oa4, none⟩) lo.length d2))) := fun X hX =>
        ⟨⟨(HB3.out.2.1.below hX).c0, (HB3.out.2.1.below hX).c1⟩, ⟨(HB3.out.2.2.1.below hX).c0, (HB3.out.2.2.1.below hX).c1⟩⟩
      have HI : Hid (∀ X A, Below w3.heap.size w3 X → Two X A (.slice (some ⟨ba, oa1, none⟩) lo.length c1) (.slice (some ⟨bc, oa3, none⟩) lo.length d1) 130 → Calls Try.prog 115 #[.slice (some ⟨A, 0, none⟩) 2 2] X fun e w' => ∃ g c, e = .returned (.slice (some ⟨g, 0, none⟩) lo.length c) ∧ IRow w3.heap.size w' g c (tabL (shLow (lo, hi) (lo', hi')) lo.length) ∧ X.heap.size ≤ g ∧ Below X.heap.size X w') := fun X A hX hT => by
        have hb := chain HB3.out.1 hX
        rw [← sh_low]
        refine Calls.mono (pHigh2 A ba oa1 c1 bc oa3 d1 lo.length lo.length lo lo' X hT.lt hT.c0 hT.c1 (HS.out.1.below hba hb) (HS.out.2.2.1.below hbc hb) (Nat.lt_of_lt_of_le hba hb.size) (Nat.lt_of_lt_of_le hbc hb.size) rfl HLN.out.2.1 rfl h4'.2) ?_
        rintro e w' ⟨g, c, he, hr, hl⟩
        exact ⟨g, c, he, hr.mono hX.size, hr.lt.1, hl⟩
      have HO : Hid (∀ X A, Below w3.heap.size w3 X → Two X A (.slice (some ⟨bb, oa2, none⟩) lo.length c2) (.slice (some ⟨bd, oa4, none⟩) lo.length d2) 130 → Calls Try.prog 116 #[.slice (some ⟨A, 0, none⟩) 2 2] X fun e w' => ∃ g c, e = .returned (.slice (some ⟨g, 0, none⟩) lo.length c) ∧ IRow w3.heap.size w' g c (tabL (shHigh (lo, hi) (lo', hi')) lo.length) ∧ X.heap.size ≤ g ∧ Below X.heap.size X w') := fun X A hX hT => by
        have hb := chain HB3.out.1 hX
        rw [← sh_high]
        refine Calls.mono (pLow2 A bb oa2 c2 bd oa4 d2 lo.length lo.length hi hi' X hT.lt hT.c0 hT.c1 (HS.out.2.1.below hbb hb) (HS.out.2.2.2.below hbd hb) (Nat.lt_of_lt_of_le hbb hb.size) (Nat.lt_of_lt_of_le hbd hb.size) HLN.out.1 HLN.out.2.2 rfl h4'.2) ?_
        rintro e w' ⟨g, c, he, hr, hl⟩
        exact ⟨g, c, he, hr.mono hX.size, hr.lt.1, hl⟩
      go_upto_region 3 with fail
      go_cut [6] from 18 to 30 (fun d wx => ∃ D g1 e1 g2 e2, d = .pointer (some ⟨D, 0, none⟩) ∧ BoxMade w3.heap.size wx D g1 e1 g2 e2 lo.length (tabL (shLow (lo, hi) (lo', hi')) lo.length) (tabL (shHigh (lo, hi) (lo', hi')) lo.length) ∧ Below w3.heap.size w3 wx)
      case first =>
        go_region_held3 (fun w' => (w'.cell? ⟨w.heap.size, 0, none⟩ = some (.slice (some ⟨ba, oa1, none⟩) lo.length c1) ∧ w'.cell? ⟨w.heap.size, 1, none⟩ = some (.slice (some ⟨bb, oa2, none⟩) lo.length c2)) ∧ (w'.cell? ⟨w.heap.size + 1, 0, none⟩ = some (.slice (some ⟨bc, oa3, none⟩) lo.length d1) ∧ w'.cell? ⟨w.heap.size + 1, 1, none⟩ = some (.slice (some ⟨bd, oa4, none⟩) lo.length d2)))
          (first
            | (refine SK.out _ ?_; repeat' (first | (with_reducible exact Below.refl _ _) | (with_reducible refine Below.drew ?_) | (with_reducible refine below_alloc ?_ _) | (with_reducible refine set_below ?_ ?_ _) | (with_reducible refine chain ?_ L5) | (with_reducible refine chain ?_ L4) | omega))
            | go_keep)
          (first
            | (go_at_call 115; refine (HI.out _ _ (by (repeat' (first | (with_reducible exact Below.refl _ _) | (with_reducible refine Below.drew ?_) | (with_reducible refine below_alloc ?_ _) | (with_reducible refine chain ?_ L5))) <;> fail) (by (repeat' (first | (with_reducible refine Two.drew ?_) | (with_reducible exact Two.made0) | (with_reducible exact Two.made1) | (with_reducible exact Two.made2) | (with_reducible refine Two.alloc ?_ _) | (with_reducible refine Two.below ?_ L5))) <;> fail)).mono ?_; rintro e w4 ⟨g1, e1, rfl, r1, hx1, L4⟩; refine with_fact (p := Below w3.heap.size w3 w4) ?_ (fun hb4 => ?_); (focus ((repeat' (first | (with_reducible exact Below.refl _ _) | (with_reducible refine Below.drew ?_) | (with_reducible refine below_alloc ?_ _) | (with_reducible refine chain ?_ L4))) <;> fail)); have hz4 := hb4.size)
            | (go_at_call 116; refine (HO.out _ _ (by (repeat' (first | (with_reducible exact Below.refl _ _) | (with_reducible refine Below.drew ?_) | (with_reducible refine below_alloc ?_ _) | (with_reducible refine chain ?_ L4))) <;> fail) (by (repeat' (first | (with_reducible refine Two.drew ?_) | (with_reducible exact Two.made0) | (with_reducible exact Two.made1) | (with_reducible exact Two.made2) | (with_reducible refine Two.alloc ?_ _) | (with_reducible refine Two.below ?_ L4))) <;> fail)).mono ?_; rintro e w5 ⟨g2, e2, rfl, r2, hx2, L5⟩; refine with_fact (p := Below w4.heap.size w4 w5) ?_ (fun hb5 => ?_); (focus ((repeat' (first | (with_reducible exact Below.refl _ _) | (with_reducible refine Below.drew ?_) | (with_reducible refine below_alloc ?_ _) | (with_reducible refine chain ?_ L5))) <;> fail)); (try (refine with_fact (p := Two w5 (w3.heap.size) (.slice none 0 0) (.slice none 0 0) 75) ?_ (fun hD => ?_); (focus ((repeat' (first | (with_reducible refine Two.drew ?_) | (with_reducible exact Two.made0) | (with_reducible exact Two.made1) | (with_reducible exact Two.made2) | (with_reducible refine Two.alloc ?_ _) | (with_reducible refine Two.below ?_ L5) | (with_reducible refine Two.below ?_ L4))) <;> fail)); have hDc0 := hD.c0; have hDc1 := hD.c1; have hDf0 := hD.frozen 0; have hDf1 := hD.frozen 1)); (try (refine with_fact (p := Two w5 (w3.heap.size + 1) (.slice none 0 0) (.slice none 0 0) 75) ?_ (fun hD => ?_); (focus ((repeat' (first | (with_reducible refine Two.drew ?_) | (with_reducible exact Two.made0) | (with_reducible exact Two.made1) | (with_reducible exact Two.made2) | (with_reducible refine Two.alloc ?_ _) | (with_reducible refine Two.below ?_ L5) | (with_reducible refine Two.below ?_ L4))) <;> fail)); have hDc0 := hD.c0; have hDc1 := hD.c1; have hDf0 := hD.frozen 0; have hDf1 := hD.frozen 1)); (try (refine with_fact (p := Two w5 (w3.heap.size + 1 + 1) (.slice none 0 0) (.slice none 0 0) 75) ?_ (fun hD => ?_); (focus ((repeat' (first | (with_reducible refine Two.drew ?_) | (with_reducible exact Two.made0) | (with_reducible exact Two.made1) | (with_reducible exact Two.made2) | (with_reducible refine Two.alloc ?_ _) | (with_reducible refine Two.below ?_ L5) | (with_reducible refine Two.below ?_ L4))) <;> fail)); have hDc0 := hD.c0; have hDc1 := hD.c1; have hDf0 := hD.frozen 0; have hDf1 := hD.frozen 1)); (try (refine with_fact (p := Two w5 (w4.heap.size) (.slice none 0 0) (.slice none 0 0) 75) ?_ (fun hD => ?_); (focus ((repeat' (first | (with_reducible refine Two.drew ?_) | (with_reducible exact Two.made0) | (with_reducible exact Two.made1) | (with_reducible exact Two.made2) | (with_reducible refine Two.alloc ?_ _) | (with_reducible refine Two.below ?_ L5) | (with_reducible refine Two.below ?_ L4))) <;> fail)); have hDc0 := hD.c0; have hDc1 := hD.c1; have hDf0 := hD.frozen 0; have hDf1 := hD.frozen 1)); (try (refine with_fact (p := Two w5 (w4.heap.size + 1) (.slice none 0 0) (.slice none 0 0) 75) ?_ (fun hD => ?_); (focus ((repeat' (first | (with_reducible refine Two.drew ?_) | (with_reducible exact Two.made0) | (with_reducible exact Two.made1) | (with_reducible exact Two.made2) | (with_reducible refine Two.alloc ?_ _) | (with_reducible refine Two.below ?_ L5) | (with_reducible refine Two.below ?_ L4))) <;> fail)); have hDc0 := hD.c0; have hDc1 := hD.c1; have hDf0 := hD.frozen 0; have hDf1 := hD.frozen 1))))
        all_goals
          go_wp2_with fail
          go_meet
          have r1' := r1.below hb5
          have l1 := r1.lt
          have l2 := r2.lt
          have hz5 := hb5.size
          simp at hx1 hx2
          first
            | exact boxMade_alloc r1' r2 (by omega) (by omega) (chain hb4 hb5)
            | exact boxMade_set hD r1' r2 (by omega) (by omega) (by omega) (by omega) (chain hb4 hb5)
      case rest =>
        obtain ⟨D, g1, e1, g2, e2, rfl, ⟨tw, r1, r2, n12, nD1, nD2, nb⟩, Lc⟩ := hcut
        have HX := hidP (iBoxOk (some ⟨g1, 0, none⟩) (some ⟨g2, 0, none⟩) e1 e2 (tabL (shLow (lo, hi) (lo', hi')) lo.length) (tabL (shHigh (lo, hi) (lo', hi')) lo.length) wc r1.view r2.view (by rw [tabL_length]; omega) (by rw [tabL_length]; omega))
        rw [tabL_length, tabL_length] at HX
        have p0 := tw.c0
        have p1 := tw.c1
        have HTW := hidP (And.intro tw (And.intro r1 (And.intro r2 Lc)))
        have hb3 := r1.lt.1
        have hb4 := r2.lt.1
        have hzr := HB3.out.2.2.2.lt
        clear tw r1 r2 Lc HI HO SK q0 q1 q2 q3 HS
        rcases hbo : boxB (shBox (lo, hi) (lo', hi')) with _ | _
        · have hbo' : boxB (tabL (shLow (lo, hi) (lo', hi')) lo.length, tabL (shHigh (lo, hi) (lo', hi')) lo.length) = false := hbo
          rw [hbo'] at HX
          rw [hbo] at HV
          clear hbo'
          go_wp2_with fail
          refine HX.out.mono ?_
          rintro e w6 ⟨rfl, L6⟩
          have t2 := HB3.out.2.2.2.below (chain HTW.out.2.2.2 L6)
          have L7 := chain HB3.out.1 (chain HTW.out.2.2.2 L6)
          have f0 := t2.frozen 0
          have f1 := t2.frozen 1
          have k0 := t2.c0
          have k1 := t2.c1
          have t3 := (t2.set0 (.slice none 0 0)).set1 (.slice none 0 0)
          have y0 := t3.c0
          have y1 := t3.c1
          have HT := hidP (set_below (set_below L7 (show w.heap.size ≤ w.heap.size + 1 + 1 by omega) (.slice none 0 0) (i := 0)) (show w.heap.size ≤ w.heap.size + 1 + 1 by omega) (.slice none 0 0) (i := 1))
          clear t2 L6 L7 t3 HX p0 p1
          go_wp2_with fail
          exact bodyPost_ret (v := .tuple #[.agg #[.slice none 0 0, .slice none 0 0], .bool false]) (by simp [results, Try.results59, go_sem, y0, y1]) rfl (HNO.out _ HT.out HV.out)
        · have hbo' : boxB (tabL (shLow (lo, hi) (lo', hi')) lo.length, tabL (shHigh (lo, hi) (lo', hi')) lo.length) = true := hbo
          rw [hbo'] at HX
          rw [hbo] at HV
          clear hbo'
          go_wp2_with fail
          refine HX.out.mono ?_
          rintro e w6 ⟨rfl, L6⟩
          have tw6 := HTW.out.1.below L6
          have r1 := HTW.out.2.1.below L6
          have r2 := HTW.out.2.2.1.below L6
          have t2 := HB3.out.2.2.2.below (chain HTW.out.2.2.2 L6)
          have L7 := chain HB3.out.1 (chain HTW.out.2.2.2 L6)
          have s0 := tw6.c0
          have s1 := tw6.c1
          have f0 := t2.frozen 0
          have f1 := t2.frozen 1
          have k0 := t2.c0
          have k1 := t2.c1
          have t3 := (t2.set0 (.slice (some ⟨g1, 0, none⟩) lo.length e1)).set1 (.slice (some ⟨g2, 0, none⟩) lo.length e2)
          have y0 := t3.c0
          have y1 := t3.c1
          have z1 := (r1.kept (grown_setCell _ (w.heap.size + 1 + 1) 0 (.slice (some ⟨g1, 0, none⟩) lo.length e1)) (by simp; omega)).kept (grown_setCell _ (w.heap.size + 1 + 1) 1 (.slice (some ⟨g2, 0, none⟩) lo.length e2)) (by simp; omega)
          have z2 := (r2.kept (grown_setCell _ (w.heap.size + 1 + 1) 0 (.slice (some ⟨g1, 0, none⟩) lo.length e1)) (by simp; omega)).kept (grown_setCell _ (w.heap.size + 1 + 1) 1 (.slice (some ⟨g2, 0, none⟩) lo.length e2)) (by simp; omega)
          have HE := hidP (And.intro (z1.mono (base' := w.heap.size) (by omega)) (And.intro (z2.mono (base' := w.heap.size) (by omega)) (set_below (set_below L7 (show w.heap.size ≤ w.heap.size + 1 + 1 by omega) (.slice (some ⟨g1, 0, none⟩) lo.length e1) (i := 0)) (show w.heap.size ≤ w.heap.size + 1 + 1 by omega) (.slice (some ⟨g2, 0, none⟩) lo.length e2) (i := 1))))
          clear t2 L6 L7 t3 HX p0 p1 tw6 r1 r2 z1 z2
          go_wp2_with fail
          refine bodyPost_ret (v := .tuple #[.agg #[.slice (some ⟨g1, 0, none⟩) lo.length e1, .slice (some ⟨g2, 0, none⟩) lo.length e2], .bool true]) (by simp [results, Try.results59, go_sem, y0, y1]) rfl ?_
          rw [shared_yes HV.out, HV.out]
          have v1 : (shBox (lo, hi) (lo', hi')).1.length = lo.length := tabL_length _ _
          have v2 : (shBox (lo, hi) (lo', hi')).2.length = lo.length := tabL_length _ _
          simp only [v1, v2]
          obtain ⟨z1, z2, L8⟩ := HE.out
          refine ⟨some ⟨g1, 0, none⟩, e1, some ⟨g2, 0, none⟩, e2, rfl, Or.inr ⟨g1, e1, by rw [v1], z1⟩, Or.inr ⟨g2, e2, by rw [v2], z2⟩, ?_, L8⟩
          intro a n c b m d h1 h2
          cases h1; cases h2
          exact n12

end Go.Proofs.Ythddhblmnfjciaa
