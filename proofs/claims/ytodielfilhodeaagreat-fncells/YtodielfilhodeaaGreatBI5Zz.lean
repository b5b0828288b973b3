/-
  The program's own Shared.
  Plain mathematics for the laws of chapter 4 (no program is named here): what two boxes share.
-/
import Derived.Test.YtodielfilhodeaaGreatBI2Zz
import Derived.Test.YtodielfilhodeaaGreatBMarkZz
import Derived.Test.YtodielfilhodeaaGreatMCellsZz
import Derived.Test.YtodielfilhodeaaGreatAppendZz
import Derived.Deep.CutRange
namespace Go.Proofs.YtodielfilhodeaaGreat
open Go Go.RowKit

theorem sh_no1 {a b : Bx} (h : boxB a = false) : shOkB a b = false := by simp [shOkB, h]
theorem sh_no2 {a b : Bx} (ha : boxB a = true) (h : toldX b a.1 = false) : shOkB a b = false := by
  rcases hb : boxB b with _ | _
  · simp [shOkB, hb]
  · have ht : twoB b.1 a.1 = false := by simpa [toldX, hb] using h
    have o1 := (twoB_of (boxB_two ha)).1
    have o2 := (twoB_of (boxB_two hb)).1
    have hl : ¬ a.1.length = b.1.length := fun e => by rw [twoB_true o2 o1 e.symm] at ht; cases ht
    simp [shOkB, hl]
theorem sh_yes {a b : Bx} (ha : boxB a = true) (h : toldX b a.1 = true) : shOkB a b = boxB (shBox a b) := by
  obtain ⟨hb, ht⟩ := toldX_of h
  have hl : a.1.length = b.1.length := (twoB_of ht).2.2.symm
  simp [shOkB, ha, hb, hl]
theorem shared_no {a b : Bx} (h : shOkB a b = false) : sharedV a b = ([], []) := by simp [sharedV, h]
theorem shared_yes {a b : Bx} (h : shOkB a b = true) : sharedV a b = shBox a b := by simp [sharedV, h]
theorem sh_low (a b : Bx) (n : Nat) : tabL (fun k => max (nth b.1 k) (nth a.1 k)) n = tabL (shLow a b) n := tabL_congr _ _ _ fun k _ => by unfold shLow maxV; omega
theorem sh_high (a b : Bx) (n : Nat) : tabL (fun k => min (nth b.2 k) (nth a.2 k)) n = tabL (shHigh a b) n := tabL_congr _ _ _ fun k _ => by unfold shHigh; omega
theorem shared_short (a b : Bx) : (sharedV a b).1.length ≤ 4 ∧ (sharedV a b).2.length ≤ 4 := by
  rcases h : shOkB a b with _ | _
  · rw [shared_no h]; simp
  · rw [shared_yes h]
    have ha : boxB a = true := by
      rcases hb : boxB a with _ | _
      · rw [sh_no1 hb] at h; cases h
      · rfl
    have := okB_len (twoB_of (boxB_two ha)).1
    unfold shBox
    simp only [tabL_length]
    exact ⟨this.2, this.2⟩

theorem Two.alloc {w : World} {p : Nat} {u v : Value} {t : TypeId} (h : Two w p u v t) (o : Obj) : Two (w.alloc o) p u v t := h.below (alloc_below w o)
theorem Two.drew {w : World} {p : Nat} {u v : Value} {t : TypeId} (h : Two w p u v t) : Two w.drew p u v t := h
theorem Two.made {w : World} {p : Nat} {u v : Value} {t : TypeId} (h : w.heap.size = p) : Two (w.alloc (.cells #[u, v] t)) p u v t := by subst h; exact Two.new w u v t

theorem Two.made0 {w : World} {u v : Value} {t : TypeId} : Two (w.alloc (.cells #[u, v] t)) w.heap.size u v t := Two.new w u v t
theorem Two.made1 {w : World} {o : Obj} {u v : Value} {t : TypeId} : Two ((w.alloc o).alloc (.cells #[u, v] t)) (w.heap.size + 1) u v t := Two.made (by simp)
theorem Two.made2 {w : World} {o o' : Obj} {u v : Value} {t : TypeId} : Two (((w.alloc o).alloc o').alloc (.cells #[u, v] t)) (w.heap.size + 1 + 1) u v t := Two.made (by simp)
theorem with_fact {p q : Prop} (hp : p) (h : p → q) : q := h hp
/-- A box that a region leaves: its block D and its two rows. -/
def BoxMade (base : Nat) (w : World) (D g1 c1 g2 c2 n : Nat) (lo hi : List Int) : Prop :=
  Two w D (.slice (some ⟨g1, 0, none⟩) n c1) (.slice (some ⟨g2, 0, none⟩) n c2) 155 ∧ IRow base w g1 c1 lo ∧ IRow base w g2 c2 hi ∧ g1 ≠ g2 ∧ D ≠ g1 ∧ D ≠ g2 ∧ base ≤ D

theorem boxMade_alloc {base : Nat} {w3 w5 : World} {g1 e1 g2 e2 n : Nat} {lo hi : List Int} (r1 : IRow base w5 g1 e1 lo) (r2 : IRow base w5 g2 e2 hi) (ne : g1 ≠ g2) (hs : base ≤ w5.heap.size) (hb : Below base w3 w5) :
    ∃ D' g1' e1' g2' e2', Value.pointer (some ⟨w5.heap.size, 0, none⟩) = .pointer (some ⟨D', 0, none⟩) ∧ BoxMade base (w5.alloc (.cells #[.slice (some ⟨g1, 0, none⟩) n e1, .slice (some ⟨g2, 0, none⟩) n e2] 155)) D' g1' e1' g2' e2' n lo hi ∧ Below base w3 (w5.alloc (.cells #[.slice (some ⟨g1, 0, none⟩) n e1, .slice (some ⟨g2, 0, none⟩) n e2] 155)) :=
  ⟨w5.heap.size, g1, e1, g2, e2, rfl, ⟨Two.new w5 _ _ _, r1.below (alloc_below w5 _), r2.below (alloc_below w5 _), ne, Nat.ne_of_gt r1.lt.2, Nat.ne_of_gt r2.lt.2, hs⟩, hb.alloc hs _⟩
theorem boxMade_set {base : Nat} {w3 w5 : World} {D g1 e1 g2 e2 n : Nat} {u v : Value} {lo hi : List Int} (hD : Two w5 D u v 155) (r1 : IRow base w5 g1 e1 lo) (r2 : IRow base w5 g2 e2 hi) (ne : g1 ≠ g2) (n1 : D ≠ g1) (n2 : D ≠ g2) (hs : base ≤ D) (hb : Below base w3 w5) :
    ∃ D' g1' e1' g2' e2', Value.pointer (some ⟨D, 0, none⟩) = .pointer (some ⟨D', 0, none⟩) ∧ BoxMade base ((w5.setCell ⟨D, 0, none⟩ (.slice (some ⟨g1, 0, none⟩) n e1)).setCell ⟨D, 1, none⟩ (.slice (some ⟨g2, 0, none⟩) n e2)) D' g1' e1' g2' e2' n lo hi ∧ Below base w3 ((w5.setCell ⟨D, 0, none⟩ (.slice (some ⟨g1, 0, none⟩) n e1)).setCell ⟨D, 1, none⟩ (.slice (some ⟨g2, 0, none⟩) n e2)) :=
  ⟨D, g1, e1, g2, e2, rfl, ⟨(hD.set0 _).set1 _, (r1.kept (grown_setCell _ D 0 _) (fun e => n1 (Option.some.inj e).symm)).kept (grown_setCell _ D 1 _) (fun e => n1 (Option.some.inj e).symm), (r2.kept (grown_setCell _ D 0 _) (fun e => n2 (Option.some.inj e).symm)).kept (grown_setCell _ D 1 _) (fun e => n2 (Option.some.inj e).symm), ne, n1, n2, hs⟩, set_below (set_below hb hs _) hs _⟩

end Go.Proofs.YtodielfilhodeaaGreat
namespace Go.Proofs.YtodielfilhodeaaGreat

theorem sh_parts {a b : Bx} (h : shOkB a b = true) : boxB a = true ∧ boxB b = true ∧ a.1.length = b.1.length ∧ boxB (shBox a b) = true := by
  simp only [shOkB, Bool.and_eq_true, decide_eq_true_eq] at h
  exact ⟨h.1.1.1, h.1.1.2, h.1.2, h.2⟩
theorem sh_not {a b : Bx} (h : boxB a = false ∨ boxB b = false ∨ a.1.length ≠ b.1.length) : shOkB a b = false := by
  rcases h with h | h | h <;> simp [shOkB, h]
theorem shBox_two {a b : Bx} (ha : boxB a = true) (hb : boxB b = true) : twoB (shBox a b).1 (shBox a b).2 = true := by
  obtain ⟨oa, oh, la⟩ := twoB_of (boxB_two ha)
  obtain ⟨ob, oh', lb⟩ := twoB_of (boxB_two hb)
  have h4 := okB_len oa
  refine twoB_true (okB_mk ?_ ?_ fun i hi => ?_) (okB_mk ?_ ?_ fun i hi => ?_) ?_
  · simp only [shBox, tabL_length]; exact h4.1
  · simp only [shBox, tabL_length]; exact h4.2
  · simp only [shBox, tabL_length] at hi ⊢
    rw [tabL_getD _ _ _ hi]
    have := okB_at oa i; have := okB_at ob i
    unfold shLow maxV; omega
  · simp only [shBox, tabL_length]; exact h4.1
  · simp only [shBox, tabL_length]; exact h4.2
  · simp only [shBox, tabL_length] at hi ⊢
    rw [tabL_getD _ _ _ hi]
    have := okB_at oh i; have := okB_at oh' i
    unfold shHigh; omega
  · simp only [shBox, tabL_length]
theorem inside_at {b : Bx} {p : List Int} (ht : toldX b p = true) : insideB b p = true ↔ ∀ i, i < p.length → nth b.1 i ≤ nth p i ∧ nth p i ≤ nth b.2 i := by
  obtain ⟨lo, hi⟩ := b
  rw [inside_eq ht]
  obtain ⟨_, h2⟩ := toldX_of ht
  have hl : lo.length = p.length := (twoB_of h2).2.2
  constructor
  · intro h i hi'
    rw [Bool.and_eq_true] at h
    exact ⟨aboveB_at h.1 (by omega), aboveB_at h.2 hi'⟩
  · intro h
    rw [Bool.and_eq_true]
    exact ⟨aboveB_mk (fun i hi' => (h i (by omega)).1), aboveB_mk (fun i hi' => (h i hi').2)⟩
theorem inside_none {b : Bx} {p : List Int} (ht : toldX b p = false) : insideB b p = false := by simp [insideB, ht]

/-- In what two boxes share is just what is in both. -/
theorem shared_inside {a b : Bx} (p : List Int) (ha : boxB a = true) (hb : boxB b = true) (hl : a.1.length = b.1.length) : (insideB a p && insideB b p) = (shOkB a b && insideB (sharedV a b) p) := by
  have hs : shOkB a b = boxB (shBox a b) := by simp [shOkB, ha, hb, hl]
  rcases hp : twoB a.1 p with _ | _
  · have e1 : toldX a p = false := by simp [toldX, hp]
    have e2 : shOkB a b = true → toldX (sharedV a b) p = false := fun h => by
      rw [shared_yes h]
      have : twoB (shBox a b).1 p = false := by
        rcases hq : twoB (shBox a b).1 p with _ | _
        · rfl
        · obtain ⟨_, op, lp⟩ := twoB_of hq
          have l2 : (shBox a b).1.length = a.1.length := by simp only [shBox, tabL_length]
          rw [twoB_true (twoB_of (boxB_two ha)).1 op (by omega)] at hp
          cases hp
      simp [toldX, this]
    rw [inside_none e1, Bool.false_and]
    rcases h : shOkB a b with _ | _
    · rfl
    · rw [inside_none (e2 h)]; rfl
  · have ta : toldX a p = true := by simp [toldX, ha, hp]
    obtain ⟨oa, op, la⟩ := twoB_of hp
    have tb : toldX b p = true := by
      have : twoB b.1 p = true := twoB_true (twoB_of (boxB_two hb)).1 op (by omega)
      simp [toldX, hb, this]
    have hboth : (insideB a p && insideB b p) = true ↔ ∀ i, i < p.length → nth (shBox a b).1 i ≤ nth p i ∧ nth p i ≤ nth (shBox a b).2 i := by
      rw [Bool.and_eq_true, inside_at ta, inside_at tb]
      constructor
      · intro ⟨h1, h2⟩ i hi
        have x1 := h1 i hi; have x2 := h2 i hi
        simp only [shBox]
        rw [tabL_getD _ _ _ (by omega), tabL_getD _ _ _ (by omega)]
        unfold shLow shHigh maxV
        omega
      · intro h
        refine ⟨fun i hi => ?_, fun i hi => ?_⟩
        all_goals
          have x := h i hi
          simp only [shBox] at x
          rw [tabL_getD _ _ _ (by omega), tabL_getD _ _ _ (by omega)] at x
          unfold shLow shHigh maxV at x
          omega
    rcases hk : boxB (shBox a b) with _ | _
    · rw [hs, hk, Bool.false_and]
      rcases hx : (insideB a p && insideB b p) with _ | _
      · rfl
      · exfalso
        have hall := hboth.1 hx
        have : boxB (shBox a b) = true := boxB_mk (shBox_two ha hb) (fun i hi => by
          have l2 : (shBox a b).1.length = a.1.length := by simp only [shBox, tabL_length]
          have := hall i (by omega)
          omega)
        rw [this] at hk; cases hk
    · have tr : toldX (shBox a b) p = true := by
        have l2 : (shBox a b).1.length = a.1.length := by simp only [shBox, tabL_length]
        have : twoB (shBox a b).1 p = true := twoB_true (twoB_of (boxB_two hk)).1 op (by omega)
        simp [toldX, hk, this]
      rw [hs, hk, Bool.true_and, shared_yes (by rw [hs]; exact hk)]
      rcases hx : (insideB a p && insideB b p) with _ | _
      · rcases hy : insideB (shBox a b) p with _ | _
        · rfl
        · have := hboth.2 ((inside_at tr).1 hy)
          rw [hx] at this; cases this
      · exact ((inside_at tr).2 (hboth.1 hx)).symm
theorem shBox_comm {a b : Bx} (hl : a.1.length = b.1.length) : shBox b a = shBox a b := by
  unfold shBox
  rw [hl]
  congr 1
  · exact tabL_congr _ _ _ fun k _ => by unfold shLow maxV; omega
  · exact tabL_congr _ _ _ fun k _ => by unfold shHigh; omega
theorem shOk_comm (a b : Bx) : shOkB b a = shOkB a b := by
  by_cases hl : a.1.length = b.1.length
  · unfold shOkB
    rw [shBox_comm hl, Bool.and_comm (boxB b)]
    congr 2
    exact decide_eq_decide.2 ⟨Eq.symm, Eq.symm⟩
  · rw [sh_not (Or.inr (Or.inr hl)), sh_not (Or.inr (Or.inr (fun h => hl h.symm)))]
theorem shared_comm (a b : Bx) : sharedV b a = sharedV a b := by
  rcases h : shOkB a b with _ | _
  · rw [shared_no h, shared_no (by rw [shOk_comm]; exact h)]
  · rw [shared_yes h, shared_yes (by rw [shOk_comm]; exact h), shBox_comm (sh_parts h).2.2.1]
theorem sumTo_mono (f g : Nat → Int) (n : Nat) (h : ∀ i, i < n → f i ≤ g i) : sumTo f n ≤ sumTo g n := by
  induction n with
  | zero => exact Int.le_refl _
  | succ n ih =>
    have h1 := ih (fun i hi => h i (by omega))
    have h2 := h n (by omega)
    simp only [sumTo]
    omega
/-- From the low end of the one it is no nearer to what both share than to the other. -/
theorem shared_toBox {a b : Bx} (h : shOkB a b = true) : toBoxV b a.1 ≤ toBoxV (sharedV a b) a.1 := by
  obtain ⟨ha, hb, hl, hs⟩ := sh_parts h
  rw [shared_yes h]
  have oa := (twoB_of (boxB_two ha)).1
  have tb : toldX b a.1 = true := by
    have : twoB b.1 a.1 = true := twoB_true (twoB_of (boxB_two hb)).1 oa hl.symm
    simp [toldX, hb, this]
  have ts : toldX (shBox a b) a.1 = true := by
    have : twoB (shBox a b).1 a.1 = true := twoB_true (twoB_of (boxB_two hs)).1 oa (by simp only [shBox, tabL_length])
    simp [toldX, hs, this]
  have e1 : toBoxV b a.1 = sumTo (outQ b a.1) a.1.length := by simp [toBoxV, tb]
  have e2 : toBoxV (shBox a b) a.1 = sumTo (outQ (shBox a b) a.1) a.1.length := by simp [toBoxV, ts]
  rw [e1, e2]
  refine sumTo_mono _ _ _ fun i hi => ?_
  unfold outQ
  have h0 : 0 ≤ outF b a.1 i := (outF_bd tb i).1
  have h1 : outF b a.1 i ≤ outF (shBox a b) a.1 i := by
    unfold outF
    simp only [shBox]
    rw [tabL_getD _ _ _ hi, tabL_getD _ _ _ hi]
    unfold shLow shHigh maxV
    omega
  exact Int.mul_le_mul h1 h1 h0 (Int.le_trans h0 h1)

end Go.Proofs.YtodielfilhodeaaGreat
