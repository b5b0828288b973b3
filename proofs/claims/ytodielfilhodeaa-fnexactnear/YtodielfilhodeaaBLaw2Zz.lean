/-
  Plain mathematics for the laws of chapter 4 (no program is named here): a point inside a box, and the box around marks.
-/
import Derived.Test.YtodielfilhodeaaBI5Zz
import Derived.Test.YtodielfilhodeaaBI4Zz
namespace Go.Proofs.Ytodielfilhodeaa

theorem sq_mono {x y : Int} (h0 : 0 ≤ x) (h : x ≤ y) : x * x ≤ y * y := Int.mul_le_mul h h h0 (Int.le_trans h0 h)
theorem sq_abs (x : Int) : x * x = absV x * absV x := by
  unfold absV
  by_cases h : 0 ≤ x
  · rw [Int.max_eq_left (by omega)]
  · rw [Int.max_eq_right (by omega), Int.neg_mul_neg]
/-- A point between a box's two ends, number by number. -/
def Amid (b : Bx) (x : List Int) : Prop := x.length = b.1.length ∧ ∀ i, i < x.length → nth b.1 i ≤ nth x i ∧ nth x i ≤ nth b.2 i
theorem Amid.ok {b : Bx} {x : List Int} (hb : boxB b = true) (h : Amid b x) : okB x = true := by
  obtain ⟨o1, o2, l⟩ := twoB_of (boxB_two hb)
  have h4 := okB_len o1
  refine okB_mk (by rw [h.1]; exact h4.1) (by rw [h.1]; exact h4.2) fun i hi => ?_
  have := h.2 i hi
  have := okB_at o1 i
  have := okB_at o2 i
  omega
theorem Amid.told {b : Bx} {x : List Int} (hb : boxB b = true) (h : Amid b x) : toldX b x = true := by
  have : twoB b.1 x = true := twoB_true (twoB_of (boxB_two hb)).1 (h.ok hb) h.1.symm
  simp [toldX, hb, this]
theorem Amid.inside {b : Bx} {x : List Int} (hb : boxB b = true) (h : Amid b x) : insideB b x = true := (inside_at (h.told hb)).2 h.2
theorem Amid.two {b : Bx} {x p : List Int} (ht : toldX b p = true) (h : Amid b x) : twoB x p = true := by
  obtain ⟨hb, h2⟩ := toldX_of ht
  obtain ⟨_, op, lp⟩ := twoB_of h2
  exact twoB_true (h.ok hb) op (by rw [h.1, lp])
/-- No point inside a box is nearer than its side, and none is farther than its corner. -/
theorem Amid.far {b : Bx} {x p : List Int} (ht : toldX b p = true) (h : Amid b x) : 0 ≤ toBoxV b p ∧ toBoxV b p ≤ farV x p ∧ farV x p ≤ cornerV b p := by
  obtain ⟨hb, h2⟩ := toldX_of ht
  obtain ⟨_, op, lp⟩ := twoB_of h2
  have hl : x.length = p.length := by rw [h.1, lp]
  have e1 : toBoxV b p = sumTo (outQ b p) p.length := by simp [toBoxV, ht]
  have e2 : cornerV b p = sumTo (endQ b p) p.length := by simp [cornerV, ht]
  have e3 : farV x p = sumTo (sqF x p) p.length := by simp [farV, h.two ht, hl]
  have e0 : sumTo (fun _ => 0) p.length = 0 := by
    generalize p.length = n
    induction n with
    | zero => rfl
    | succ n ih => simp only [sumTo, ih]; rfl
  rw [e1, e2, e3]
  refine ⟨?_, sumTo_mono _ _ _ fun i hi => ?_, sumTo_mono _ _ _ fun i hi => ?_⟩
  · rw [← e0]
    exact sumTo_mono _ _ _ fun i _ => (outQ_bd ht i).1
  · unfold outQ sqF
    rw [sq_abs (nth x i - nth p i)]
    refine sq_mono (outF_bd ht i).1 ?_
    have := h.2 i (by omega)
    unfold outF absV maxV
    omega
  · unfold endQ sqF
    rw [sq_abs (nth x i - nth p i)]
    have := h.2 i (by omega)
    refine sq_mono (by unfold absV; omega) ?_
    unfold endF absV maxV
    omega
/-- The low end itself is such a point: there is one in every box. -/
theorem Amid.low {b : Bx} (hb : boxB b = true) : Amid b b.1 := ⟨rfl, fun _ hi => ⟨Int.le_refl _, boxB_at hb hi⟩⟩
theorem side_corner {b : Bx} {p : List Int} (ht : toldX b p = true) : 0 ≤ toBoxV b p ∧ toBoxV b p ≤ cornerV b p := by
  have := (Amid.low (toldX_of ht).1).far ht
  omega
theorem side_none {b : Bx} {p : List Int} (ht : toldX b p = false) : toBoxV b p = -1 ∧ cornerV b p = -1 ∧ insideB b p = false := by
  simp [toBoxV, cornerV, insideB, ht]
theorem side_told {b : Bx} {p : List Int} (h : 0 ≤ toBoxV b p) : toldX b p = true := by
  rcases ht : toldX b p with _ | _
  · have := (side_none ht).1; omega
  · rfl
theorem side_inside {b : Bx} {p : List Int} (ht : toldX b p = true) : insideB b p = decide (toBoxV b p = 0) := by simp [insideB, ht]

theorem lowTo_le (ms : List Mk) (k : Nat) : ∀ j i, i ≤ j → lowTo ms k j ≤ nth (mat ms i) k
  | 0, i, h => by
    obtain rfl : i = 0 := by omega
    exact Int.le_refl _
  | j + 1, i, h => by
    rw [lowTo]
    by_cases e : i = j + 1
    · subst e; omega
    · have := lowTo_le ms k j i (by omega); omega
theorem highTo_ge (ms : List Mk) (k : Nat) : ∀ j i, i ≤ j → nth (mat ms i) k ≤ highTo ms k j
  | 0, i, h => by
    obtain rfl : i = 0 := by omega
    exact Int.le_refl _
  | j + 1, i, h => by
    rw [highTo]
    unfold maxV
    by_cases e : i = j + 1
    · subst e; omega
    · have := highTo_ge ms k j i (by omega); omega
/-- The box around all has all. -/
theorem around_all {ms : List Mk} (hk : boxB (aroundV ms) = true) {i : Nat} (hi : i < ms.length) : insideB (aroundV ms) (mat ms i) = true := by
  rcases hm : marksB ms with _ | _
  · rw [around_none (Or.inr hm)] at hk
    simp [boxB, twoB, okB] at hk
  · have a := (mOkAt_iff ms i).1 (marksB_at hm hi)
    have e := around_some (ms := ms) (by omega) hm
    refine Amid.inside hk ⟨?_, fun k hk' => ?_⟩
    · rw [e]; simp only [lowL, tabL_length]; exact a.2.2.2.1
    · rw [a.2.2.2.1] at hk'
      rw [e]
      simp only [lowL, highL]
      rw [tabL_getD _ _ _ hk', tabL_getD _ _ _ hk']
      exact ⟨lowTo_le ms k _ i (by omega), highTo_ge ms k _ i (by omega)⟩

end Go.Proofs.Ytodielfilhodeaa
