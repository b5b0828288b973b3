/-
  Plain mathematics of Cauchy's law over two points of one to four numbers, and of moving (no program is named here).
-/
import Derived.Test.YtpnccjcgnmhncaaSides
namespace Go.Proofs.Ytpnccjcgnmhncaa
set_option linter.unusedSimpArgs false

/-- Are a and b alike in the two places i and k, for all k below m. -/
def rowB (a b : List Int) (i : Nat) : Nat → Bool
  | 0 => true
  | k + 1 => rowB a b i k && (nth a i * nth b k == nth a k * nth b i)
/-- .. for all k < i below n: the two lie on one line. -/
def lineB (a b : List Int) : Nat → Bool
  | 0 => true
  | i + 1 => lineB a b i && rowB a b i i

theorem lag1 (a x : Int) : (a * a) * (x * x) = (a * x) * (a * x) := by simp only [Int.mul_comm, Int.mul_left_comm]
theorem lag2 (a b x y : Int) : (a * a + b * b) * (x * x + y * y) - (a * x + b * y) * (a * x + b * y) = (b * x - a * y) * (b * x - a * y) := by (try simp only [Int.two_mul]); simp only [Int.mul_add, Int.add_mul, Int.mul_sub, Int.sub_mul, Int.one_mul, Int.mul_one, Int.mul_comm, Int.mul_left_comm, Int.mul_assoc]; omega
theorem lag3 (a b c x y z : Int) : (a * a + b * b + c * c) * (x * x + y * y + z * z) - (a * x + b * y + c * z) * (a * x + b * y + c * z) = (b * x - a * y) * (b * x - a * y) + (c * x - a * z) * (c * x - a * z) + (c * y - b * z) * (c * y - b * z) := by (try simp only [Int.two_mul]); simp only [Int.mul_add, Int.add_mul, Int.mul_sub, Int.sub_mul, Int.one_mul, Int.mul_one, Int.mul_comm, Int.mul_left_comm, Int.mul_assoc]; omega
theorem lag4 (a b c d x y z w : Int) : (a * a + b * b + c * c + d * d) * (x * x + y * y + z * z + w * w) - (a * x + b * y + c * z + d * w) * (a * x + b * y + c * z + d * w) =
    (b * x - a * y) * (b * x - a * y) + (c * x - a * z) * (c * x - a * z) + (c * y - b * z) * (c * y - b * z) + (d * x - a * w) * (d * x - a * w) + (d * y - b * w) * (d * y - b * w) + (d * z - c * w) * (d * z - c * w) := by (try simp only [Int.two_mul]); simp only [Int.mul_add, Int.add_mul, Int.mul_sub, Int.sub_mul, Int.one_mul, Int.mul_one, Int.mul_comm, Int.mul_left_comm, Int.mul_assoc]; omega

theorem sq_zero {x : Int} (h : x * x = 0) : x = 0 := by
  rcases Int.mul_eq_zero.1 h with h | h <;> exact h
theorem sq_iff (x y : Int) : (x - y) * (x - y) = 0 ↔ x = y := by
  constructor
  · intro h; have := sq_zero h; omega
  · intro h; subst h; simp

theorem cauchy_core {a b : List Int} (h1 : 1 ≤ a.length) (h4 : a.length ≤ 4) (hl : a.length = b.length) :
    sumTo (mulF a b) a.length * sumTo (mulF a b) a.length ≤ sumTo (mulF a a) a.length * sumTo (mulF b b) a.length ∧
    (sumTo (mulF a b) a.length * sumTo (mulF a b) a.length = sumTo (mulF a a) a.length * sumTo (mulF b b) a.length ↔ lineB a b a.length = true) := by
  match a, b, hl with
  | [a0], [b0], _ =>
    have L := lag1 a0 b0
    simp only [List.length, sumTo, mulF, nth, List.getD, List.getElem?_cons_zero, Option.getD_some, Int.zero_add, lineB, rowB]
    exact ⟨by omega, by simp; omega⟩
  | [a0, a1], [b0, b1], _ =>
    have L := lag2 a0 a1 b0 b1
    have s1 := sq_nonneg (a1 * b0 - a0 * b1)
    have i1 := sq_iff (a1 * b0) (a0 * b1)
    simp only [List.length, sumTo, mulF, nth, List.getD, List.getElem?_cons_zero, List.getElem?_cons_succ, Option.getD_some, Int.zero_add, lineB, rowB, Bool.true_and, beq_iff_eq]
    refine ⟨by omega, ?_⟩
    rw [← i1]
    omega
  | [a0, a1, a2], [b0, b1, b2], _ =>
    have L := lag3 a0 a1 a2 b0 b1 b2
    have s1 := sq_nonneg (a1 * b0 - a0 * b1)
    have s2 := sq_nonneg (a2 * b0 - a0 * b2)
    have s3 := sq_nonneg (a2 * b1 - a1 * b2)
    have i1 := sq_iff (a1 * b0) (a0 * b1)
    have i2 := sq_iff (a2 * b0) (a0 * b2)
    have i3 := sq_iff (a2 * b1) (a1 * b2)
    simp only [List.length, sumTo, mulF, nth, List.getD, List.getElem?_cons_zero, List.getElem?_cons_succ, Option.getD_some, Int.zero_add, lineB, rowB, Bool.true_and, Bool.and_eq_true, beq_iff_eq]
    refine ⟨by omega, ?_⟩
    rw [← i1, ← i2, ← i3]
    omega
  | [a0, a1, a2, a3], [b0, b1, b2, b3], _ =>
    have L := lag4 a0 a1 a2 a3 b0 b1 b2 b3
    have s1 := sq_nonneg (a1 * b0 - a0 * b1)
    have s2 := sq_nonneg (a2 * b0 - a0 * b2)
    have s3 := sq_nonneg (a2 * b1 - a1 * b2)
    have s4 := sq_nonneg (a3 * b0 - a0 * b3)
    have s5 := sq_nonneg (a3 * b1 - a1 * b3)
    have s6 := sq_nonneg (a3 * b2 - a2 * b3)
    have i1 := sq_iff (a1 * b0) (a0 * b1)
    have i2 := sq_iff (a2 * b0) (a0 * b2)
    have i3 := sq_iff (a2 * b1) (a1 * b2)
    have i4 := sq_iff (a3 * b0) (a0 * b3)
    have i5 := sq_iff (a3 * b1) (a1 * b3)
    have i6 := sq_iff (a3 * b2) (a2 * b3)
    simp only [List.length, sumTo, mulF, nth, List.getD, List.getElem?_cons_zero, List.getElem?_cons_succ, Option.getD_some, Int.zero_add, lineB, rowB, Bool.true_and, Bool.and_eq_true, beq_iff_eq]
    refine ⟨by omega, ?_⟩
    rw [← i1, ← i2, ← i3, ← i4, ← i5, ← i6]
    omega

def zeros (n : Nat) : List Int := tabL (fun _ => 0) n
theorem zeros_ok (n : Nat) (h1 : 1 ≤ n) (h4 : n ≤ 4) : okB (zeros n) = true := okB_mk (by simp [zeros, tabL_length, h1]) (by simp [zeros, tabL_length, h4]) (fun i hi => by
  rw [zeros, tabL_length] at hi; rw [zeros, tabL_getD _ _ _ hi]; omega)
theorem sum_expand (a b : List Int) (n : Nat) : sumTo (sqF a b) n = sumTo (mulF a a) n + sumTo (mulF b b) n - 2 * sumTo (mulF a b) n := by
  induction n with
  | zero => simp [sumTo]
  | succ n ih =>
    simp only [sumTo]
    rw [ih]
    have : sqF a b n = mulF a a n + mulF b b n - 2 * mulF a b n := by unfold sqF mulF; (try simp only [Int.two_mul]); simp only [Int.mul_add, Int.add_mul, Int.mul_sub, Int.sub_mul, Int.one_mul, Int.mul_one, Int.mul_comm, Int.mul_left_comm, Int.mul_assoc]; omega
    omega
theorem far_zeros {a : List Int} (ha : okB a = true) : farV a (zeros a.length) = sumTo (mulF a a) a.length := by
  have h4 := okB_len ha
  have ht : twoB a (zeros a.length) = true := twoB_true ha (zeros_ok _ h4.1 h4.2) (by simp [zeros, tabL_length])
  unfold farV
  rw [if_pos ht]
  refine sumTo_congr _ _ _ (fun i hi => ?_)
  have : nth (zeros a.length) i = 0 := by rw [zeros, tabL_getD _ _ _ hi]
  unfold sqF mulF
  rw [this, Int.sub_zero]

/-- What Cauchy's law asks, of two points a and b. -/
theorem cauchy {a b : List Int} (h : twoB a b = true) :
    0 ≤ farV a b ∧ farV a b ≤ 16000000 ∧ -4000000 ≤ dotV a b ∧ dotV a b ≤ 4000000 ∧ 0 ≤ farV a (zeros a.length) ∧ farV a (zeros a.length) ≤ 4000000 ∧ 0 ≤ farV b (zeros a.length) ∧ farV b (zeros a.length) ≤ 4000000 ∧
    dotV a b * dotV a b ≤ farV a (zeros a.length) * farV b (zeros a.length) ∧ (dotV a b * dotV a b = farV a (zeros a.length) * farV b (zeros a.length) ↔ lineB a b a.length = true) ∧
    farV a b = farV a (zeros a.length) + farV b (zeros a.length) - 2 * dotV a b := by
  obtain ⟨ha, hb, hl⟩ := twoB_of h
  have h4 := okB_len ha
  have e1 := far_zeros ha
  have e2 : farV b (zeros a.length) = sumTo (mulF b b) a.length := by have := far_zeros hb; rw [← hl] at this; exact this
  have e3 : dotV a b = sumTo (mulF a b) a.length := by unfold dotV; rw [if_pos h]
  have e4 : farV a b = sumTo (sqF a b) a.length := by unfold farV; rw [if_pos h]
  have b1 := sumTo_le (sqF a b) 0 4000000 (sqF_bd ha hb) a.length
  have b2 := sumTo_le (mulF a b) (-1000000) 1000000 (mulF_bd ha hb) a.length
  have b3 := sumTo_le (mulF a a) (-1000000) 1000000 (mulF_bd ha ha) a.length
  have b4 := sumTo_le (mulF b b) (-1000000) 1000000 (mulF_bd hb hb) a.length
  have b5 := sumsq_nonneg (nth a) a.length
  have b6 := sumsq_nonneg (nth b) a.length
  have c1 : sumTo (mulF a a) a.length = sumTo (fun i => nth a i * nth a i) a.length := rfl
  have c2 : sumTo (mulF b b) a.length = sumTo (fun i => nth b i * nth b i) a.length := rfl
  have C := cauchy_core h4.1 h4.2 hl
  have X := sum_expand a b a.length
  rw [e1, e2, e3, e4]
  exact ⟨by omega, by omega, by omega, by omega, by omega, by omega, by omega, by omega, C.1, C.2, X⟩

end Go.Proofs.Ytpnccjcgnmhncaa
