/-
  Plain mathematics for the laws of chapter 11: the distance of marks by kind, and what the third side allows.
-/
import Derived.Test.YtfbindjacmaeoaaZBest
namespace Go.Proofs.Ytfbindjacmaeoaa

/-- The distance of two marks by their places in the list. -/
def zD (ms : List Mk) (kd : Int) (i j : Nat) : Int := max 0 (betV (mat ms i) (mat ms j) kd)
/-- By Far the square makes four of two. -/
def zK (kd : Int) : Int := if kd = 1 then 2 else 1
theorem zD_nn (ms : List Mk) (kd : Int) (i j : Nat) : 0 ≤ zD ms kd i j := by unfold zD; omega
theorem zD_le (ms : List Mk) (kd : Int) (i j : Nat) : zD ms kd i j ≤ 16000000 := by have := betV_le (mat ms i) (mat ms j) kd; unfold zD; omega
theorem sumTo_nought (f : Nat → Int) (h : ∀ i, f i = 0) (n : Nat) : sumTo f n = 0 := by
  induction n with
  | zero => rfl
  | succ n ih => simp only [sumTo]; rw [ih, h n]; rfl
theorem maxTo_nought (f : Nat → Int) (h : ∀ i, f i = 0) (n : Nat) : maxTo f n = 0 := by
  induction n with
  | zero => rfl
  | succ n ih => simp only [maxTo]; rw [ih, h n]; rfl
theorem zD_self (ms : List Mk) (kd : Int) (i : Nat) : zD ms kd i i = 0 := by
  have h1 : ∀ x : List Int, farV x x ≤ 0 := fun x => by
    unfold farV; split
    · rw [sumTo_nought _ (fun i => by simp [sqF])]; omega
    · omega
  have h2 : ∀ x : List Int, stepsV x x ≤ 0 := fun x => by
    unfold stepsV; split
    · rw [sumTo_nought _ (fun i => by unfold gapF; omega)]; omega
    · omega
  have h3 : ∀ x : List Int, reachV x x ≤ 0 := fun x => by
    unfold reachV; split
    · rw [maxTo_nought _ (fun i => by unfold gapF; omega)]; omega
    · omega
  have a1 := h1 (mat ms i)
  have a2 := h2 (mat ms i)
  have a3 := h3 (mat ms i)
  unfold zD betV
  split
  · omega
  · split
    · omega
    · split <;> omega
theorem sq_third (x y z : Int) : (x - y) * (x - y) ≤ 2 * ((x - z) * (x - z) + (y - z) * (y - z)) := by
  have h := sq_nonneg ((x - z) + (y - z))
  have e : ((x - z) + (y - z)) * ((x - z) + (y - z)) = 2 * ((x - z) * (x - z) + (y - z) * (y - z)) - (x - y) * (x - y) := by
    simp only [Int.sub_mul, Int.mul_sub, Int.add_mul, Int.mul_add]
    rw [Int.mul_comm y x, Int.mul_comm z x, Int.mul_comm z y]
    omega
  omega
theorem sum_twice (f g h : Nat → Int) (H : ∀ i, f i ≤ 2 * (g i + h i)) (n : Nat) : sumTo f n ≤ 2 * (sumTo g n + sumTo h n) := by
  induction n with
  | zero => simp [sumTo]
  | succ n ih => have := H n; simp only [sumTo]; omega
theorem zD_in {ms : List Mk} (h : marksB ms = true) (kd : Int) (hk : kindB kd = true) {i j : Nat} (hi : i < ms.length) (hj : j < ms.length) : zD ms kd i j = betV (mat ms i) (mat ms j) kd := by
  have ht := marks_two h hi hj
  obtain ⟨ha, hb, hl⟩ := twoB_of ht
  have h1 := third ht ht
  have hk' := (kindB_iff kd).1 hk
  unfold zD
  have : 0 ≤ betV (mat ms i) (mat ms j) kd := by
    unfold betV
    split
    · omega
    · split
      · omega
      · split <;> omega
  omega
theorem zD_comm (ms : List Mk) (kd : Int) (i j : Nat) : zD ms kd i j = zD ms kd j i := by
  unfold zD betV
  have hf : ∀ a b : List Int, farV a b = farV b a := fun a b => by
    unfold farV
    by_cases ht : twoB a b = true
    · obtain ⟨ha, hb, hl⟩ := twoB_of ht
      rw [if_pos ht, if_pos (twoB_true hb ha hl.symm), hl]
      refine sumTo_congr _ _ _ (fun i _ => ?_)
      simp only [sqF]
      rw [show nth b i - nth a i = -(nth a i - nth b i) by omega, Int.neg_mul_neg]
    · have h' : ¬ twoB b a = true := fun h2 => by
        obtain ⟨ha, hb, hl⟩ := twoB_of h2
        exact ht (twoB_true hb ha hl.symm)
      rw [if_neg ht, if_neg h']
  rw [hf (mat ms i), stepsV_comm (mat ms j), reachV_comm (mat ms j)]
theorem zD_third {ms : List Mk} (h : marksB ms = true) (kd : Int) (hk : kindB kd = true) (i j b : Nat) (hi : i < ms.length) (hj : j < ms.length) (hb : b < ms.length) : zD ms kd i j ≤ zK kd * (zD ms kd i b + zD ms kd j b) := by
  have hij := marks_two h hi hj
  have hib := marks_two h hi hb
  have hjb := marks_two h hj hb
  have t := third hij hib
  have hk' := (kindB_iff kd).1 hk
  rw [zD_in h kd hk hi hj, zD_in h kd hk hi hb, zD_comm ms kd j b, zD_in h kd hk hb hj]
  unfold zK betV
  by_cases k1 : kd = 1
  · simp only [k1, if_true]
    have hbj := marks_two h hb hj
    obtain ⟨_, _, l1⟩ := twoB_of hij
    obtain ⟨_, _, l2⟩ := twoB_of hib
    rw [farV, if_pos hij, farV, if_pos hib, farV, if_pos hbj, ← l2]
    refine sum_twice _ _ _ (fun i => ?_) _
    simp only [sqF]
    rw [show (nth (mat ms b) i - nth (mat ms j) i) * (nth (mat ms b) i - nth (mat ms j) i) = (nth (mat ms j) i - nth (mat ms b) i) * (nth (mat ms j) i - nth (mat ms b) i) by rw [show nth (mat ms b) i - nth (mat ms j) i = -(nth (mat ms j) i - nth (mat ms b) i) by omega, Int.neg_mul_neg]]
    exact sq_third _ _ _
  · simp only [k1, if_false, Int.one_mul]
    by_cases k2 : kd = 2
    · simp only [k2, if_true]; omega
    · have k3 : kd = 3 := by omega
      simp [k3]; omega

end Go.Proofs.Ytfbindjacmaeoaa
