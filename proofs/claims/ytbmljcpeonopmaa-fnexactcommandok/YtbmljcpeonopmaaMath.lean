/-
  Plain mathematics for the laws of chapter 1 (no program is named here): what a point is, the sums over two points, and what holds of them.
-/
namespace Go.Proofs.Ytbmljcpeonopmaa

/-- The i-th number, 0 behind the end. -/
def nth (xs : List Int) (i : Nat) : Int := xs.getD i 0
def inB (x : Int) : Bool := decide (-1000 ≤ x) && decide (x ≤ 1000)
def okB (xs : List Int) : Bool := decide (1 ≤ xs.length) && decide (xs.length ≤ 4) && xs.all inB
def twoB (a b : List Int) : Bool := okB a && okB b && decide (a.length = b.length)
def sumTo (f : Nat → Int) : Nat → Int
  | 0 => 0
  | k + 1 => sumTo f k + f k
def maxTo (f : Nat → Int) : Nat → Int
  | 0 => 0
  | k + 1 => max (maxTo f k) (f k)
def sqF (a b : List Int) (i : Nat) : Int := (nth a i - nth b i) * (nth a i - nth b i)
def mulF (a b : List Int) (i : Nat) : Int := nth a i * nth b i
def gapF (a b : List Int) (i : Nat) : Int := max (nth a i - nth b i) (nth b i - nth a i)
def addF (a b : List Int) (i : Nat) : Int := nth a i + nth b i
def farV (a b : List Int) : Int := if twoB a b = true then sumTo (sqF a b) a.length else -1
def dotV (a b : List Int) : Int := if twoB a b = true then sumTo (mulF a b) a.length else 0
def stepsV (a b : List Int) : Int := if twoB a b = true then sumTo (gapF a b) a.length else -1
def reachV (a b : List Int) : Int := if twoB a b = true then maxTo (gapF a b) a.length else -1
def tabL (f : Nat → Int) (n : Nat) : List Int := (List.range n).map f
def movedL (a b : List Int) : List Int := if twoB a b = true then (if okB (tabL (addF a b) a.length) = true then tabL (addF a b) a.length else []) else []

theorem inB_iff (x : Int) : inB x = true ↔ -1000 ≤ x ∧ x ≤ 1000 := by simp [inB]

theorem okB_len {xs : List Int} (h : okB xs = true) : 1 ≤ xs.length ∧ xs.length ≤ 4 := by
  simp [okB] at h; omega

theorem okB_at {xs : List Int} (h : okB xs = true) (i : Nat) : -1000 ≤ nth xs i ∧ nth xs i ≤ 1000 := by
  simp only [okB, Bool.and_eq_true, List.all_eq_true] at h
  by_cases hi : i < xs.length
  · have := h.2 xs[i] (List.getElem_mem hi)
    rw [inB_iff] at this
    simpa [nth, List.getD, hi] using this
  · simp [nth, List.getD, hi]

theorem okB_mk {xs : List Int} (h1 : 1 ≤ xs.length) (h4 : xs.length ≤ 4) (h : ∀ i, i < xs.length → -1000 ≤ nth xs i ∧ nth xs i ≤ 1000) : okB xs = true := by
  simp only [okB, Bool.and_eq_true, List.all_eq_true, decide_eq_true_eq]
  refine ⟨⟨h1, h4⟩, fun x hx => ?_⟩
  obtain ⟨i, hi, rfl⟩ := List.getElem_of_mem hx
  rw [inB_iff]
  have := h i hi
  simpa [nth, List.getD, hi] using this

theorem okB_short {xs : List Int} (h : xs.length < 1) : okB xs = false := by simp [okB]; omega
theorem okB_long {xs : List Int} (h : 4 < xs.length) : okB xs = false := by simp [okB]; omega
theorem okB_out {xs : List Int} (i : Nat) (h : nth xs i < -1000 ∨ 1000 < nth xs i) : okB xs = false := by
  rcases hb : okB xs with _ | _
  · rfl
  · have := okB_at hb i; omega

theorem twoB_of {a b : List Int} (h : twoB a b = true) : okB a = true ∧ okB b = true ∧ a.length = b.length := by
  simp [twoB] at h; exact ⟨h.1.1, h.1.2, h.2⟩

theorem sumTo_le (f : Nat → Int) (lo hi : Int) (h : ∀ i, lo ≤ f i ∧ f i ≤ hi) (k : Nat) : lo * k ≤ sumTo f k ∧ sumTo f k ≤ hi * k := by
  induction k with
  | zero => simp [sumTo]
  | succ k ih =>
    have := h k
    simp only [sumTo]
    rw [show ((k + 1 : Nat) : Int) = (k : Int) + 1 by omega, Int.mul_add, Int.mul_add]
    omega

theorem maxTo_le (f : Nat → Int) (hi : Int) (h0 : 0 ≤ hi) (h : ∀ i, f i ≤ hi) (k : Nat) : 0 ≤ maxTo f k ∧ maxTo f k ≤ hi := by
  induction k with
  | zero => simp [maxTo]; exact h0
  | succ k ih => have := h k; simp only [maxTo]; omega

theorem sq_nonneg (x : Int) : 0 ≤ x * x := by
  rcases Int.le_total 0 x with h | h
  · exact Int.mul_nonneg h h
  · have := Int.mul_nonneg (a := -x) (b := -x) (by omega) (by omega)
    rwa [Int.neg_mul_neg] at this

theorem mul_bd {x y m : Int} (_hm : 0 ≤ m) (hx : -m ≤ x ∧ x ≤ m) (hy : -m ≤ y ∧ y ≤ m) : -(m * m) ≤ x * y ∧ x * y ≤ m * m := by
  have a1 := Int.mul_nonneg (a := m - x) (b := m + y) (by omega) (by omega)
  have a2 := Int.mul_nonneg (a := m + x) (b := m - y) (by omega) (by omega)
  have a3 := Int.mul_nonneg (a := m - x) (b := m - y) (by omega) (by omega)
  have a4 := Int.mul_nonneg (a := m + x) (b := m + y) (by omega) (by omega)
  simp only [Int.mul_add, Int.add_mul, Int.mul_sub, Int.sub_mul] at a1 a2 a3 a4
  rw [Int.mul_comm m y] at *
  generalize x * y = p at *
  generalize x * m = q at *
  generalize y * m = r at *
  generalize m * m = s at *
  omega

theorem sqF_bd {a b : List Int} (ha : okB a = true) (hb : okB b = true) (i : Nat) : 0 ≤ sqF a b i ∧ sqF a b i ≤ 4000000 := by
  have h1 := okB_at ha i; have h2 := okB_at hb i
  refine ⟨sq_nonneg _, ?_⟩
  have := (mul_bd (x := nth a i - nth b i) (y := nth a i - nth b i) (m := 2000) (by omega) (by omega) (by omega)).2
  simpa [sqF] using this

theorem mulF_bd {a b : List Int} (ha : okB a = true) (hb : okB b = true) (i : Nat) : -1000000 ≤ mulF a b i ∧ mulF a b i ≤ 1000000 := by
  have h1 := okB_at ha i; have h2 := okB_at hb i
  have := mul_bd (x := nth a i) (y := nth b i) (m := 1000) (by omega) (by omega) (by omega)
  simpa [mulF] using this

theorem gapF_bd {a b : List Int} (ha : okB a = true) (hb : okB b = true) (i : Nat) : 0 ≤ gapF a b i ∧ gapF a b i ≤ 2000 := by
  have h1 := okB_at ha i; have h2 := okB_at hb i
  unfold gapF; omega

theorem addF_bd {a b : List Int} (ha : okB a = true) (hb : okB b = true) (i : Nat) : -2000 ≤ addF a b i ∧ addF a b i ≤ 2000 := by
  have h1 := okB_at ha i; have h2 := okB_at hb i
  unfold addF; omega

theorem tabL_length (f : Nat → Int) (n : Nat) : (tabL f n).length = n := by simp [tabL]
theorem tabL_getD (f : Nat → Int) (n i : Nat) (h : i < n) : nth (tabL f n) i = f i := by simp [nth, tabL, List.getD, h]
theorem tabL_succ (f : Nat → Int) (n : Nat) : tabL f (n + 1) = tabL f n ++ [f n] := by simp [tabL, List.range_succ]
theorem sumTo_congr (f g : Nat → Int) (n : Nat) (h : ∀ i, i < n → f i = g i) : sumTo f n = sumTo g n := by
  induction n with
  | zero => rfl
  | succ n ih => simp only [sumTo]; rw [ih (fun i hi => h i (by omega)), h n (by omega)]
theorem maxTo_congr (f g : Nat → Int) (n : Nat) (h : ∀ i, i < n → f i = g i) : maxTo f n = maxTo g n := by
  induction n with
  | zero => rfl
  | succ n ih => simp only [maxTo]; rw [ih (fun i hi => h i (by omega)), h n (by omega)]


def absV (x : Int) : Int := max x (-x)
def maxV (x y : Int) : Int := max x y
theorem gapF_abs (a b : List Int) (i : Nat) : gapF a b i = absV (nth a i - nth b i) := by unfold gapF absV; omega
theorem twoB_true {a b : List Int} (ha : okB a = true) (hb : okB b = true) (hl : a.length = b.length) : twoB a b = true := by simp [twoB, ha, hb, hl]
theorem twoB_left {a b : List Int} (ha : okB a = false) : twoB a b = false := by simp [twoB, ha]
theorem twoB_right {a b : List Int} (hb : okB b = false) : twoB a b = false := by simp [twoB, hb]
theorem twoB_len {a b : List Int} (hl : ¬ a.length = b.length) : twoB a b = false := by simp [twoB, hl]

end Go.Proofs.Ytbmljcpeonopmaa
