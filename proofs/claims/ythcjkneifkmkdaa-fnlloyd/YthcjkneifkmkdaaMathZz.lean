/-
  Plain mathematics for the laws of chapter 1 (no program is named here): what a point is, the sums over two points, and what holds of them.
  Plain mathematics of Steps, Reach, Far and Dot over two and three points (no program is named here).
  Plain mathematics for the laws of chapter 2 (no program is named here): marks, the distance by kind, the diameter and the middle.
  Plain mathematics for the laws of chapter 3 (no program is named here): hits, their order, the sorted list, the first ones, each number once.
  Plain mathematics for the laws of chapter 7 (no program is named here): numbers divided and rounded down, the cell of a point.
  Plain mathematics for the laws of chapter 10 (no program is named here): centers, the nearest of them, groups, means, and what shifting costs.
  Plain mathematics for the laws of chapter 4 (no program is named here): boxes.
-/
namespace Go.Proofs.Ythcjkneifkmkdaa

/-- The i-th number, 0 behind the end. -/
def nth (xs : List Int) (i : Nat) : Int := xs.getD i 0
def inB (x : Int) : Bool := decide (-1000 ≤ x) && decide (x ≤ 1000)
def okB (xs : List Int) : Bool := decide (1 ≤ xs.length) && decide (xs.length ≤ 4) && xs.all inB
def twoB (a b : List Int) : Bool := okB a && okB b && decide (a.length = b.length)
def sumTo (f : Nat → Int) : Nat → Int
  | 0 => 0
  | k + 1 => sumTo f k + f k
def maxTo (f : Nat → Int) : Nat → Int
  | 0 => 0
  | k + 1 => max (maxTo f k) (f k)
def sqF (a b : List Int) (i : Nat) : Int := (nth a i - nth b i) * (nth a i - nth b i)
def mulF (a b : List Int) (i : Nat) : Int := nth a i * nth b i
def gapF (a b : List Int) (i : Nat) : Int := max (nth a i - nth b i) (nth b i - nth a i)
def addF (a b : List Int) (i : Nat) : Int := nth a i + nth b i
def farV (a b : List Int) : Int := if twoB a b = true then sumTo (sqF a b) a.length else -1
def dotV (a b : List Int) : Int := if twoB a b = true then sumTo (mulF a b) a.length else 0
def stepsV (a b : List Int) : Int := if twoB a b = true then sumTo (gapF a b) a.length else -1
def reachV (a b : List Int) : Int := if twoB a b = true then maxTo (gapF a b) a.length else -1
def tabL (f : Nat → Int) (n : Nat) : List Int := (List.range n).map f
def movedL (a b : List Int) : List Int := if twoB a b = true then (if okB (tabL (addF a b) a.length) = true then tabL (addF a b) a.length else []) else []

theorem inB_iff (x : Int) : inB x = true ↔ -1000 ≤ x ∧ x ≤ 1000 := by simp [inB]

theorem okB_len {xs : List Int} (h : okB xs = true) : 1 ≤ xs.length ∧ xs.length ≤ 4 := by
  simp [okB] at h; omega

theorem okB_at {xs : List Int} (h : okB xs = true) (i : Nat) : -1000 ≤ nth xs i ∧ nth xs i ≤ 1000 := by
  simp only [okB, Bool.and_eq_true, List.all_eq_true] at h
  by_cases hi : i < xs.length
  · have := h.2 xs[i] (List.getElem_mem hi)
    rw [inB_iff] at this
    simpa [nth, List.getD, hi] using this
  · simp [nth, List.getD, hi]

theorem okB_mk {xs : List Int} (h1 : 1 ≤ xs.length) (h4 : xs.length ≤ 4) (h : ∀ i, i < xs.length → -1000 ≤ nth xs i ∧ nth xs i ≤ 1000) : okB xs = true := by
  simp only [okB, Bool.and_eq_true, List.all_eq_true, decide_eq_true_eq]
  refine ⟨⟨h1, h4⟩, fun x hx => ?_⟩
  obtain ⟨i, hi, rfl⟩ := List.getElem_of_mem hx
  rw [inB_iff]
  have := h i hi
  simpa [nth, List.getD, hi] using this

theorem okB_short {xs : List Int} (h : xs.length < 1) : okB xs = false := by simp [okB]; omega
theorem okB_long {xs : List Int} (h : 4 < xs.length) : okB xs = false := by simp [okB]; omega
theorem okB_out {xs : List Int} (i : Nat) (h : nth xs i < -1000 ∨ 1000 < nth xs i) : okB xs = false := by
  rcases hb : okB xs with _ | _
  · rfl
  · have := okB_at hb i; omega

theorem twoB_of {a b : List Int} (h : twoB a b = true) : okB a = true ∧ okB b = true ∧ a.length = b.length := by
  simp [twoB] at h; exact ⟨h.1.1, h.1.2, h.2⟩

theorem sumTo_le (f : Nat → Int) (lo hi : Int) (h : ∀ i, lo ≤ f i ∧ f i ≤ hi) (k : Nat) : lo * k ≤ sumTo f k ∧ sumTo f k ≤ hi * k := by
  induction k with
  | zero => simp [sumTo]
  | succ k ih =>
    have := h k
    simp only [sumTo]
    rw [show ((k + 1 : Nat) : Int) = (k : Int) + 1 by omega, Int.mul_add, Int.mul_add]
    omega

theorem maxTo_le (f : Nat → Int) (hi : Int) (h0 : 0 ≤ hi) (h : ∀ i, f i ≤ hi) (k : Nat) : 0 ≤ maxTo f k ∧ maxTo f k ≤ hi := by
  induction k with
  | zero => simp [maxTo]; exact h0
  | succ k ih => have := h k; simp only [maxTo]; omega

theorem sq_nonneg (x : Int) : 0 ≤ x * x := by
  rcases Int.le_total 0 x with h | h
  · exact Int.mul_nonneg h h
  · have := Int.mul_nonneg (a := -x) (b := -x) (by omega) (by omega)
    rwa [Int.neg_mul_neg] at this

theorem mul_bd {x y m : Int} (_hm : 0 ≤ m) (hx : -m ≤ x ∧ x ≤ m) (hy : -m ≤ y ∧ y ≤ m) : -(m * m) ≤ x * y ∧ x * y ≤ m * m := by
  have a1 := Int.mul_nonneg (a := m - x) (b := m + y) (by omega) (by omega)
  have a2 := Int.mul_nonneg (a := m + x) (b := m - y) (by omega) (by omega)
  have a3 := Int.mul_nonneg (a := m - x) (b := m - y) (by omega) (by omega)
  have a4 := Int.mul_nonneg (a := m + x) (b := m + y) (by omega) (by omega)
  simp only [Int.mul_add, Int.add_mul, Int.mul_sub, Int.sub_mul] at a1 a2 a3 a4
  rw [Int.mul_comm m y] at *
  generalize x * y = p at *
  generalize x * m = q at *
  generalize y * m = r at *
  generalize m * m = s at *
  omega

theorem sqF_bd {a b : List Int} (ha : okB a = true) (hb : okB b = true) (i : Nat) : 0 ≤ sqF a b i ∧ sqF a b i ≤ 4000000 := by
  have h1 := okB_at ha i; have h2 := okB_at hb i
  refine ⟨sq_nonneg _, ?_⟩
  have := (mul_bd (x := nth a i - nth b i) (y := nth a i - nth b i) (m := 2000) (by omega) (by omega) (by omega)).2
  simpa [sqF] using this

theorem mulF_bd {a b : List Int} (ha : okB a = true) (hb : okB b = true) (i : Nat) : -1000000 ≤ mulF a b i ∧ mulF a b i ≤ 1000000 := by
  have h1 := okB_at ha i; have h2 := okB_at hb i
  have := mul_bd (x := nth a i) (y := nth b i) (m := 1000) (by omega) (by omega) (by omega)
  simpa [mulF] using this

theorem gapF_bd {a b : List Int} (ha : okB a = true) (hb : okB b = true) (i : Nat) : 0 ≤ gapF a b i ∧ gapF a b i ≤ 2000 := by
  have h1 := okB_at ha i; have h2 := okB_at hb i
  unfold gapF; omega

theorem addF_bd {a b : List Int} (ha : okB a = true) (hb : okB b = true) (i : Nat) : -2000 ≤ addF a b i ∧ addF a b i ≤ 2000 := by
  have h1 := okB_at ha i; have h2 := okB_at hb i
  unfold addF; omega

theorem tabL_length (f : Nat → Int) (n : Nat) : (tabL f n).length = n := by simp [tabL]
theorem tabL_getD (f : Nat → Int) (n i : Nat) (h : i < n) : nth (tabL f n) i = f i := by simp [nth, tabL, List.getD, h]
theorem tabL_succ (f : Nat → Int) (n : Nat) : tabL f (n + 1) = tabL f n ++ [f n] := by simp [tabL, List.range_succ]
theorem sumTo_congr (f g : Nat → Int) (n : Nat) (h : ∀ i, i < n → f i = g i) : sumTo f n = sumTo g n := by
  induction n with
  | zero => rfl
  | succ n ih => simp only [sumTo]; rw [ih (fun i hi => h i (by omega)), h n (by omega)]
theorem maxTo_congr (f g : Nat → Int) (n : Nat) (h : ∀ i, i < n → f i = g i) : maxTo f n = maxTo g n := by
  induction n with
  | zero => rfl
  | succ n ih => simp only [maxTo]; rw [ih (fun i hi => h i (by omega)), h n (by omega)]


def absV (x : Int) : Int := max x (-x)
def maxV (x y : Int) : Int := max x y
theorem gapF_abs (a b : List Int) (i : Nat) : gapF a b i = absV (nth a i - nth b i) := by unfold gapF absV; omega
theorem twoB_true {a b : List Int} (ha : okB a = true) (hb : okB b = true) (hl : a.length = b.length) : twoB a b = true := by simp [twoB, ha, hb, hl]
theorem twoB_left {a b : List Int} (ha : okB a = false) : twoB a b = false := by simp [twoB, ha]
theorem twoB_right {a b : List Int} (hb : okB b = false) : twoB a b = false := by simp [twoB, hb]
theorem twoB_len {a b : List Int} (hl : ¬ a.length = b.length) : twoB a b = false := by simp [twoB, hl]

end Go.Proofs.Ythcjkneifkmkdaa
namespace Go.Proofs.Ythcjkneifkmkdaa
set_option linter.unusedSimpArgs false

theorem list_eq_of_nth {xs ys : List Int} (hl : xs.length = ys.length) (h : ∀ j, j < xs.length → nth xs j = nth ys j) : xs = ys := by
  apply List.ext_getElem hl
  intro i h1 h2
  have := h i h1
  simpa [nth, List.getD, h1, h2] using this
theorem twoB_comm (a b : List Int) : twoB a b = twoB b a := by
  rcases h1 : okB a with _ | _ <;> rcases h2 : okB b with _ | _ <;> simp [twoB, h1, h2, eq_comm]
theorem gapF_comm (a b : List Int) (i : Nat) : gapF a b i = gapF b a i := by unfold gapF; omega
theorem mulF_comm (a b : List Int) (i : Nat) : mulF a b i = mulF b a i := Int.mul_comm _ _
theorem sqF_gap (a b : List Int) (i : Nat) : sqF a b i = gapF a b i * gapF a b i := by
  unfold sqF gapF
  rcases Int.le_total (nth a i - nth b i) (nth b i - nth a i) with h | h
  · rw [Int.max_eq_right h, show nth b i - nth a i = -(nth a i - nth b i) by omega, Int.neg_mul_neg]
  · rw [Int.max_eq_left h]
theorem stepsV_comm (a b : List Int) : stepsV b a = stepsV a b := by
  unfold stepsV
  rw [twoB_comm b a]
  by_cases h : twoB a b = true
  · rw [if_pos h, if_pos h, (twoB_of h).2.2]; exact sumTo_congr _ _ _ (fun i _ => gapF_comm b a i)
  · rw [if_neg h, if_neg h]
theorem reachV_comm (a b : List Int) : reachV b a = reachV a b := by
  unfold reachV
  rw [twoB_comm b a]
  by_cases h : twoB a b = true
  · rw [if_pos h, if_pos h, (twoB_of h).2.2]; exact maxTo_congr _ _ _ (fun i _ => gapF_comm b a i)
  · rw [if_neg h, if_neg h]
theorem dotV_comm (a b : List Int) : dotV b a = dotV a b := by
  unfold dotV
  rw [twoB_comm b a]
  by_cases h : twoB a b = true
  · rw [if_pos h, if_pos h, (twoB_of h).2.2]; exact sumTo_congr _ _ _ (fun i _ => mulF_comm b a i)
  · rw [if_neg h, if_neg h]

theorem sum_third (f g h : Nat → Int) (H : ∀ i, f i ≤ g i + h i) (n : Nat) : sumTo f n ≤ sumTo g n + sumTo h n := by
  induction n with
  | zero => simp [sumTo]
  | succ n ih => have := H n; simp only [sumTo]; omega
theorem max_third (f g h : Nat → Int) (H : ∀ i, f i ≤ g i + h i) (n : Nat) : maxTo f n ≤ maxTo g n + maxTo h n := by
  induction n with
  | zero => simp [maxTo]
  | succ n ih => have := H n; simp only [maxTo]; omega
theorem gap_third (a b c : List Int) (i : Nat) : gapF a b i ≤ gapF a c i + gapF c b i := by unfold gapF; omega

theorem max_le_sum (g : Nat → Int) (h : ∀ i, 0 ≤ g i) (n : Nat) : maxTo g n ≤ sumTo g n := by
  have h0 : ∀ n, 0 ≤ sumTo g n := fun n => by
    induction n with
    | zero => simp [sumTo]
    | succ n ih => have := h n; simp only [sumTo]; omega
  induction n with
  | zero => simp [maxTo, sumTo]
  | succ n ih => have := h n; have := h0 n; simp only [maxTo, sumTo]; omega
theorem sum_le_max (g : Nat → Int) (n : Nat) : sumTo g n ≤ n * maxTo g n := by
  induction n with
  | zero => simp [sumTo]
  | succ n ih =>
    simp only [sumTo, maxTo]
    have h1 : (n : Int) * maxTo g n ≤ n * max (maxTo g n) (g n) := Int.mul_le_mul_of_nonneg_left (by omega) (by omega)
    rw [show ((n + 1 : Nat) : Int) = (n : Int) + 1 by omega, Int.add_mul]
    omega
theorem sumsq_nonneg (g : Nat → Int) (n : Nat) : 0 ≤ sumTo (fun i => g i * g i) n := by
  induction n with
  | zero => simp [sumTo]
  | succ n ih => have := sq_nonneg (g n); simp only [sumTo]; omega
theorem max_sq (g : Nat → Int) (n : Nat) : maxTo g n * maxTo g n ≤ sumTo (fun i => g i * g i) n := by
  induction n with
  | zero => simp [maxTo, sumTo]
  | succ n ih =>
    simp only [maxTo, sumTo]
    have h1 := sq_nonneg (g n)
    have h2 := sumsq_nonneg g n
    rcases Int.le_total (maxTo g n) (g n) with h | h
    · rw [Int.max_eq_right h]; omega
    · rw [Int.max_eq_left h]; omega
theorem sumsq_le (g : Nat → Int) (h : ∀ i, 0 ≤ g i) (n : Nat) : 0 ≤ sumTo g n ∧ sumTo (fun i => g i * g i) n ≤ sumTo g n * sumTo g n := by
  induction n with
  | zero => simp [sumTo]
  | succ n ih =>
    have h1 := h n
    have h2 := Int.mul_nonneg ih.1 h1
    simp only [sumTo]
    refine ⟨by omega, ?_⟩
    rw [Int.mul_add, Int.add_mul, Int.add_mul, Int.mul_comm (g n) (sumTo g n)]
    omega
theorem sum_sq_le (g : Nat → Int) (n : Nat) : sumTo g n * sumTo g n ≤ n * sumTo (fun i => g i * g i) n := by
  induction n with
  | zero => simp [sumTo]
  | succ n ih =>
    simp only [sumTo]
    generalize hs : sumTo g n = s at *
    generalize hq : sumTo (fun i => g i * g i) n = q at *
    generalize hx : g n = x at *
    rcases Nat.eq_zero_or_pos n with h0 | h0
    · subst h0
      have e1 : s = 0 := by rw [← hs]; rfl
      have e2 : q = 0 := by rw [← hq]; rfl
      rw [e1, e2]; simp
    · have hk : (0 : Int) < (n : Int) := by omega
      rw [show ((n + 1 : Nat) : Int) = (n : Int) + 1 by omega]
      generalize (n : Int) = k at *
      have h1 : 0 ≤ k * (q + k * (x * x) - 2 * (s * x)) := by
        have := sq_nonneg (s - k * x)
        have e : (s - k * x) * (s - k * x) = s * s + k * (k * (x * x) - 2 * (s * x)) := by (try simp only [Int.two_mul]); simp only [Int.mul_add, Int.add_mul, Int.mul_sub, Int.sub_mul, Int.one_mul, Int.mul_one, Int.mul_comm, Int.mul_left_comm, Int.mul_assoc]; omega
        have e2 : k * (q + k * (x * x) - 2 * (s * x)) = k * q + k * (k * (x * x) - 2 * (s * x)) := by (try simp only [Int.two_mul]); simp only [Int.mul_add, Int.add_mul, Int.mul_sub, Int.sub_mul, Int.one_mul, Int.mul_one, Int.mul_comm, Int.mul_left_comm, Int.mul_assoc]; omega
        omega
      have h2 : 0 ≤ q + k * (x * x) - 2 * (s * x) := by
        rcases Int.lt_or_le (q + k * (x * x) - 2 * (s * x)) 0 with h | h
        · have := Int.mul_lt_mul_of_pos_left h hk
          omega
        · exact h
      have e3 : (s + x) * (s + x) = s * s + 2 * (s * x) + x * x := by (try simp only [Int.two_mul]); simp only [Int.mul_add, Int.add_mul, Int.mul_sub, Int.sub_mul, Int.one_mul, Int.mul_one, Int.mul_comm, Int.mul_left_comm, Int.mul_assoc]; omega
      have e4 : (k + 1) * (q + x * x) = k * q + q + k * (x * x) + x * x := by (try simp only [Int.two_mul]); simp only [Int.mul_add, Int.add_mul, Int.mul_sub, Int.sub_mul, Int.one_mul, Int.mul_one, Int.mul_comm, Int.mul_left_comm, Int.mul_assoc]; omega
      omega
theorem sum_zero (g : Nat → Int) (h : ∀ i, 0 ≤ g i) (n : Nat) (hz : sumTo g n = 0) : ∀ i, i < n → g i = 0 := by
  induction n with
  | zero => intro i hi; omega
  | succ n ih =>
    have h1 := h n
    have h2 := (sumsq_le g h n).1
    simp only [sumTo] at hz
    intro i hi
    rcases Nat.lt_or_ge i n with h3 | h3
    · exact ih (by omega) i h3
    · rw [show i = n by omega]; omega

/-- What the law of the third side asks, of two points a, b and a third one c. -/
theorem third {a b c : List Int} (hab : twoB a b = true) (hac : twoB a c = true) :
    0 ≤ stepsV a b ∧ stepsV a b ≤ 8000 ∧ 0 ≤ reachV a b ∧ reachV a b ≤ 2000 ∧ 0 ≤ farV a b ∧ farV a b ≤ 16000000 ∧
    0 ≤ stepsV a c ∧ stepsV a c ≤ 8000 ∧ 0 ≤ stepsV c b ∧ stepsV c b ≤ 8000 ∧ 0 ≤ reachV a c ∧ reachV a c ≤ 2000 ∧ 0 ≤ reachV c b ∧ reachV c b ≤ 2000 ∧
    (stepsV a b = 0 ↔ a = b) ∧ stepsV a b ≤ stepsV a c + stepsV c b ∧ reachV a b ≤ reachV a c + reachV c b ∧ reachV a b ≤ stepsV a b ∧
    stepsV a b ≤ a.length * reachV a b ∧ reachV a b * reachV a b ≤ farV a b ∧ farV a b ≤ stepsV a b * stepsV a b ∧ stepsV a b * stepsV a b ≤ a.length * farV a b := by
  obtain ⟨ha, hb, hl⟩ := twoB_of hab
  obtain ⟨_, hc, hl'⟩ := twoB_of hac
  have hcb : twoB c b = true := twoB_true hc hb (by omega)
  have h4 := okB_len ha
  have e1 : stepsV a b = sumTo (gapF a b) a.length := by unfold stepsV; rw [if_pos hab]
  have e2 : reachV a b = maxTo (gapF a b) a.length := by unfold reachV; rw [if_pos hab]
  have e3 : farV a b = sumTo (fun i => gapF a b i * gapF a b i) a.length := by unfold farV; rw [if_pos hab]; exact sumTo_congr _ _ _ (fun i _ => sqF_gap a b i)
  have e4 : stepsV a c = sumTo (gapF a c) a.length := by unfold stepsV; rw [if_pos hac]
  have e5 : stepsV c b = sumTo (gapF c b) a.length := by unfold stepsV; rw [if_pos hcb, hl']
  have e6 : reachV a c = maxTo (gapF a c) a.length := by unfold reachV; rw [if_pos hac]
  have e7 : reachV c b = maxTo (gapF c b) a.length := by unfold reachV; rw [if_pos hcb, hl']
  have e8 : farV a b = sumTo (sqF a b) a.length := by unfold farV; rw [if_pos hab]
  have hab0 := fun i => (gapF_bd ha hb i).1
  have b1 := sumTo_le (gapF a b) 0 2000 (gapF_bd ha hb) a.length
  have b2 := maxTo_le (gapF a b) 2000 (by omega) (fun i => (gapF_bd ha hb i).2) a.length
  have b3 := sumTo_le (sqF a b) 0 4000000 (sqF_bd ha hb) a.length
  have b4 := sumTo_le (gapF a c) 0 2000 (gapF_bd ha hc) a.length
  have b5 := sumTo_le (gapF c b) 0 2000 (gapF_bd hc hb) a.length
  have b6 := maxTo_le (gapF a c) 2000 (by omega) (fun i => (gapF_bd ha hc i).2) a.length
  have b7 := maxTo_le (gapF c b) 2000 (by omega) (fun i => (gapF_bd hc hb i).2) a.length
  refine ⟨by omega, by omega, by omega, by omega, by omega, by omega, by omega, by omega, by omega, by omega, by omega, by omega, by omega, by omega, ?_, ?_, ?_, ?_, ?_, ?_, ?_, ?_⟩
  · rw [e1]
    constructor
    · intro hz
      refine list_eq_of_nth hl (fun j hj => ?_)
      have := sum_zero (gapF a b) hab0 a.length hz j hj
      unfold gapF at this; omega
    · rintro rfl
      have : sumTo (gapF a a) a.length = sumTo (fun _ => 0) a.length := sumTo_congr _ _ _ (fun i _ => by unfold gapF; omega)
      rw [this]
      have := sumTo_le (fun _ => (0 : Int)) 0 0 (fun _ => ⟨Int.le_refl _, Int.le_refl _⟩) a.length
      omega
  · rw [e1, e4, e5]; exact sum_third _ _ _ (gap_third a b c) _
  · rw [e2, e6, e7]; exact max_third _ _ _ (gap_third a b c) _
  · rw [e1, e2]; exact max_le_sum _ hab0 _
  · rw [e1, e2]; exact sum_le_max _ _
  · rw [e2, e3]; exact max_sq _ _
  · rw [e1, e3]; exact (sumsq_le _ hab0 _).2
  · rw [e1, e3]; exact sum_sq_le _ _

end Go.Proofs.Ythcjkneifkmkdaa
namespace Go.Proofs.Ythcjkneifkmkdaa

abbrev Mk := Int × List Int
def mid (ms : List Mk) (i : Nat) : Int := (ms.getD i (0, [])).1
def mat (ms : List Mk) (i : Nat) : List Int := (ms.getD i (0, [])).2
def mOkAt (ms : List Mk) (i : Nat) : Bool :=
  decide (1 ≤ mid ms i) && decide (mid ms i ≤ 1000000) && okB (mat ms i) && decide ((mat ms i).length = (mat ms 0).length) && (decide (i = 0) || decide (mid ms (i - 1) < mid ms i))
def marksB (ms : List Mk) : Bool := decide (ms.length ≤ 60) && (List.range ms.length).all (mOkAt ms)
def kindB (k : Int) : Bool := decide (1 ≤ k) && decide (k ≤ 3)
def betV (a b : List Int) (k : Int) : Int := if k = 1 then farV a b else if k = 2 then stepsV a b else if k = 3 then reachV a b else -1
def betF (ms : List Mk) (p : List Int) (k : Int) (i : Nat) : Int := betV p (mat ms i) k
def mostV (ms : List Mk) (p : List Int) (k : Int) : Int := maxTo (betF ms p k) ms.length
def mostF (ms : List Mk) (k : Int) (i : Nat) : Int := mostV ms (mat ms i) k
def noneB (ms : List Mk) (k : Int) : Bool := decide (ms.length = 0) || !marksB ms || !kindB k
def diaV (ms : List Mk) (k : Int) : Int := if noneB ms k = true then -1 else maxTo (mostF ms k) ms.length
def bestI (ms : List Mk) (k : Int) : Nat → Nat
  | 0 => 0
  | n + 1 => if mostF ms k n < mostF ms k (bestI ms k n) then n else bestI ms k n
def midV (ms : List Mk) (k : Int) : Int := if noneB ms k = true then 0 else mid ms (bestI ms k ms.length)

theorem mOkAt_iff (ms : List Mk) (i : Nat) : mOkAt ms i = true ↔ 1 ≤ mid ms i ∧ mid ms i ≤ 1000000 ∧ okB (mat ms i) = true ∧ (mat ms i).length = (mat ms 0).length ∧ (i = 0 ∨ mid ms (i - 1) < mid ms i) := by
  simp [mOkAt, and_assoc]
theorem marksB_len {ms : List Mk} (h : marksB ms = true) : ms.length ≤ 60 := by simp [marksB] at h; exact h.1
theorem marksB_at {ms : List Mk} (h : marksB ms = true) {i : Nat} (hi : i < ms.length) : mOkAt ms i = true := by
  simp only [marksB, Bool.and_eq_true, List.all_eq_true] at h
  exact h.2 i (List.mem_range.2 hi)
theorem marksB_long {ms : List Mk} (h : 60 < ms.length) : marksB ms = false := by simp [marksB]; omega
theorem marksB_out {ms : List Mk} {i : Nat} (hi : i < ms.length) (h : mOkAt ms i = false) : marksB ms = false := by
  rcases hb : marksB ms with _ | _
  · rfl
  · rw [marksB_at hb hi] at h; cases h
theorem marksB_mk {ms : List Mk} (hl : ms.length ≤ 60) (h : ∀ i, i < ms.length → mOkAt ms i = true) : marksB ms = true := by
  simp only [marksB, Bool.and_eq_true, List.all_eq_true, decide_eq_true_eq]
  exact ⟨hl, fun i hi => h i (List.mem_range.1 hi)⟩
theorem mOkAt_false (ms : List Mk) (i : Nat) (h : ¬ (1 ≤ mid ms i ∧ mid ms i ≤ 1000000 ∧ okB (mat ms i) = true ∧ (mat ms i).length = (mat ms 0).length ∧ (i = 0 ∨ mid ms (i - 1) < mid ms i))) : mOkAt ms i = false := by
  rcases hb : mOkAt ms i with _ | _
  · rfl
  · exact absurd ((mOkAt_iff ms i).1 hb) h
theorem marks_two {ms : List Mk} (h : marksB ms = true) {i j : Nat} (hi : i < ms.length) (hj : j < ms.length) : twoB (mat ms i) (mat ms j) = true := by
  have a := (mOkAt_iff ms i).1 (marksB_at h hi)
  have b := (mOkAt_iff ms j).1 (marksB_at h hj)
  exact twoB_true a.2.2.1 b.2.2.1 (by omega)

theorem betV_le (a b : List Int) (k : Int) : -1 ≤ betV a b k ∧ betV a b k ≤ 16000000 := by
  rcases ht : twoB a b with _ | _
  · have : betV a b k = -1 := by simp [betV, farV, stepsV, reachV, ht]
    omega
  · obtain ⟨ha, hb, hl⟩ := twoB_of ht
    have h4 := okB_len ha
    have h1 := sumTo_le (sqF a b) 0 4000000 (sqF_bd ha hb) a.length
    have h2 := sumTo_le (gapF a b) 0 2000 (gapF_bd ha hb) a.length
    have h3 := maxTo_le (gapF a b) 2000 (by omega) (fun i => (gapF_bd ha hb i).2) a.length
    simp only [betV, farV, stepsV, reachV, ht, if_true]
    split
    · omega
    · split
      · omega
      · split <;> omega
theorem most_le (ms : List Mk) (p : List Int) (k : Int) (n : Nat) : 0 ≤ maxTo (betF ms p k) n ∧ maxTo (betF ms p k) n ≤ 16000000 :=
  maxTo_le _ _ (by omega) (fun i => (betV_le _ _ _).2) n
theorem mostF_le (ms : List Mk) (k : Int) (i : Nat) : 0 ≤ mostF ms k i ∧ mostF ms k i ≤ 16000000 := most_le _ _ _ _
theorem dia_le (ms : List Mk) (k : Int) (n : Nat) : 0 ≤ maxTo (mostF ms k) n ∧ maxTo (mostF ms k) n ≤ 16000000 :=
  maxTo_le _ _ (by omega) (fun i => (mostF_le _ _ _).2) n

theorem maxTo_ge (f : Nat → Int) (n j : Nat) (h : j < n) : f j ≤ maxTo f n := by
  induction n with
  | zero => omega
  | succ n ih =>
    simp only [maxTo]
    rcases Nat.lt_or_ge j n with h1 | h1
    · have := ih h1; omega
    · rw [show j = n by omega]; omega
theorem maxTo_lub (f : Nat → Int) (n : Nat) (c : Int) (h0 : 0 ≤ c) (h : ∀ j, j < n → f j ≤ c) : maxTo f n ≤ c := by
  induction n with
  | zero => exact h0
  | succ n ih => have := ih (fun j hj => h j (by omega)); have := h n (by omega); simp only [maxTo]; omega

theorem bestI_one (ms : List Mk) (k : Int) : bestI ms k 1 = 0 := by simp [bestI]
theorem bestI_lt (ms : List Mk) (k : Int) (n : Nat) (h : 0 < n) : bestI ms k n < n := by
  induction n with
  | zero => omega
  | succ n ih =>
    simp only [bestI]
    split
    · omega
    · rcases Nat.eq_zero_or_pos n with h0 | h0
      · subst h0; simp [bestI]
      · have := ih h0; omega
theorem bestI_least (ms : List Mk) (k : Int) (n j : Nat) (h : j < n) : mostF ms k (bestI ms k n) ≤ mostF ms k j := by
  induction n with
  | zero => omega
  | succ n ih =>
    simp only [bestI]
    rcases Nat.lt_or_ge j n with h1 | h1
    · have := ih h1
      split <;> omega
    · rw [show j = n by omega]
      split <;> omega

theorem noneB_of {ms : List Mk} {k : Int} (h : noneB ms k = false) : 0 < ms.length ∧ marksB ms = true ∧ kindB k = true := by
  simp [noneB] at h
  exact ⟨List.length_pos_iff.2 h.1.1, h.1.2, h.2⟩
theorem noneB_nil {ms : List Mk} {k : Int} (h : ms.length = 0) : noneB ms k = true := by simp [noneB, h]
theorem noneB_bad {ms : List Mk} {k : Int} (h : marksB ms = false) : noneB ms k = true := by simp [noneB, h]
theorem noneB_kind {ms : List Mk} {k : Int} (h : kindB k = false) : noneB ms k = true := by simp [noneB, h]
theorem noneB_false {ms : List Mk} {k : Int} (h0 : ms.length ≠ 0) (hm : marksB ms = true) (hk : kindB k = true) : noneB ms k = false := by simp [noneB, hm, hk]; simpa using h0
theorem kindB_iff (k : Int) : kindB k = true ↔ 1 ≤ k ∧ k ≤ 3 := by simp [kindB]
theorem kindB_false {k : Int} (h : ¬ (1 ≤ k ∧ k ≤ 3)) : kindB k = false := by
  rcases hb : kindB k with _ | _
  · rfl
  · exact absurd ((kindB_iff k).1 hb) h

end Go.Proofs.Ythcjkneifkmkdaa
namespace Go.Proofs.Ythcjkneifkmkdaa

/-- A hit: its number, and how far. -/
abbrev Ht := Int × Int
def aheadB (a b : Ht) : Bool := decide (a.2 < b.2) || (decide (a.2 = b.2) && decide (a.1 < b.1))
/-- In order, or alike. -/
def leH (a b : Ht) : Prop := a.2 < b.2 ∨ (a.2 = b.2 ∧ a.1 ≤ b.1)
def hnth (hs : List Ht) (i : Nat) : Ht := hs.getD i (0, 0)
def putL : List Ht → Ht → List Ht
  | [], h => [h]
  | x :: xs, h => if aheadB h x = true then h :: x :: xs else x :: putL xs h
def sortL (l : List Ht) : List Ht := l.foldl putL []
def SortedH (l : List Ht) : Prop := l.Pairwise leH

theorem aheadB_iff (a b : Ht) : aheadB a b = true ↔ a.2 < b.2 ∨ (a.2 = b.2 ∧ a.1 < b.1) := by simp [aheadB]
theorem aheadB_false (a b : Ht) : aheadB a b = false ↔ leH b a := by
  unfold leH
  rcases h : aheadB a b with _ | _
  · have : ¬ (a.2 < b.2 ∨ (a.2 = b.2 ∧ a.1 < b.1)) := fun hh => by rw [(aheadB_iff a b).2 hh] at h; cases h
    constructor
    · intro _; omega
    · intro _; rfl
  · have := (aheadB_iff a b).1 h
    constructor
    · intro hh; cases hh
    · intro hh; omega
theorem leH_refl (a : Ht) : leH a a := by unfold leH; omega
theorem leH_trans {a b c : Ht} (h : leH a b) (k : leH b c) : leH a c := by unfold leH at *; omega
theorem leH_antisymm {a b : Ht} (h : leH a b) (k : leH b a) : a = b := by
  unfold leH at *
  exact Prod.ext (by omega) (by omega)
theorem leH_total (a b : Ht) : leH a b ∨ leH b a := by unfold leH; omega
theorem leH_of_ahead {a b : Ht} (h : aheadB a b = true) : leH a b := by rw [aheadB_iff] at h; unfold leH; omega

theorem putL_perm (l : List Ht) (h : Ht) : (putL l h).Perm (h :: l) := by
  induction l with
  | nil => exact List.Perm.refl _
  | cons x xs ih =>
    unfold putL
    split
    · exact List.Perm.refl _
    · exact (List.Perm.cons x ih).trans (List.Perm.swap h x xs)
theorem putL_length (l : List Ht) (h : Ht) : (putL l h).length = l.length + 1 := by rw [(putL_perm l h).length_eq]; rfl
theorem putL_sorted {l : List Ht} (hl : SortedH l) (h : Ht) : SortedH (putL l h) := by
  unfold SortedH at *
  induction l with
  | nil => simp [putL]
  | cons x xs ih =>
    rw [List.pairwise_cons] at hl
    unfold putL
    split
    · rename_i ha
      have hx := leH_of_ahead ha
      exact List.pairwise_cons.2 ⟨fun y hy => by
        rcases List.mem_cons.1 hy with rfl | hy
        · exact hx
        · exact leH_trans hx (hl.1 y hy), List.pairwise_cons.2 hl⟩
    · rename_i ha
      have hx : leH x h := (aheadB_false h x).1 (by simpa using ha)
      refine List.pairwise_cons.2 ⟨fun y hy => ?_, ih hl.2⟩
      rcases List.mem_cons.1 ((putL_perm xs h).mem_iff.1 hy) with rfl | hy
      · exact hx
      · exact hl.1 y hy
theorem fold_perm (l acc : List Ht) : (l.foldl putL acc).Perm (acc ++ l) := by
  induction l generalizing acc with
  | nil => simp
  | cons x xs ih =>
    refine (ih (putL acc x)).trans ?_
    refine ((putL_perm acc x).append_right xs).trans ?_
    exact (List.perm_middle (a := x) (l₁ := acc) (l₂ := xs)).symm
theorem fold_sorted (l acc : List Ht) (h : SortedH acc) : SortedH (l.foldl putL acc) := by
  induction l generalizing acc with
  | nil => exact h
  | cons x xs ih => exact ih _ (putL_sorted h x)
theorem sortL_perm (l : List Ht) : (sortL l).Perm l := by simpa [sortL] using fold_perm l []
theorem sortL_sorted (l : List Ht) : SortedH (sortL l) := fold_sorted l [] List.Pairwise.nil
theorem sortL_length (l : List Ht) : (sortL l).length = l.length := (sortL_perm l).length_eq
theorem sortL_snoc (l : List Ht) (h : Ht) : sortL (l ++ [h]) = putL (sortL l) h := by simp [sortL, List.foldl_append]
/-- Two sorted lists of the same hits are one. -/
theorem sorted_unique {l m : List Ht} (hl : SortedH l) (hm : SortedH m) (hp : l.Perm m) : l = m := by
  unfold SortedH at *
  induction l generalizing m with
  | nil => exact (List.nil_perm.1 hp).symm
  | cons x xs ih =>
    cases m with
    | nil => exact absurd hp.length_eq (by simp)
    | cons y ys =>
      rw [List.pairwise_cons] at hl hm
      have hxy : leH x y := by
        rcases List.mem_cons.1 (hp.mem_iff.2 (List.mem_cons_self ..) : y ∈ x :: xs) with h | h
        · rw [h]; exact leH_refl x
        · exact hl.1 y h
      have hyx : leH y x := by
        rcases List.mem_cons.1 (hp.mem_iff.1 (List.mem_cons_self ..) : x ∈ y :: ys) with h | h
        · rw [h]; exact leH_refl y
        · exact hm.1 x h
      obtain rfl := leH_antisymm hxy hyx
      rw [ih hl.2 hm.2 (List.Perm.cons_inv hp)]
theorem sortL_unique {l m : List Ht} (hm : SortedH m) (hp : m.Perm l) : m = sortL l := sorted_unique hm (sortL_sorted l) (hp.trans (sortL_perm l).symm)
theorem sortL_congr {l m : List Ht} (hp : l.Perm m) : sortL l = sortL m := sorted_unique (sortL_sorted l) (sortL_sorted m) ((sortL_perm l).trans (hp.trans (sortL_perm m).symm))

def hasB (ids : List Int) (x : Int) : Bool := ids.contains x
/-- Each number once, its first. -/
def onceG (ids : List Int) : List Ht → List Ht
  | [] => []
  | x :: xs => if hasB ids x.1 = true then onceG ids xs else x :: onceG (ids ++ [x.1]) xs
def onceL (l : List Ht) : List Ht := onceG [] l

def hitOkAt (hs : List Ht) (i : Nat) : Bool := decide (1 ≤ (hnth hs i).1) && decide (0 ≤ (hnth hs i).2) && (decide (i = 0) || aheadB (hnth hs (i - 1)) (hnth hs i))
def hitsB (hs : List Ht) : Bool := (List.range hs.length).all (hitOkAt hs)
theorem hitsB_at {hs : List Ht} (h : hitsB hs = true) {i : Nat} (hi : i < hs.length) : hitOkAt hs i = true := by
  simp only [hitsB, List.all_eq_true] at h
  exact h i (List.mem_range.2 hi)
theorem hitsB_out {hs : List Ht} {i : Nat} (hi : i < hs.length) (h : hitOkAt hs i = false) : hitsB hs = false := by
  rcases hb : hitsB hs with _ | _
  · rfl
  · rw [hitsB_at hb hi] at h; cases h
theorem hitsB_mk {hs : List Ht} (h : ∀ i, i < hs.length → hitOkAt hs i = true) : hitsB hs = true := by
  simp only [hitsB, List.all_eq_true]
  exact fun i hi => h i (List.mem_range.1 hi)

/-- Are marks and a place as told. -/
def toldB (ms : List Mk) (q : List Int) : Bool := marksB ms && okB q && (decide (ms.length = 0) || decide ((mat ms 0).length = q.length))
def hitF (q : List Int) (m : Mk) : Ht := (m.1, farV m.2 q)
def hitsL (ms : List Mk) (q : List Int) : List Ht := ms.map (hitF q)
def countB (k : Int) : Bool := decide (1 ≤ k) && decide (k ≤ 60)
def nearL (ms : List Mk) (q : List Int) (k : Int) : List Ht := if toldB ms q = true ∧ countB k = true then (sortL (hitsL ms q)).take k.toNat else []
def withinL (ms : List Mk) (q : List Int) (most : Int) : List Ht := if toldB ms q = true ∧ 0 ≤ most then (sortL (hitsL ms q)).filter (fun h => decide (h.2 ≤ most)) else []
def mergedL (a b : List Ht) (k : Int) : List Ht := if countB k = true then (onceL (sortL (a ++ b))).take k.toNat else []

theorem mergedL_comm (a b : List Ht) (k : Int) : mergedL b a k = mergedL a b k := by
  unfold mergedL
  rw [sortL_congr (List.perm_append_comm : (b ++ a).Perm (a ++ b))]

theorem toldB_bad {ms : List Mk} {q : List Int} (h : marksB ms = false) : toldB ms q = false := by simp [toldB, h]
theorem toldB_no {ms : List Mk} {q : List Int} (h : okB q = false) : toldB ms q = false := by simp [toldB, h]

end Go.Proofs.Ythcjkneifkmkdaa
namespace Go.Proofs.Ythcjkneifkmkdaa

theorem floor_of {n s q : Int} (hs : 0 < s) (h1 : q * s ≤ n) (h2 : n < q * s + s) : n / s = q := by
  have a := (Int.le_ediv_iff_mul_le hs (a := q) (b := n)).2 h1
  have b : n / s < q + 1 := (Int.ediv_lt_iff_lt_mul hs).2 (by rw [Int.add_mul, Int.one_mul]; exact h2)
  omega
theorem floor_in {n s : Int} (hs : 0 < s) : n / s * s ≤ n ∧ n < n / s * s + s := by
  have a := Int.ediv_mul_le n (b := s) (by omega)
  have b := Int.lt_ediv_add_one_mul_self n hs
  rw [Int.add_mul, Int.one_mul] at b
  exact ⟨a, b⟩
theorem tdiv_pos {n s : Int} (hn : 0 ≤ n) : n.tdiv s = n / s := Int.tdiv_eq_ediv_of_nonneg hn
theorem tdiv_neg' {n s : Int} (hn : n < 0) : n.tdiv s = -((-n) / s) := by
  rw [← tdiv_pos (n := -n) (by omega), Int.neg_tdiv, Int.neg_neg]
/-- The given way: towards nought, and one less where that is above. -/
theorem floor_spec_yes {n s : Int} (hs : 0 < s) (h : n.tdiv s * s > n) : n / s = n.tdiv s - 1 := by
  rcases Int.lt_or_le n 0 with hn | hn
  · rw [tdiv_neg' hn] at h ⊢
    have := floor_in (n := -n) hs
    refine floor_of hs ?_ ?_
    · rw [Int.sub_mul, Int.one_mul]
      rw [Int.neg_mul] at h ⊢
      omega
    · rw [Int.sub_mul, Int.one_mul]
      rw [Int.neg_mul] at h ⊢
      omega
  · rw [tdiv_pos hn] at h
    have := floor_in (n := n) hs
    omega
theorem floor_spec_no {n s : Int} (hs : 0 < s) (h : ¬ n.tdiv s * s > n) : n / s = n.tdiv s := by
  rcases Int.lt_or_le n 0 with hn | hn
  · rw [tdiv_neg' hn] at h ⊢
    have := floor_in (n := -n) hs
    refine floor_of hs ?_ ?_
    · rw [Int.neg_mul] at h ⊢
      omega
    · rw [Int.neg_mul] at h ⊢
      omega
  · rw [tdiv_pos hn]
/-- The program's: below nought it begins at the low end. -/
theorem floor_low {n s : Int} (hs : 0 < s) (hn : n < 0) : (n - (s - 1)).tdiv s = n / s := by
  rw [tdiv_neg' (by omega)]
  have h := floor_in (n := -(n - (s - 1))) hs
  generalize -(n - (s - 1)) / s = d at *
  refine (floor_of hs ?_ ?_).symm
  · rw [Int.neg_mul]; omega
  · rw [Int.neg_mul]; omega
theorem floor_bd {n s : Int} (hs : 0 < s) (h1 : -1000 ≤ n) (h2 : n ≤ 1000) : -1000 ≤ n / s ∧ n / s ≤ 1000 := by
  constructor
  · exact (Int.le_ediv_iff_mul_le hs).2 (by
      have : (1000 : Int) * 1 ≤ 1000 * s := Int.mul_le_mul_of_nonneg_left (by omega) (by omega)
      rw [Int.neg_mul]; omega)
  · have := (Int.ediv_lt_iff_lt_mul hs (a := n) (b := 1001)).2 (by
      have : (1001 : Int) * 1 ≤ 1001 * s := Int.mul_le_mul_of_nonneg_left (by omega) (by omega)
      omega)
    omega
theorem tdiv_bd {n s : Int} (hs : 0 < s) (h1 : -1000 ≤ n) (h2 : n ≤ 1000) (h3 : s ≤ 1000) : -1000 ≤ n.tdiv s ∧ n.tdiv s ≤ 1000 ∧ -3000 ≤ n.tdiv s * s ∧ n.tdiv s * s ≤ 3000 := by
  have hb := floor_bd hs h1 h2
  have hi := floor_in (n := n) hs
  by_cases h : n.tdiv s * s > n
  · have e := floor_spec_yes hs h
    have e2 : n.tdiv s = n / s + 1 := by omega
    have e3 : n.tdiv s * s = n / s * s + s := by rw [e2, Int.add_mul, Int.one_mul]
    have hle : n / s + 1 ≤ 1000 := by
      rcases Int.lt_or_le n 0 with hn | hn
      · have := Int.ediv_neg_of_neg_of_pos hn hs
        omega
      · rw [tdiv_pos hn] at h; omega
    omega
  · have e := floor_spec_no hs h
    rw [← e]
    omega
def gsideB (s : Int) : Bool := decide (1 ≤ s) && decide (s ≤ 1000)
theorem gsideB_iff (s : Int) : gsideB s = true ↔ 1 ≤ s ∧ s ≤ 1000 := by simp [gsideB]
def cellF (p : List Int) (s : Int) (i : Nat) : Int := nth p i / s
def cellV (p : List Int) (s : Int) : List Int := tabL (cellF p s) p.length
def cellL (p : List Int) (s : Int) : List Int := if okB p = true ∧ gsideB s = true then cellV p s else []
theorem cellV_length (p : List Int) (s : Int) : (cellV p s).length = p.length := by simp [cellV, tabL_length]
theorem cellL_short (p : List Int) (s : Int) : (cellL p s).length ≤ 4 := by
  unfold cellL
  split
  · rename_i h
    rw [cellV_length]; exact (okB_len h.1).2
  · simp

end Go.Proofs.Ythcjkneifkmkdaa
namespace Go.Proofs.Ythcjkneifkmkdaa

/-- The i-th center. -/
def cn (cs : List (List Int)) (i : Nat) : List Int := cs.getD i []
def pairB (cs : List (List Int)) : Bool := (List.range cs.length).all (fun i => twoB (cn cs i) (cn cs 0))
def ctrsB (ms : List Mk) (cs : List (List Int)) : Bool := decide (1 ≤ cs.length) && decide (cs.length ≤ 8) && pairB cs && toldB ms (cn cs 0)
/-- Of the first ones the number of the nearest, the first of alike ones. -/
def givI (cs : List (List Int)) (p : List Int) : Nat → Nat
  | 0 => 0
  | n + 1 => if farV p (cn cs n) < farV p (cn cs (givI cs p n)) then n else givI cs p n
def givN (ms : List Mk) (cs : List (List Int)) (j : Nat) : Nat := givI cs (mat ms j) cs.length
def givF (ms : List Mk) (cs : List (List Int)) (j : Nat) : Int := (givN ms cs j : Int)
def givenL (ms : List Mk) (cs : List (List Int)) : List Int := if ctrsB ms cs = true then tabL (givF ms cs) ms.length else []
def costF (ms : List Mk) (cs : List (List Int)) (j : Nat) : Int := farV (mat ms j) (cn cs (givN ms cs j))
def costV (ms : List Mk) (cs : List (List Int)) : Int := if ctrsB ms cs = true then sumTo (costF ms cs) ms.length else -1

/-- How many of the first n are given to i. -/
def cntG (g : Nat → Nat) (i : Nat) : Nat → Int
  | 0 => 0
  | n + 1 => if g n = i then cntG g i n + 1 else cntG g i n
def sumG (g : Nat → Nat) (f : Nat → Int) (i : Nat) : Nat → Int
  | 0 => 0
  | n + 1 => if g n = i then sumG g f i n + f n else sumG g f i n
def ownG (g : Nat → Nat) (f : Nat → Int) (i : Nat) : Nat → List Int
  | 0 => []
  | n + 1 => if g n = i then ownG g f i n ++ [f n] else ownG g f i n
def meanN (s n : Int) : Int := (2 * s + n - 1) / (2 * n)
def ptF (ms : List Mk) (k j : Nat) : Int := nth (mat ms j) k
def shiftF (ms : List Mk) (cs : List (List Int)) (i k : Nat) : Int :=
  if cntG (givN ms cs) i ms.length = 0 then nth (cn cs i) k else meanN (sumG (givN ms cs) (ptF ms k) i ms.length) (cntG (givN ms cs) i ms.length)
def shiftP (ms : List Mk) (cs : List (List Int)) (i : Nat) : List Int := tabL (shiftF ms cs i) (cn cs i).length
def shiftL (ms : List Mk) (cs : List (List Int)) : List (List Int) := if ctrsB ms cs = true then (List.range cs.length).map (shiftP ms cs) else []
def stillB (ms : List Mk) (cs : List (List Int)) : Bool := ctrsB ms cs && decide (shiftL ms cs = cs)

theorem cn_at {cs : List (List Int)} {i : Nat} (h : i < cs.length) : cn cs i = cs[i] := by simp [cn, List.getD, h]
theorem pairB_at {cs : List (List Int)} (h : pairB cs = true) {i : Nat} (hi : i < cs.length) : twoB (cn cs i) (cn cs 0) = true := by
  simp only [pairB, List.all_eq_true] at h
  exact h i (List.mem_range.2 hi)
theorem pairB_mk {cs : List (List Int)} (h : ∀ i, i < cs.length → twoB (cn cs i) (cn cs 0) = true) : pairB cs = true := by
  simp only [pairB, List.all_eq_true]
  exact fun i hi => h i (List.mem_range.1 hi)
theorem pairB_out {cs : List (List Int)} {i : Nat} (hi : i < cs.length) (h : twoB (cn cs i) (cn cs 0) = false) : pairB cs = false := by
  rcases hb : pairB cs with _ | _
  · rfl
  · rw [pairB_at hb hi] at h; cases h
theorem toldB_of {ms : List Mk} {q : List Int} (h : toldB ms q = true) : marksB ms = true ∧ okB q = true ∧ (ms.length = 0 ∨ (mat ms 0).length = q.length) := by
  simp only [toldB, Bool.and_eq_true, Bool.or_eq_true, decide_eq_true_eq] at h
  exact ⟨h.1.1, h.1.2, h.2⟩
theorem ctrsB_of {ms : List Mk} {cs : List (List Int)} (h : ctrsB ms cs = true) : 1 ≤ cs.length ∧ cs.length ≤ 8 ∧ pairB cs = true ∧ toldB ms (cn cs 0) = true := by
  simp only [ctrsB, Bool.and_eq_true, decide_eq_true_eq] at h
  exact ⟨h.1.1.1, h.1.1.2, h.1.2, h.2⟩
theorem ctrsB_mk {ms : List Mk} {cs : List (List Int)} (h1 : 1 ≤ cs.length) (h2 : cs.length ≤ 8) (h3 : pairB cs = true) (h4 : toldB ms (cn cs 0) = true) : ctrsB ms cs = true := by
  simp [ctrsB, h1, h2, h3, h4]
theorem ctrsB_few {ms : List Mk} {cs : List (List Int)} (h : ¬ 1 ≤ cs.length) : ctrsB ms cs = false := by
  simp only [ctrsB, h, decide_false, Bool.false_and]
theorem ctrsB_many {ms : List Mk} {cs : List (List Int)} (h : ¬ cs.length ≤ 8) : ctrsB ms cs = false := by
  simp only [ctrsB, h, decide_false, Bool.false_and, Bool.and_false]
theorem ctrsB_pair {ms : List Mk} {cs : List (List Int)} (h : pairB cs = false) : ctrsB ms cs = false := by simp [ctrsB, h]
theorem ctrsB_told {ms : List Mk} {cs : List (List Int)} (h : toldB ms (cn cs 0) = false) : ctrsB ms cs = false := by simp [ctrsB, h]
theorem ctrs_len {ms : List Mk} {cs : List (List Int)} (h : ctrsB ms cs = true) {i : Nat} (hi : i < cs.length) : okB (cn cs i) = true ∧ (cn cs i).length = (cn cs 0).length := by
  obtain ⟨_, _, h3, _⟩ := ctrsB_of h
  obtain ⟨a, _, c⟩ := twoB_of (pairB_at h3 hi)
  exact ⟨a, c⟩
theorem ctrs_mark {ms : List Mk} {cs : List (List Int)} (h : ctrsB ms cs = true) {j : Nat} (hj : j < ms.length) : okB (mat ms j) = true ∧ (mat ms j).length = (cn cs 0).length := by
  obtain ⟨_, _, _, h4⟩ := ctrsB_of h
  obtain ⟨hm, _, hl⟩ := toldB_of h4
  have a := (mOkAt_iff ms j).1 (marksB_at hm hj)
  exact ⟨a.2.2.1, by omega⟩
theorem ctrs_two {ms : List Mk} {cs : List (List Int)} (h : ctrsB ms cs = true) {i j : Nat} (hi : i < cs.length) (hj : j < ms.length) : twoB (mat ms j) (cn cs i) = true :=
  twoB_true (ctrs_mark h hj).1 (ctrs_len h hi).1 (by have := (ctrs_mark h hj).2; have := (ctrs_len h hi).2; omega)

theorem givI_lt (cs : List (List Int)) (p : List Int) (n : Nat) (h : 0 < n) : givI cs p n < n := by
  induction n with
  | zero => omega
  | succ n ih =>
    simp only [givI]
    split
    · omega
    · rcases Nat.eq_zero_or_pos n with h0 | h0
      · subst h0; simp [givI]
      · have := ih h0; omega
theorem givI_le (cs : List (List Int)) (p : List Int) (n : Nat) : givI cs p n ≤ n := by
  rcases Nat.eq_zero_or_pos n with h0 | h0
  · subst h0; simp [givI]
  · exact Nat.le_of_lt (givI_lt cs p n h0)
theorem givI_least (cs : List (List Int)) (p : List Int) (n j : Nat) (h : j < n) : farV p (cn cs (givI cs p n)) ≤ farV p (cn cs j) := by
  induction n with
  | zero => omega
  | succ n ih =>
    simp only [givI]
    rcases Nat.lt_or_ge j n with h1 | h1
    · have := ih h1
      split <;> omega
    · rw [show j = n by omega]
      split <;> omega
theorem givI_first (cs : List (List Int)) (p : List Int) (n j : Nat) (h : j < givI cs p n) : farV p (cn cs (givI cs p n)) < farV p (cn cs j) := by
  induction n with
  | zero => simp [givI] at h
  | succ n ih =>
    simp only [givI] at h ⊢
    split
    · rename_i hlt
      rw [if_pos hlt] at h
      have := givI_least cs p n j h
      omega
    · rename_i hlt
      rw [if_neg hlt] at h
      exact ih h
theorem givN_lt {ms : List Mk} {cs : List (List Int)} (h : 1 ≤ cs.length) (j : Nat) : givN ms cs j < cs.length := givI_lt _ _ _ (by omega)

theorem farV_bd (a b : List Int) : -1 ≤ farV a b ∧ farV a b ≤ 16000000 := by
  have := betV_le a b 1
  simpa [betV] using this
theorem farV_pos {a b : List Int} (h : twoB a b = true) : 0 ≤ farV a b ∧ farV a b ≤ 16000000 := by
  refine ⟨?_, (farV_bd a b).2⟩
  obtain ⟨ha, hb, _⟩ := twoB_of h
  have := sumTo_le (sqF a b) 0 4000000 (sqF_bd ha hb) a.length
  simp only [farV, h, if_true]
  omega
theorem farV_comm (a b : List Int) : farV a b = farV b a := by
  unfold farV
  by_cases h : twoB a b = true
  · obtain ⟨ha, hb, hl⟩ := twoB_of h
    rw [if_pos h, if_pos (twoB_true hb ha hl.symm), hl]
    refine sumTo_congr _ _ _ (fun i _ => ?_)
    simp only [sqF]
    rw [show nth b i - nth a i = -(nth a i - nth b i) by omega, Int.neg_mul_neg]
  · have h' : ¬ twoB b a = true := fun h2 => by
      obtain ⟨ha, hb, hl⟩ := twoB_of h2
      exact h (twoB_true hb ha hl.symm)
    rw [if_neg h, if_neg h']

theorem cntG_bd (g : Nat → Nat) (i n : Nat) : 0 ≤ cntG g i n ∧ cntG g i n ≤ n := by
  induction n with
  | zero => simp [cntG]
  | succ n ih => simp only [cntG]; split <;> omega
theorem ownG_length (g : Nat → Nat) (f : Nat → Int) (i n : Nat) : ((ownG g f i n).length : Int) = cntG g i n := by
  induction n with
  | zero => rfl
  | succ n ih =>
    simp only [ownG, cntG]
    split
    · simp; omega
    · exact ih
theorem sumTo_snoc (xs : List Int) (x : Int) : sumTo (nth (xs ++ [x])) (xs ++ [x]).length = sumTo (nth xs) xs.length + x := by
  rw [List.length_append, List.length_singleton]
  simp only [sumTo]
  have e1 : sumTo (nth (xs ++ [x])) xs.length = sumTo (nth xs) xs.length := sumTo_congr _ _ _ (fun i hi => by
    simp [nth, List.getD, List.getElem?_append_left hi])
  have e2 : nth (xs ++ [x]) xs.length = x := by simp [nth, List.getD]
  rw [e1, e2]
theorem ownG_sum (g : Nat → Nat) (f : Nat → Int) (i n : Nat) : sumTo (nth (ownG g f i n)) (ownG g f i n).length = sumG g f i n := by
  induction n with
  | zero => rfl
  | succ n ih =>
    simp only [ownG, sumG]
    split
    · rw [sumTo_snoc, ih]
    · exact ih
theorem ownG_all (g : Nat → Nat) (f : Nat → Int) (i n : Nat) (p : Int → Prop) (h : ∀ j, j < n → p (f j)) : ∀ x ∈ ownG g f i n, p x := by
  induction n with
  | zero => simp [ownG]
  | succ n ih =>
    simp only [ownG]
    have ih' := ih (fun j hj => h j (by omega))
    split
    · intro x hx
      rcases List.mem_append.1 hx with h1 | h1
      · exact ih' x h1
      · rw [List.mem_singleton.1 h1]; exact h n (by omega)
    · exact ih'
theorem sumG_bd (g : Nat → Nat) (f : Nat → Int) (i n : Nat) (b : Int) (_hb : 0 ≤ b) (h : ∀ j, j < n → -b ≤ f j ∧ f j ≤ b) : -(b * cntG g i n) ≤ sumG g f i n ∧ sumG g f i n ≤ b * cntG g i n := by
  induction n with
  | zero => simp [sumG, cntG]
  | succ n ih =>
    have ih' := ih (fun j hj => h j (by omega))
    have := h n (by omega)
    simp only [sumG, cntG]
    split
    · rw [Int.mul_add, Int.mul_one]; omega
    · exact ih'

/-- What a mean is between. -/
theorem meanN_in {s n : Int} (hn : 0 < n) : 2 * s ≤ n * (2 * meanN s n + 1) ∧ n * (2 * meanN s n - 1) < 2 * s := by
  have h := floor_in (n := 2 * s + n - 1) (s := 2 * n) (by omega)
  unfold meanN
  generalize (2 * s + n - 1) / (2 * n) = m at *
  have e : m * (2 * n) = 2 * (n * m) := by rw [Int.mul_left_comm, Int.mul_comm m n]
  rw [e] at h
  have e1 : n * (2 * m + 1) = 2 * (n * m) + n := by rw [Int.mul_add, Int.mul_one, Int.mul_left_comm]
  have e2 : n * (2 * m - 1) = 2 * (n * m) - n := by rw [Int.mul_sub, Int.mul_one, Int.mul_left_comm]
  rw [e1, e2]
  omega
theorem meanN_bd {s n b : Int} (hn : 0 < n) (h1 : -(b * n) ≤ s) (h2 : s ≤ b * n) : -b ≤ meanN s n ∧ meanN s n ≤ b := by
  unfold meanN
  constructor
  · refine (Int.le_ediv_iff_mul_le (by omega)).2 ?_
    have e : -b * (2 * n) = -(2 * (b * n)) := by rw [Int.neg_mul, Int.mul_left_comm]
    omega
  · have := (Int.ediv_lt_iff_lt_mul (by omega : (0 : Int) < 2 * n) (a := 2 * s + n - 1) (b := b + 1)).2 (by
      have e : (b + 1) * (2 * n) = 2 * (b * n) + 2 * n := by rw [Int.add_mul, Int.one_mul, Int.mul_left_comm]
      omega)
    omega
/-- No other number costs less than the mean. -/
theorem meanN_least {s n : Int} (hn : 0 < n) (x : Int) : n * (meanN s n * meanN s n) - 2 * (s * meanN s n) ≤ n * (x * x) - 2 * (s * x) := by
  obtain ⟨h1, h2⟩ := meanN_in (s := s) hn
  generalize meanN s n = m at *
  have key : 0 ≤ (x - m) * (n * (x + m) - 2 * s) := by
    rcases Int.lt_trichotomy x m with h | h | h
    · have a : n * (x + m) ≤ n * (2 * m - 1) := Int.mul_le_mul_of_nonneg_left (by omega) (by omega)
      have := Int.mul_nonneg (a := m - x) (b := 2 * s - n * (x + m)) (by omega) (by omega)
      have e : (m - x) * (2 * s - n * (x + m)) = (x - m) * (n * (x + m) - 2 * s) := by
        rw [← Int.neg_mul_neg]; congr 1 <;> omega
      omega
    · subst h; simp
    · have a : n * (2 * m + 1) ≤ n * (x + m) := Int.mul_le_mul_of_nonneg_left (by omega) (by omega)
      exact Int.mul_nonneg (by omega) (by omega)
  have e : (x - m) * (n * (x + m) - 2 * s) = (n * (x * x) - 2 * (s * x)) - (n * (m * m) - 2 * (s * m)) := by
    simp only [Int.mul_sub, Int.sub_mul, Int.mul_add]
    have a1 : x * (n * x) = n * (x * x) := Int.mul_left_comm ..
    have a2 : x * (n * m) = n * (m * x) := by rw [Int.mul_left_comm, Int.mul_comm x m]
    have a3 : m * (n * x) = n * (m * x) := Int.mul_left_comm ..
    have a4 : m * (n * m) = n * (m * m) := Int.mul_left_comm ..
    have a5 : x * (2 * s) = 2 * (s * x) := by rw [Int.mul_left_comm, Int.mul_comm x s]
    have a6 : m * (2 * s) = 2 * (s * m) := by rw [Int.mul_left_comm, Int.mul_comm m s]
    rw [a1, a2, a3, a4, a5, a6]
    omega
  omega
def sqG (f : Nat → Int) (x : Int) (j : Nat) : Int := (f j - x) * (f j - x)
theorem sumG_sq (g : Nat → Nat) (f : Nat → Int) (i n : Nat) (x : Int) : sumG g (sqG f x) i n = sumG g (fun j => f j * f j) i n + (cntG g i n * (x * x) - 2 * (sumG g f i n * x)) := by
  induction n with
  | zero => simp [sumG, cntG]
  | succ n ih =>
    simp only [sumG, cntG]
    split
    · rw [ih]
      have e : sqG f x n = f n * f n + (x * x - 2 * (f n * x)) := by
        simp only [sqG, Int.sub_mul, Int.mul_sub]
        rw [Int.mul_comm x (f n)]
        omega
      rw [e, Int.add_mul, Int.one_mul, Int.add_mul]
      omega
    · exact ih
theorem sumG_mean (g : Nat → Nat) (f : Nat → Int) (i n : Nat) (x : Int) (h : 0 < cntG g i n) : sumG g (sqG f (meanN (sumG g f i n) (cntG g i n))) i n ≤ sumG g (sqG f x) i n := by
  rw [sumG_sq, sumG_sq]
  have := meanN_least (s := sumG g f i n) h x
  omega
theorem sumG_zero (g : Nat → Nat) (f : Nat → Int) (i n : Nat) (h : cntG g i n = 0) : sumG g f i n = 0 := by
  induction n with
  | zero => rfl
  | succ n ih =>
    have := cntG_bd g i n
    simp only [cntG] at h
    simp only [sumG]
    split
    · rename_i hg; rw [if_pos hg] at h; omega
    · rename_i hg; rw [if_neg hg] at h; exact ih h
/-- Group by group, or one by one. -/
theorem sumG_all (g : Nat → Nat) (F : Nat → Nat → Int) (K n : Nat) (h : ∀ j, j < n → g j < K) : sumTo (fun j => F (g j) j) n = sumTo (fun i => sumG g (F i) i n) K := by
  induction n with
  | zero =>
    simp only [sumTo, sumG]
    clear h
    induction K with
    | zero => rfl
    | succ K ih => simp only [sumTo]; omega
  | succ n ih =>
    have ih' := ih (fun j hj => h j (by omega))
    have hn := h n (by omega)
    simp only [sumTo]
    rw [ih']
    clear ih ih' h
    induction K with
    | zero => omega
    | succ K ihK =>
      simp only [sumTo]
      rcases Nat.lt_or_ge (g n) K with h1 | h1
      · have := ihK h1
        have e : sumG g (F K) K (n + 1) = sumG g (F K) K n := by simp only [sumG]; rw [if_neg (by omega)]
        rw [e]; omega
      · have hK : g n = K := by omega
        have e : sumG g (F K) K (n + 1) = sumG g (F K) K n + F K n := by simp only [sumG]; rw [if_pos hK]
        have e2 : sumTo (fun i => sumG g (F i) i (n + 1)) K = sumTo (fun i => sumG g (F i) i n) K := sumTo_congr _ _ _ (fun i hi => by simp only [sumG]; rw [if_neg (by omega)])
        rw [e, e2, hK]; omega
theorem sumTo_le_of (f g : Nat → Int) (n : Nat) (h : ∀ i, i < n → f i ≤ g i) : sumTo f n ≤ sumTo g n := by
  induction n with
  | zero => simp [sumTo]
  | succ n ih => have := ih (fun i hi => h i (by omega)); have := h n (by omega); simp only [sumTo]; omega
theorem sumTo_add (f g : Nat → Int) (n : Nat) : sumTo (fun i => f i + g i) n = sumTo f n + sumTo g n := by
  induction n with
  | zero => rfl
  | succ n ih => simp only [sumTo]; omega
theorem sumTo_swap (f : Nat → Nat → Int) (n d : Nat) : sumTo (fun j => sumTo (f j) d) n = sumTo (fun k => sumTo (fun j => f j k) n) d := by
  induction d with
  | zero =>
    simp only [sumTo]
    induction n with
    | zero => rfl
    | succ n ih => simp only [sumTo]; omega
  | succ d ih =>
    simp only [sumTo]
    rw [sumTo_add, ih]

theorem shiftL_length {ms : List Mk} {cs : List (List Int)} (h : ctrsB ms cs = true) : (shiftL ms cs).length = cs.length := by simp [shiftL, h]
theorem shiftL_at {ms : List Mk} {cs : List (List Int)} (h : ctrsB ms cs = true) {i : Nat} (hi : i < cs.length) : cn (shiftL ms cs) i = shiftP ms cs i := by
  simp [cn, shiftL, h, List.getD, hi]
theorem shiftP_length (ms : List Mk) (cs : List (List Int)) (i : Nat) : (shiftP ms cs i).length = (cn cs i).length := tabL_length _ _
theorem ptF_bd {ms : List Mk} {cs : List (List Int)} (h : ctrsB ms cs = true) (k : Nat) {j : Nat} (hj : j < ms.length) : -1000 ≤ ptF ms k j ∧ ptF ms k j ≤ 1000 := okB_at (ctrs_mark h hj).1 k
theorem shiftF_bd {ms : List Mk} {cs : List (List Int)} (h : ctrsB ms cs = true) {i : Nat} (hi : i < cs.length) (k : Nat) : -1000 ≤ shiftF ms cs i k ∧ shiftF ms cs i k ≤ 1000 := by
  unfold shiftF
  have hc := cntG_bd (givN ms cs) i ms.length
  split
  · exact okB_at (ctrs_len h hi).1 k
  · have hs := sumG_bd (givN ms cs) (ptF ms k) i ms.length 1000 (by omega) (fun j hj => ptF_bd h k hj)
    exact meanN_bd (by omega) (by omega) (by omega)
theorem shiftP_ok {ms : List Mk} {cs : List (List Int)} (h : ctrsB ms cs = true) {i : Nat} (hi : i < cs.length) : okB (shiftP ms cs i) = true := by
  have := okB_len (ctrs_len h hi).1
  refine okB_mk (by rw [shiftP_length]; omega) (by rw [shiftP_length]; omega) (fun k hk => ?_)
  rw [shiftP_length] at hk
  show -1000 ≤ nth (tabL (shiftF ms cs i) _) k ∧ _
  rw [shiftP, tabL_getD _ _ _ hk]
  exact shiftF_bd h hi k
theorem shiftL_ok {ms : List Mk} {cs : List (List Int)} (h : ctrsB ms cs = true) : ctrsB ms (shiftL ms cs) = true := by
  obtain ⟨h1, h2, h3, h4⟩ := ctrsB_of h
  have h0 := shiftL_at h (i := 0) (by omega)
  have hl0 := shiftP_length ms cs 0
  refine ctrsB_mk (by rw [shiftL_length h]; exact h1) (by rw [shiftL_length h]; exact h2) (pairB_mk fun i hi => ?_) ?_
  · rw [shiftL_length h] at hi
    rw [h0, shiftL_at h hi]
    exact twoB_true (shiftP_ok h hi) (shiftP_ok h (by omega)) (by rw [hl0, shiftP_length, (ctrs_len h hi).2])
  · rw [h0]
    obtain ⟨a, b, c⟩ := toldB_of h4
    have := shiftP_ok h (i := 0) (by omega)
    simp only [toldB, a, this, hl0, Bool.true_and, Bool.or_eq_true, decide_eq_true_eq]
    exact c
/-- What is shifted costs no more. -/
theorem lloyd {ms : List Mk} {cs : List (List Int)} (h : ctrsB ms cs = true) : costV ms (shiftL ms cs) ≤ costV ms cs := by
  have hs := shiftL_ok h
  obtain ⟨h1, h2, h3, h4⟩ := ctrsB_of h
  have hL := shiftL_length h
  rw [costV, costV, if_pos h, if_pos hs]
  have step1 : sumTo (costF ms (shiftL ms cs)) ms.length ≤ sumTo (fun j => farV (mat ms j) (cn (shiftL ms cs) (givN ms cs j))) ms.length := by
    refine sumTo_le_of _ _ _ (fun j hj => ?_)
    exact givI_least _ _ _ _ (by rw [hL]; exact givN_lt h1 j)
  refine Int.le_trans step1 ?_
  have open1 : ∀ ds : List (List Int), ctrsB ms ds = true → ds.length = cs.length → (∀ i, i < cs.length → (cn ds i).length = (cn cs 0).length) →
      sumTo (fun j => farV (mat ms j) (cn ds (givN ms cs j))) ms.length = sumTo (fun k => sumTo (fun i => sumG (givN ms cs) (sqG (ptF ms k) (nth (cn ds i) k)) i ms.length) cs.length) (cn cs 0).length := by
    intro ds hd hdl _
    have e1 : sumTo (fun j => farV (mat ms j) (cn ds (givN ms cs j))) ms.length = sumTo (fun j => sumTo (fun k => sqG (ptF ms k) (nth (cn ds (givN ms cs j)) k) j) (cn cs 0).length) ms.length := by
      refine sumTo_congr _ _ _ (fun j hj => ?_)
      have ht := ctrs_two hd (i := givN ms cs j) (j := j) (by rw [hdl]; exact givN_lt h1 j) hj
      rw [farV, if_pos ht, (ctrs_mark h hj).2]
      rfl
    rw [e1, sumTo_swap]
    refine sumTo_congr _ _ _ (fun k _ => ?_)
    exact sumG_all (givN ms cs) (fun i => sqG (ptF ms k) (nth (cn ds i) k)) cs.length ms.length (fun j _ => givN_lt h1 j)
  rw [open1 _ hs hL (fun i hi => by rw [shiftL_at h hi, shiftP_length, (ctrs_len h hi).2])]
  show _ ≤ sumTo (fun j => farV (mat ms j) (cn cs (givN ms cs j))) ms.length
  rw [open1 cs h rfl (fun i hi => (ctrs_len h hi).2)]
  refine sumTo_le_of _ _ _ (fun k hk => sumTo_le_of _ _ _ (fun i hi => ?_))
  have hki : k < (cn cs i).length := by rw [(ctrs_len h hi).2]; exact hk
  rw [shiftL_at h hi, shiftP, tabL_getD _ _ _ hki]
  by_cases hc : cntG (givN ms cs) i ms.length = 0
  · rw [sumG_zero _ _ _ _ hc, sumG_zero _ _ _ _ hc]; omega
  · have := cntG_bd (givN ms cs) i ms.length
    rw [shiftF, if_neg hc]
    exact sumG_mean _ _ _ _ _ (by omega)

end Go.Proofs.Ythcjkneifkmkdaa
namespace Go.Proofs.Ythcjkneifkmkdaa

/-- A box: its low end and its high end. -/
abbrev Bx := List Int × List Int
def sideB (b : Bx) (i : Nat) : Bool := decide (nth b.1 i ≤ nth b.2 i)
def boxB (b : Bx) : Bool := twoB b.1 b.2 && (List.range b.1.length).all (sideB b)
def toldX (b : Bx) (p : List Int) : Bool := boxB b && twoB b.1 p
def outF (b : Bx) (p : List Int) (i : Nat) : Int := maxV 0 (maxV (nth b.1 i - nth p i) (nth p i - nth b.2 i))
def outQ (b : Bx) (p : List Int) (i : Nat) : Int := outF b p i * outF b p i
def endF (b : Bx) (p : List Int) (i : Nat) : Int := maxV (absV (nth p i - nth b.1 i)) (absV (nth p i - nth b.2 i))
def endQ (b : Bx) (p : List Int) (i : Nat) : Int := endF b p i * endF b p i
def toBoxV (b : Bx) (p : List Int) : Int := if toldX b p = true then sumTo (outQ b p) p.length else -1
def cornerV (b : Bx) (p : List Int) : Int := if toldX b p = true then sumTo (endQ b p) p.length else -1
def insideB (b : Bx) (p : List Int) : Bool := toldX b p && decide (toBoxV b p = 0)
def lowTo (ms : List Mk) (k : Nat) : Nat → Int
  | 0 => nth (mat ms 0) k
  | j + 1 => min (lowTo ms k j) (nth (mat ms (j + 1)) k)
def highTo (ms : List Mk) (k : Nat) : Nat → Int
  | 0 => nth (mat ms 0) k
  | j + 1 => maxV (highTo ms k j) (nth (mat ms (j + 1)) k)
def lowL (ms : List Mk) (j : Nat) : List Int := tabL (fun k => lowTo ms k j) (mat ms 0).length
def highL (ms : List Mk) (j : Nat) : List Int := tabL (fun k => highTo ms k j) (mat ms 0).length
def aroundV (ms : List Mk) : Bx := if ms.length = 0 ∨ marksB ms = false then ([], []) else (lowL ms (ms.length - 1), highL ms (ms.length - 1))
def shLow (a b : Bx) (i : Nat) : Int := maxV (nth a.1 i) (nth b.1 i)
def shHigh (a b : Bx) (i : Nat) : Int := min (nth a.2 i) (nth b.2 i)
def shBox (a b : Bx) : Bx := (tabL (shLow a b) a.1.length, tabL (shHigh a b) a.1.length)
def shOkB (a b : Bx) : Bool := boxB a && boxB b && decide (a.1.length = b.1.length) && boxB (shBox a b)
def sharedV (a b : Bx) : Bx := if shOkB a b = true then shBox a b else ([], [])

theorem boxB_two {b : Bx} (h : boxB b = true) : twoB b.1 b.2 = true := by simp [boxB] at h; exact h.1
theorem boxB_at {b : Bx} (h : boxB b = true) {i : Nat} (hi : i < b.1.length) : nth b.1 i ≤ nth b.2 i := by
  simp only [boxB, Bool.and_eq_true, List.all_eq_true] at h
  have := h.2 i (List.mem_range.2 hi)
  simpa [sideB] using this
theorem boxB_not {b : Bx} (h : twoB b.1 b.2 = false) : boxB b = false := by simp [boxB, h]
theorem boxB_out {b : Bx} {i : Nat} (hi : i < b.1.length) (h : nth b.1 i > nth b.2 i) : boxB b = false := by
  rcases hb : boxB b with _ | _
  · rfl
  · have := boxB_at hb hi; omega
theorem boxB_mk {b : Bx} (h : twoB b.1 b.2 = true) (hs : ∀ i, i < b.1.length → nth b.1 i ≤ nth b.2 i) : boxB b = true := by
  simp only [boxB, Bool.and_eq_true, List.all_eq_true]
  exact ⟨h, fun i hi => by simp [sideB]; exact hs i (List.mem_range.1 hi)⟩
theorem toldX_of {b : Bx} {p : List Int} (h : toldX b p = true) : boxB b = true ∧ twoB b.1 p = true := by simpa [toldX] using h
theorem outF_bd {b : Bx} {p : List Int} (h : toldX b p = true) (i : Nat) : 0 ≤ outF b p i ∧ outF b p i ≤ 2000 := by
  obtain ⟨h1, h2⟩ := toldX_of h
  obtain ⟨a1, a2, _⟩ := twoB_of (boxB_two h1)
  obtain ⟨_, a3, _⟩ := twoB_of h2
  have x1 := okB_at a1 i
  have x2 := okB_at a2 i
  have x3 := okB_at a3 i
  unfold outF maxV
  omega
theorem endF_bd {b : Bx} {p : List Int} (h : toldX b p = true) (i : Nat) : 0 ≤ endF b p i ∧ endF b p i ≤ 2000 := by
  obtain ⟨h1, h2⟩ := toldX_of h
  obtain ⟨a1, a2, _⟩ := twoB_of (boxB_two h1)
  obtain ⟨_, a3, _⟩ := twoB_of h2
  have x1 := okB_at a1 i
  have x2 := okB_at a2 i
  have x3 := okB_at a3 i
  unfold endF maxV absV
  omega
theorem sq_bd {x : Int} (h : 0 ≤ x ∧ x ≤ 2000) : 0 ≤ x * x ∧ x * x ≤ 4000000 := by
  refine ⟨Int.mul_nonneg h.1 h.1, ?_⟩
  have := Int.mul_le_mul h.2 h.2 h.1 (by omega : (0 : Int) ≤ 2000)
  omega
theorem outQ_bd {b : Bx} {p : List Int} (h : toldX b p = true) (i : Nat) : 0 ≤ outQ b p i ∧ outQ b p i ≤ 4000000 := sq_bd (outF_bd h i)
theorem endQ_bd {b : Bx} {p : List Int} (h : toldX b p = true) (i : Nat) : 0 ≤ endQ b p i ∧ endQ b p i ≤ 4000000 := sq_bd (endF_bd h i)

end Go.Proofs.Ythcjkneifkmkdaa
