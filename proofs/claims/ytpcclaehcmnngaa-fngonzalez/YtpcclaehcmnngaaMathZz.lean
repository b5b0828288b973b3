/-
  Plain mathematics for the laws of chapter 1 (no program is named here): what a point is, the sums over two points, and what holds of them.
  Plain mathematics of Steps, Reach, Far and Dot over two and three points (no program is named here).
  Plain mathematics for the laws of chapter 2 (no program is named here): marks, the distance by kind, the diameter and the middle.
  Plain mathematics for the laws of chapter 11 (no program is named here): the least distance to some, the radius, who is chosen, and Gonzalez' bound.
  Plain mathematics for the laws of chapter 11: the least radius of any k of n.
  Plain mathematics for the laws of chapter 11: the distance of marks by kind, and what the third side allows.
  Plain mathematics for the laws of chapter 11: marks told by their numbers.
  Plain mathematics for the laws of chapter 3 (no program is named here): hits, their order, the sorted list, the first ones, each number once.
  Plain mathematics for the laws of chapter 5 (no program is named here): marks by a number of theirs, the tree of halves, its knots in a list, its height.
  Plain mathematics for the laws of chapter 4 (no program is named here): boxes.
-/
namespace Go.Proofs.Ytpcclaehcmnngaa

/-- The i-th number, 0 behind the end. -/
def nth (xs : List Int) (i : Nat) : Int := xs.getD i 0
def inB (x : Int) : Bool := decide (-1000 ≤ x) && decide (x ≤ 1000)
def okB (xs : List Int) : Bool := decide (1 ≤ xs.length) && decide (xs.length ≤ 4) && xs.all inB
def twoB (a b : List Int) : Bool := okB a && okB b && decide (a.length = b.length)
def sumTo (f : Nat → Int) : Nat → Int
  | 0 => 0
  | k + 1 => sumTo f k + f k
def maxTo (f : Nat → Int) : Nat → Int
  | 0 => 0
  | k + 1 => max (maxTo f k) (f k)
def sqF (a b : List Int) (i : Nat) : Int := (nth a i - nth b i) * (nth a i - nth b i)
def mulF (a b : List Int) (i : Nat) : Int := nth a i * nth b i
def gapF (a b : List Int) (i : Nat) : Int := max (nth a i - nth b i) (nth b i - nth a i)
def addF (a b : List Int) (i : Nat) : Int := nth a i + nth b i
def farV (a b : List Int) : Int := if twoB a b = true then sumTo (sqF a b) a.length else -1
def dotV (a b : List Int) : Int := if twoB a b = true then sumTo (mulF a b) a.length else 0
def stepsV (a b : List Int) : Int := if twoB a b = true then sumTo (gapF a b) a.length else -1
def reachV (a b : List Int) : Int := if twoB a b = true then maxTo (gapF a b) a.length else -1
def tabL (f : Nat → Int) (n : Nat) : List Int := (List.range n).map f
def movedL (a b : List Int) : List Int := if twoB a b = true then (if okB (tabL (addF a b) a.length) = true then tabL (addF a b) a.length else []) else []

theorem inB_iff (x : Int) : inB x = true ↔ -1000 ≤ x ∧ x ≤ 1000 := by simp [inB]

theorem okB_len {xs : List Int} (h : okB xs = true) : 1 ≤ xs.length ∧ xs.length ≤ 4 := by
  simp [okB] at h; omega

theorem okB_at {xs : List Int} (h : okB xs = true) (i : Nat) : -1000 ≤ nth xs i ∧ nth xs i ≤ 1000 := by
  simp only [okB, Bool.and_eq_true, List.all_eq_true] at h
  by_cases hi : i < xs.length
  · have := h.2 xs[i] (List.getElem_mem hi)
    rw [inB_iff] at this
    simpa [nth, List.getD, hi] using this
  · simp [nth, List.getD, hi]

theorem okB_mk {xs : List Int} (h1 : 1 ≤ xs.length) (h4 : xs.length ≤ 4) (h : ∀ i, i < xs.length → -1000 ≤ nth xs i ∧ nth xs i ≤ 1000) : okB xs = true := by
  simp only [okB, Bool.and_eq_true, List.all_eq_true, decide_eq_true_eq]
  refine ⟨⟨h1, h4⟩, fun x hx => ?_⟩
  obtain ⟨i, hi, rfl⟩ := List.getElem_of_mem hx
  rw [inB_iff]
  have := h i hi
  simpa [nth, List.getD, hi] using this

theorem okB_short {xs : List Int} (h : xs.length < 1) : okB xs = false := by simp [okB]; omega
theorem okB_long {xs : List Int} (h : 4 < xs.length) : okB xs = false := by simp [okB]; omega
theorem okB_out {xs : List Int} (i : Nat) (h : nth xs i < -1000 ∨ 1000 < nth xs i) : okB xs = false := by
  rcases hb : okB xs with _ | _
  · rfl
  · have := okB_at hb i; omega

theorem twoB_of {a b : List Int} (h : twoB a b = true) : okB a = true ∧ okB b = true ∧ a.length = b.length := by
  simp [twoB] at h; exact ⟨h.1.1, h.1.2, h.2⟩

theorem sumTo_le (f : Nat → Int) (lo hi : Int) (h : ∀ i, lo ≤ f i ∧ f i ≤ hi) (k : Nat) : lo * k ≤ sumTo f k ∧ sumTo f k ≤ hi * k := by
  induction k with
  | zero => simp [sumTo]
  | succ k ih =>
    have := h k
    simp only [sumTo]
    rw [show ((k + 1 : Nat) : Int) = (k : Int) + 1 by omega, Int.mul_add, Int.mul_add]
    omega

theorem maxTo_le (f : Nat → Int) (hi : Int) (h0 : 0 ≤ hi) (h : ∀ i, f i ≤ hi) (k : Nat) : 0 ≤ maxTo f k ∧ maxTo f k ≤ hi := by
  induction k with
  | zero => simp [maxTo]; exact h0
  | succ k ih => have := h k; simp only [maxTo]; omega

theorem sq_nonneg (x : Int) : 0 ≤ x * x := by
  rcases Int.le_total 0 x with h | h
  · exact Int.mul_nonneg h h
  · have := Int.mul_nonneg (a := -x) (b := -x) (by omega) (by omega)
    rwa [Int.neg_mul_neg] at this

theorem mul_bd {x y m : Int} (_hm : 0 ≤ m) (hx : -m ≤ x ∧ x ≤ m) (hy : -m ≤ y ∧ y ≤ m) : -(m * m) ≤ x * y ∧ x * y ≤ m * m := by
  have a1 := Int.mul_nonneg (a := m - x) (b := m + y) (by omega) (by omega)
  have a2 := Int.mul_nonneg (a := m + x) (b := m - y) (by omega) (by omega)
  have a3 := Int.mul_nonneg (a := m - x) (b := m - y) (by omega) (by omega)
  have a4 := Int.mul_nonneg (a := m + x) (b := m + y) (by omega) (by omega)
  simp only [Int.mul_add, Int.add_mul, Int.mul_sub, Int.sub_mul] at a1 a2 a3 a4
  rw [Int.mul_comm m y] at *
  generalize x * y = p at *
  generalize x * m = q at *
  generalize y * m = r at *
  generalize m * m = s at *
  omega

theorem sqF_bd {a b : List Int} (ha : okB a = true) (hb : okB b = true) (i : Nat) : 0 ≤ sqF a b i ∧ sqF a b i ≤ 4000000 := by
  have h1 := okB_at ha i; have h2 := okB_at hb i
  refine ⟨sq_nonneg _, ?_⟩
  have := (mul_bd (x := nth a i - nth b i) (y := nth a i - nth b i) (m := 2000) (by omega) (by omega) (by omega)).2
  simpa [sqF] using this

theorem mulF_bd {a b : List Int} (ha : okB a = true) (hb : okB b = true) (i : Nat) : -1000000 ≤ mulF a b i ∧ mulF a b i ≤ 1000000 := by
  have h1 := okB_at ha i; have h2 := okB_at hb i
  have := mul_bd (x := nth a i) (y := nth b i) (m := 1000) (by omega) (by omega) (by omega)
  simpa [mulF] using this

theorem gapF_bd {a b : List Int} (ha : okB a = true) (hb : okB b = true) (i : Nat) : 0 ≤ gapF a b i ∧ gapF a b i ≤ 2000 := by
  have h1 := okB_at ha i; have h2 := okB_at hb i
  unfold gapF; omega

theorem addF_bd {a b : List Int} (ha : okB a = true) (hb : okB b = true) (i : Nat) : -2000 ≤ addF a b i ∧ addF a b i ≤ 2000 := by
  have h1 := okB_at ha i; have h2 := okB_at hb i
  unfold addF; omega

theorem tabL_length (f : Nat → Int) (n : Nat) : (tabL f n).length = n := by simp [tabL]
theorem tabL_getD (f : Nat → Int) (n i : Nat) (h : i < n) : nth (tabL f n) i = f i := by simp [nth, tabL, List.getD, h]
theorem tabL_succ (f : Nat → Int) (n : Nat) : tabL f (n + 1) = tabL f n ++ [f n] := by simp [tabL, List.range_succ]
theorem sumTo_congr (f g : Nat → Int) (n : Nat) (h : ∀ i, i < n → f i = g i) : sumTo f n = sumTo g n := by
  induction n with
  | zero => rfl
  | succ n ih => simp only [sumTo]; rw [ih (fun i hi => h i (by omega)), h n (by omega)]
theorem maxTo_congr (f g : Nat → Int) (n : Nat) (h : ∀ i, i < n → f i = g i) : maxTo f n = maxTo g n := by
  induction n with
  | zero => rfl
  | succ n ih => simp only [maxTo]; rw [ih (fun i hi => h i (by omega)), h n (by omega)]


def absV (x : Int) : Int := max x (-x)
def maxV (x y : Int) : Int := max x y
theorem gapF_abs (a b : List Int) (i : Nat) : gapF a b i = absV (nth a i - nth b i) := by unfold gapF absV; omega
theorem twoB_true {a b : List Int} (ha : okB a = true) (hb : okB b = true) (hl : a.length = b.length) : twoB a b = true := by simp [twoB, ha, hb, hl]
theorem twoB_left {a b : List Int} (ha : okB a = false) : twoB a b = false := by simp [twoB, ha]
theorem twoB_right {a b : List Int} (hb : okB b = false) : twoB a b = false := by simp [twoB, hb]
theorem twoB_len {a b : List Int} (hl : ¬ a.length = b.length) : twoB a b = false := by simp [twoB, hl]

end Go.Proofs.Ytpcclaehcmnngaa
namespace Go.Proofs.Ytpcclaehcmnngaa
set_option linter.unusedSimpArgs false

theorem list_eq_of_nth {xs ys : List Int} (hl : xs.length = ys.length) (h : ∀ j, j < xs.length → nth xs j = nth ys j) : xs = ys := by
  apply List.ext_getElem hl
  intro i h1 h2
  have := h i h1
  simpa [nth, List.getD, h1, h2] using this
theorem twoB_comm (a b : List Int) : twoB a b = twoB b a := by
  rcases h1 : okB a with _ | _ <;> rcases h2 : okB b with _ | _ <;> simp [twoB, h1, h2, eq_comm]
theorem gapF_comm (a b : List Int) (i : Nat) : gapF a b i = gapF b a i := by unfold gapF; omega
theorem mulF_comm (a b : List Int) (i : Nat) : mulF a b i = mulF b a i := Int.mul_comm _ _
theorem sqF_gap (a b : List Int) (i : Nat) : sqF a b i = gapF a b i * gapF a b i := by
  unfold sqF gapF
  rcases Int.le_total (nth a i - nth b i) (nth b i - nth a i) with h | h
  · rw [Int.max_eq_right h, show nth b i - nth a i = -(nth a i - nth b i) by omega, Int.neg_mul_neg]
  · rw [Int.max_eq_left h]
theorem stepsV_comm (a b : List Int) : stepsV b a = stepsV a b := by
  unfold stepsV
  rw [twoB_comm b a]
  by_cases h : twoB a b = true
  · rw [if_pos h, if_pos h, (twoB_of h).2.2]; exact sumTo_congr _ _ _ (fun i _ => gapF_comm b a i)
  · rw [if_neg h, if_neg h]
theorem reachV_comm (a b : List Int) : reachV b a = reachV a b := by
  unfold reachV
  rw [twoB_comm b a]
  by_cases h : twoB a b = true
  · rw [if_pos h, if_pos h, (twoB_of h).2.2]; exact maxTo_congr _ _ _ (fun i _ => gapF_comm b a i)
  · rw [if_neg h, if_neg h]
theorem dotV_comm (a b : List Int) : dotV b a = dotV a b := by
  unfold dotV
  rw [twoB_comm b a]
  by_cases h : twoB a b = true
  · rw [if_pos h, if_pos h, (twoB_of h).2.2]; exact sumTo_congr _ _ _ (fun i _ => mulF_comm b a i)
  · rw [if_neg h, if_neg h]

theorem sum_third (f g h : Nat → Int) (H : ∀ i, f i ≤ g i + h i) (n : Nat) : sumTo f n ≤ sumTo g n + sumTo h n := by
  induction n with
  | zero => simp [sumTo]
  | succ n ih => have := H n; simp only [sumTo]; omega
theorem max_third (f g h : Nat → Int) (H : ∀ i, f i ≤ g i + h i) (n : Nat) : maxTo f n ≤ maxTo g n + maxTo h n := by
  induction n with
  | zero => simp [maxTo]
  | succ n ih => have := H n; simp only [maxTo]; omega
theorem gap_third (a b c : List Int) (i : Nat) : gapF a b i ≤ gapF a c i + gapF c b i := by unfold gapF; omega

theorem max_le_sum (g : Nat → Int) (h : ∀ i, 0 ≤ g i) (n : Nat) : maxTo g n ≤ sumTo g n := by
  have h0 : ∀ n, 0 ≤ sumTo g n := fun n => by
    induction n with
    | zero => simp [sumTo]
    | succ n ih => have := h n; simp only [sumTo]; omega
  induction n with
  | zero => simp [maxTo, sumTo]
  | succ n ih => have := h n; have := h0 n; simp only [maxTo, sumTo]; omega
theorem sum_le_max (g : Nat → Int) (n : Nat) : sumTo g n ≤ n * maxTo g n := by
  induction n with
  | zero => simp [sumTo]
  | succ n ih =>
    simp only [sumTo, maxTo]
    have h1 : (n : Int) * maxTo g n ≤ n * max (maxTo g n) (g n) := Int.mul_le_mul_of_nonneg_left (by omega) (by omega)
    rw [show ((n + 1 : Nat) : Int) = (n : Int) + 1 by omega, Int.add_mul]
    omega
theorem sumsq_nonneg (g : Nat → Int) (n : Nat) : 0 ≤ sumTo (fun i => g i * g i) n := by
  induction n with
  | zero => simp [sumTo]
  | succ n ih => have := sq_nonneg (g n); simp only [sumTo]; omega
theorem max_sq (g : Nat → Int) (n : Nat) : maxTo g n * maxTo g n ≤ sumTo (fun i => g i * g i) n := by
  induction n with
  | zero => simp [maxTo, sumTo]
  | succ n ih =>
    simp only [maxTo, sumTo]
    have h1 := sq_nonneg (g n)
    have h2 := sumsq_nonneg g n
    rcases Int.le_total (maxTo g n) (g n) with h | h
    · rw [Int.max_eq_right h]; omega
    · rw [Int.max_eq_left h]; omega
theorem sumsq_le (g : Nat → Int) (h : ∀ i, 0 ≤ g i) (n : Nat) : 0 ≤ sumTo g n ∧ sumTo (fun i => g i * g i) n ≤ sumTo g n * sumTo g n := by
  induction n with
  | zero => simp [sumTo]
  | succ n ih =>
    have h1 := h n
    have h2 := Int.mul_nonneg ih.1 h1
    simp only [sumTo]
    refine ⟨by omega, ?_⟩
    rw [Int.mul_add, Int.add_mul, Int.add_mul, Int.mul_comm (g n) (sumTo g n)]
    omega
theorem sum_sq_le (g : Nat → Int) (n : Nat) : sumTo g n * sumTo g n ≤ n * sumTo (fun i => g i * g i) n := by
  induction n with
  | zero => simp [sumTo]
  | succ n ih =>
    simp only [sumTo]
    generalize hs : sumTo g n = s at *
    generalize hq : sumTo (fun i => g i * g i) n = q at *
    generalize hx : g n = x at *
    rcases Nat.eq_zero_or_pos n with h0 | h0
    · subst h0
      have e1 : s = 0 := by rw [← hs]; rfl
      have e2 : q = 0 := by rw [← hq]; rfl
      rw [e1, e2]; simp
    · have hk : (0 : Int) < (n : Int) := by omega
      rw [show ((n + 1 : Nat) : Int) = (n : Int) + 1 by omega]
      generalize (n : Int) = k at *
      have h1 : 0 ≤ k * (q + k * (x * x) - 2 * (s * x)) := by
        have := sq_nonneg (s - k * x)
        have e : (s - k * x) * (s - k * x) = s * s + k * (k * (x * x) - 2 * (s * x)) := by (try simp only [Int.two_mul]); simp only [Int.mul_add, Int.add_mul, Int.mul_sub, Int.sub_mul, Int.one_mul, Int.mul_one, Int.mul_comm, Int.mul_left_comm, Int.mul_assoc]; omega
        have e2 : k * (q + k * (x * x) - 2 * (s * x)) = k * q + k * (k * (x * x) - 2 * (s * x)) := by (try simp only [Int.two_mul]); simp only [Int.mul_add, Int.add_mul, Int.mul_sub, Int.sub_mul, Int.one_mul, Int.mul_one, Int.mul_comm, Int.mul_left_comm, Int.mul_assoc]; omega
        omega
      have h2 : 0 ≤ q + k * (x * x) - 2 * (s * x) := by
        rcases Int.lt_or_le (q + k * (x * x) - 2 * (s * x)) 0 with h | h
        · have := Int.mul_lt_mul_of_pos_left h hk
          omega
        · exact h
      have e3 : (s + x) * (s + x) = s * s + 2 * (s * x) + x * x := by (try simp only [Int.two_mul]); simp only [Int.mul_add, Int.add_mul, Int.mul_sub, Int.sub_mul, Int.one_mul, Int.mul_one, Int.mul_comm, Int.mul_left_comm, Int.mul_assoc]; omega
      have e4 : (k + 1) * (q + x * x) = k * q + q + k * (x * x) + x * x := by (try simp only [Int.two_mul]); simp only [Int.mul_add, Int.add_mul, Int.mul_sub, Int.sub_mul, Int.one_mul, Int.mul_one, Int.mul_comm, Int.mul_left_comm, Int.mul_assoc]; omega
      omega
theorem sum_zero (g : Nat → Int) (h : ∀ i, 0 ≤ g i) (n : Nat) (hz : sumTo g n = 0) : ∀ i, i < n → g i = 0 := by
  induction n with
  | zero => intro i hi; omega
  | succ n ih =>
    have h1 := h n
    have h2 := (sumsq_le g h n).1
    simp only [sumTo] at hz
    intro i hi
    rcases Nat.lt_or_ge i n with h3 | h3
    · exact ih (by omega) i h3
    · rw [show i = n by omega]; omega

/-- What the law of the third side asks, of two points a, b and a third one c. -/
theorem third {a b c : List Int} (hab : twoB a b = true) (hac : twoB a c = true) :
    0 ≤ stepsV a b ∧ stepsV a b ≤ 8000 ∧ 0 ≤ reachV a b ∧ reachV a b ≤ 2000 ∧ 0 ≤ farV a b ∧ farV a b ≤ 16000000 ∧
    0 ≤ stepsV a c ∧ stepsV a c ≤ 8000 ∧ 0 ≤ stepsV c b ∧ stepsV c b ≤ 8000 ∧ 0 ≤ reachV a c ∧ reachV a c ≤ 2000 ∧ 0 ≤ reachV c b ∧ reachV c b ≤ 2000 ∧
    (stepsV a b = 0 ↔ a = b) ∧ stepsV a b ≤ stepsV a c + stepsV c b ∧ reachV a b ≤ reachV a c + reachV c b ∧ reachV a b ≤ stepsV a b ∧
    stepsV a b ≤ a.length * reachV a b ∧ reachV a b * reachV a b ≤ farV a b ∧ farV a b ≤ stepsV a b * stepsV a b ∧ stepsV a b * stepsV a b ≤ a.length * farV a b := by
  obtain ⟨ha, hb, hl⟩ := twoB_of hab
  obtain ⟨_, hc, hl'⟩ := twoB_of hac
  have hcb : twoB c b = true := twoB_true hc hb (by omega)
  have h4 := okB_len ha
  have e1 : stepsV a b = sumTo (gapF a b) a.length := by unfold stepsV; rw [if_pos hab]
  have e2 : reachV a b = maxTo (gapF a b) a.length := by unfold reachV; rw [if_pos hab]
  have e3 : farV a b = sumTo (fun i => gapF a b i * gapF a b i) a.length := by unfold farV; rw [if_pos hab]; exact sumTo_congr _ _ _ (fun i _ => sqF_gap a b i)
  have e4 : stepsV a c = sumTo (gapF a c) a.length := by unfold stepsV; rw [if_pos hac]
  have e5 : stepsV c b = sumTo (gapF c b) a.length := by unfold stepsV; rw [if_pos hcb, hl']
  have e6 : reachV a c = maxTo (gapF a c) a.length := by unfold reachV; rw [if_pos hac]
  have e7 : reachV c b = maxTo (gapF c b) a.length := by unfold reachV; rw [if_pos hcb, hl']
  have e8 : farV a b = sumTo (sqF a b) a.length := by unfold farV; rw [if_pos hab]
  have hab0 := fun i => (gapF_bd ha hb i).1
  have b1 := sumTo_le (gapF a b) 0 2000 (gapF_bd ha hb) a.length
  have b2 := maxTo_le (gapF a b) 2000 (by omega) (fun i => (gapF_bd ha hb i).2) a.length
  have b3 := sumTo_le (sqF a b) 0 4000000 (sqF_bd ha hb) a.length
  have b4 := sumTo_le (gapF a c) 0 2000 (gapF_bd ha hc) a.length
  have b5 := sumTo_le (gapF c b) 0 2000 (gapF_bd hc hb) a.length
  have b6 := maxTo_le (gapF a c) 2000 (by omega) (fun i => (gapF_bd ha hc i).2) a.length
  have b7 := maxTo_le (gapF c b) 2000 (by omega) (fun i => (gapF_bd hc hb i).2) a.length
  refine ⟨by omega, by omega, by omega, by omega, by omega, by omega, by omega, by omega, by omega, by omega, by omega, by omega, by omega, by omega, ?_, ?_, ?_, ?_, ?_, ?_, ?_, ?_⟩
  · rw [e1]
    constructor
    · intro hz
      refine list_eq_of_nth hl (fun j hj => ?_)
      have := sum_zero (gapF a b) hab0 a.length hz j hj
      unfold gapF at this; omega
    · rintro rfl
      have : sumTo (gapF a a) a.length = sumTo (fun _ => 0) a.length := sumTo_congr _ _ _ (fun i _ => by unfold gapF; omega)
      rw [this]
      have := sumTo_le (fun _ => (0 : Int)) 0 0 (fun _ => ⟨Int.le_refl _, Int.le_refl _⟩) a.length
      omega
  · rw [e1, e4, e5]; exact sum_third _ _ _ (gap_third a b c) _
  · rw [e2, e6, e7]; exact max_third _ _ _ (gap_third a b c) _
  · rw [e1, e2]; exact max_le_sum _ hab0 _
  · rw [e1, e2]; exact sum_le_max _ _
  · rw [e2, e3]; exact max_sq _ _
  · rw [e1, e3]; exact (sumsq_le _ hab0 _).2
  · rw [e1, e3]; exact sum_sq_le _ _

end Go.Proofs.Ytpcclaehcmnngaa
namespace Go.Proofs.Ytpcclaehcmnngaa

abbrev Mk := Int × List Int
def mid (ms : List Mk) (i : Nat) : Int := (ms.getD i (0, [])).1
def mat (ms : List Mk) (i : Nat) : List Int := (ms.getD i (0, [])).2
def mOkAt (ms : List Mk) (i : Nat) : Bool :=
  decide (1 ≤ mid ms i) && decide (mid ms i ≤ 1000000) && okB (mat ms i) && decide ((mat ms i).length = (mat ms 0).length) && (decide (i = 0) || decide (mid ms (i - 1) < mid ms i))
def marksB (ms : List Mk) : Bool := decide (ms.length ≤ 60) && (List.range ms.length).all (mOkAt ms)
def kindB (k : Int) : Bool := decide (1 ≤ k) && decide (k ≤ 3)
def betV (a b : List Int) (k : Int) : Int := if k = 1 then farV a b else if k = 2 then stepsV a b else if k = 3 then reachV a b else -1
def betF (ms : List Mk) (p : List Int) (k : Int) (i : Nat) : Int := betV p (mat ms i) k
def mostV (ms : List Mk) (p : List Int) (k : Int) : Int := maxTo (betF ms p k) ms.length
def mostF (ms : List Mk) (k : Int) (i : Nat) : Int := mostV ms (mat ms i) k
def noneB (ms : List Mk) (k : Int) : Bool := decide (ms.length = 0) || !marksB ms || !kindB k
def diaV (ms : List Mk) (k : Int) : Int := if noneB ms k = true then -1 else maxTo (mostF ms k) ms.length
def bestI (ms : List Mk) (k : Int) : Nat → Nat
  | 0 => 0
  | n + 1 => if mostF ms k n < mostF ms k (bestI ms k n) then n else bestI ms k n
def midV (ms : List Mk) (k : Int) : Int := if noneB ms k = true then 0 else mid ms (bestI ms k ms.length)

theorem mOkAt_iff (ms : List Mk) (i : Nat) : mOkAt ms i = true ↔ 1 ≤ mid ms i ∧ mid ms i ≤ 1000000 ∧ okB (mat ms i) = true ∧ (mat ms i).length = (mat ms 0).length ∧ (i = 0 ∨ mid ms (i - 1) < mid ms i) := by
  simp [mOkAt, and_assoc]
theorem marksB_len {ms : List Mk} (h : marksB ms = true) : ms.length ≤ 60 := by simp [marksB] at h; exact h.1
theorem marksB_at {ms : List Mk} (h : marksB ms = true) {i : Nat} (hi : i < ms.length) : mOkAt ms i = true := by
  simp only [marksB, Bool.and_eq_true, List.all_eq_true] at h
  exact h.2 i (List.mem_range.2 hi)
theorem marksB_long {ms : List Mk} (h : 60 < ms.length) : marksB ms = false := by simp [marksB]; omega
theorem marksB_out {ms : List Mk} {i : Nat} (hi : i < ms.length) (h : mOkAt ms i = false) : marksB ms = false := by
  rcases hb : marksB ms with _ | _
  · rfl
  · rw [marksB_at hb hi] at h; cases h
theorem marksB_mk {ms : List Mk} (hl : ms.length ≤ 60) (h : ∀ i, i < ms.length → mOkAt ms i = true) : marksB ms = true := by
  simp only [marksB, Bool.and_eq_true, List.all_eq_true, decide_eq_true_eq]
  exact ⟨hl, fun i hi => h i (List.mem_range.1 hi)⟩
theorem mOkAt_false (ms : List Mk) (i : Nat) (h : ¬ (1 ≤ mid ms i ∧ mid ms i ≤ 1000000 ∧ okB (mat ms i) = true ∧ (mat ms i).length = (mat ms 0).length ∧ (i = 0 ∨ mid ms (i - 1) < mid ms i))) : mOkAt ms i = false := by
  rcases hb : mOkAt ms i with _ | _
  · rfl
  · exact absurd ((mOkAt_iff ms i).1 hb) h
theorem marks_two {ms : List Mk} (h : marksB ms = true) {i j : Nat} (hi : i < ms.length) (hj : j < ms.length) : twoB (mat ms i) (mat ms j) = true := by
  have a := (mOkAt_iff ms i).1 (marksB_at h hi)
  have b := (mOkAt_iff ms j).1 (marksB_at h hj)
  exact twoB_true a.2.2.1 b.2.2.1 (by omega)

theorem betV_le (a b : List Int) (k : Int) : -1 ≤ betV a b k ∧ betV a b k ≤ 16000000 := by
  rcases ht : twoB a b with _ | _
  · have : betV a b k = -1 := by simp [betV, farV, stepsV, reachV, ht]
    omega
  · obtain ⟨ha, hb, hl⟩ := twoB_of ht
    have h4 := okB_len ha
    have h1 := sumTo_le (sqF a b) 0 4000000 (sqF_bd ha hb) a.length
    have h2 := sumTo_le (gapF a b) 0 2000 (gapF_bd ha hb) a.length
    have h3 := maxTo_le (gapF a b) 2000 (by omega) (fun i => (gapF_bd ha hb i).2) a.length
    simp only [betV, farV, stepsV, reachV, ht, if_true]
    split
    · omega
    · split
      · omega
      · split <;> omega
theorem most_le (ms : List Mk) (p : List Int) (k : Int) (n : Nat) : 0 ≤ maxTo (betF ms p k) n ∧ maxTo (betF ms p k) n ≤ 16000000 :=
  maxTo_le _ _ (by omega) (fun i => (betV_le _ _ _).2) n
theorem mostF_le (ms : List Mk) (k : Int) (i : Nat) : 0 ≤ mostF ms k i ∧ mostF ms k i ≤ 16000000 := most_le _ _ _ _
theorem dia_le (ms : List Mk) (k : Int) (n : Nat) : 0 ≤ maxTo (mostF ms k) n ∧ maxTo (mostF ms k) n ≤ 16000000 :=
  maxTo_le _ _ (by omega) (fun i => (mostF_le _ _ _).2) n

theorem maxTo_ge (f : Nat → Int) (n j : Nat) (h : j < n) : f j ≤ maxTo f n := by
  induction n with
  | zero => omega
  | succ n ih =>
    simp only [maxTo]
    rcases Nat.lt_or_ge j n with h1 | h1
    · have := ih h1; omega
    · rw [show j = n by omega]; omega
theorem maxTo_lub (f : Nat → Int) (n : Nat) (c : Int) (h0 : 0 ≤ c) (h : ∀ j, j < n → f j ≤ c) : maxTo f n ≤ c := by
  induction n with
  | zero => exact h0
  | succ n ih => have := ih (fun j hj => h j (by omega)); have := h n (by omega); simp only [maxTo]; omega

theorem bestI_one (ms : List Mk) (k : Int) : bestI ms k 1 = 0 := by simp [bestI]
theorem bestI_lt (ms : List Mk) (k : Int) (n : Nat) (h : 0 < n) : bestI ms k n < n := by
  induction n with
  | zero => omega
  | succ n ih =>
    simp only [bestI]
    split
    · omega
    · rcases Nat.eq_zero_or_pos n with h0 | h0
      · subst h0; simp [bestI]
      · have := ih h0; omega
theorem bestI_least (ms : List Mk) (k : Int) (n j : Nat) (h : j < n) : mostF ms k (bestI ms k n) ≤ mostF ms k j := by
  induction n with
  | zero => omega
  | succ n ih =>
    simp only [bestI]
    rcases Nat.lt_or_ge j n with h1 | h1
    · have := ih h1
      split <;> omega
    · rw [show j = n by omega]
      split <;> omega

theorem noneB_of {ms : List Mk} {k : Int} (h : noneB ms k = false) : 0 < ms.length ∧ marksB ms = true ∧ kindB k = true := by
  simp [noneB] at h
  exact ⟨List.length_pos_iff.2 h.1.1, h.1.2, h.2⟩
theorem noneB_nil {ms : List Mk} {k : Int} (h : ms.length = 0) : noneB ms k = true := by simp [noneB, h]
theorem noneB_bad {ms : List Mk} {k : Int} (h : marksB ms = false) : noneB ms k = true := by simp [noneB, h]
theorem noneB_kind {ms : List Mk} {k : Int} (h : kindB k = false) : noneB ms k = true := by simp [noneB, h]
theorem noneB_false {ms : List Mk} {k : Int} (h0 : ms.length ≠ 0) (hm : marksB ms = true) (hk : kindB k = true) : noneB ms k = false := by simp [noneB, hm, hk]; simpa using h0
theorem kindB_iff (k : Int) : kindB k = true ↔ 1 ≤ k ∧ k ≤ 3 := by simp [kindB]
theorem kindB_false {k : Int} (h : ¬ (1 ≤ k ∧ k ≤ 3)) : kindB k = false := by
  rcases hb : kindB k with _ | _
  · rfl
  · exact absurd ((kindB_iff k).1 hb) h

end Go.Proofs.Ytpcclaehcmnngaa
namespace Go.Proofs.Ytpcclaehcmnngaa

/-- The least so far (none: below 0), and one more. -/
def zStep (n d : Int) : Int := if n < 0 ∨ d < n then d else n
/-- The least D of i to those of C; -1 of none. -/
def zNear (D : Nat → Nat → Int) (i : Nat) (C : List Nat) : Int := C.foldl (fun n c => zStep n (D i c)) (-1)
def zRad (D : Nat → Nat → Int) (n : Nat) (C : List Nat) : Int := maxTo (fun i => zNear D i C) n
/-- Of the first m the one not in C whose least is greatest, the first of alike ones. -/
def zArg (D : Nat → Nat → Int) (C : List Nat) : Nat → Option Nat
  | 0 => none
  | m + 1 => if m ∈ C then zArg D C m else match zArg D C m with
    | none => some m
    | some b => if zNear D b C < zNear D m C then some m else some b
def zCho (D : Nat → Nat → Int) (n : Nat) : Nat → List Nat
  | 0 => []
  | t + 1 => if t = 0 then [0] else zCho D n t ++ [(zArg D (zCho D n t) n).getD 0]

theorem zNear_fold (D : Nat → Nat → Int) (i : Nat) (h : ∀ c, 0 ≤ D i c) (C : List Nat) (a : Int) :
    (0 ≤ a → C.foldl (fun n c => zStep n (D i c)) a ≤ a) ∧ (∀ c ∈ C, C.foldl (fun n c => zStep n (D i c)) a ≤ D i c) ∧ (C.foldl (fun n c => zStep n (D i c)) a = a ∨ ∃ c ∈ C, C.foldl (fun n c => zStep n (D i c)) a = D i c) ∧ (a < 0 → C ≠ [] → 0 ≤ C.foldl (fun n c => zStep n (D i c)) a) ∧ (0 ≤ a → 0 ≤ C.foldl (fun n c => zStep n (D i c)) a) := by
  induction C generalizing a with
  | nil => exact ⟨fun _ => Int.le_refl _, fun c hc => by simp at hc, Or.inl rfl, fun _ h => absurd rfl h, fun h => h⟩
  | cons x C ih =>
    simp only [List.foldl_cons]
    have hx := h x
    obtain ⟨i1, i2, i3, i4, i5⟩ := ih (zStep a (D i x))
    have hs0 : 0 ≤ zStep a (D i x) := by unfold zStep; split <;> omega
    have hs1 : zStep a (D i x) ≤ D i x := by unfold zStep; split <;> omega
    have hs2 : 0 ≤ a → zStep a (D i x) ≤ a := fun ha => by unfold zStep; split <;> omega
    have i1' := i1 hs0
    refine ⟨fun ha => Int.le_trans i1' (hs2 ha), fun c hc => ?_, ?_, fun _ _ => i5 hs0, fun _ => i5 hs0⟩
    · rcases List.mem_cons.1 hc with e | e
      · rw [e]; exact Int.le_trans i1' hs1
      · exact i2 c e
    · rcases i3 with e | ⟨c, hc, e⟩
      · rw [e]
        unfold zStep
        split
        · exact Or.inr ⟨x, List.mem_cons_self .., rfl⟩
        · exact Or.inl rfl
      · exact Or.inr ⟨c, List.mem_cons_of_mem _ hc, e⟩
theorem zNear_le {D : Nat → Nat → Int} {i : Nat} (h : ∀ c, 0 ≤ D i c) {C : List Nat} {c : Nat} (hc : c ∈ C) : zNear D i C ≤ D i c := (zNear_fold D i h C (-1)).2.1 c hc
theorem zNear_pos {D : Nat → Nat → Int} {i : Nat} (h : ∀ c, 0 ≤ D i c) {C : List Nat} (hC : C ≠ []) : 0 ≤ zNear D i C := (zNear_fold D i h C (-1)).2.2.2.1 (by omega) hC
theorem zNear_at {D : Nat → Nat → Int} {i : Nat} (h : ∀ c, 0 ≤ D i c) {C : List Nat} (hC : C ≠ []) : ∃ c ∈ C, zNear D i C = D i c := by
  rcases (zNear_fold D i h C (-1)).2.2.1 with e | e
  · have := zNear_pos h hC
    unfold zNear at this
    omega
  · exact e
theorem zNear_more {D : Nat → Nat → Int} {i : Nat} (h : ∀ c, 0 ≤ D i c) {C E : List Nat} (hC : C ≠ []) (hs : ∀ c ∈ C, c ∈ E) : zNear D i E ≤ zNear D i C := by
  obtain ⟨c, hc, e⟩ := zNear_at h hC
  rw [e]
  exact zNear_le h (hs c hc)
theorem zNear_self {D : Nat → Nat → Int} {i : Nat} (h : ∀ c, 0 ≤ D i c) (h0 : D i i = 0) {C : List Nat} (hi : i ∈ C) : zNear D i C = 0 := by
  have h1 := zNear_le h hi
  have h2 := zNear_pos h (C := C) (fun e => by rw [e] at hi; simp at hi)
  omega
theorem zRad_ge {D : Nat → Nat → Int} {n i : Nat} (hi : i < n) (C : List Nat) : zNear D i C ≤ zRad D n C := maxTo_ge (fun i => zNear D i C) n i hi
theorem zRad_nn (D : Nat → Nat → Int) (n : Nat) (C : List Nat) : 0 ≤ zRad D n C := by
  unfold zRad
  induction n with
  | zero => simp [maxTo]
  | succ n ih => simp only [maxTo]; omega
theorem maxTo_at (f : Nat → Int) (n : Nat) (h : 0 < maxTo f n) : ∃ i, i < n ∧ f i = maxTo f n := by
  induction n with
  | zero => simp [maxTo] at h
  | succ n ih =>
    simp only [maxTo] at h ⊢
    by_cases e : maxTo f n ≤ f n
    · exact ⟨n, by omega, by omega⟩
    · obtain ⟨i, hi, e2⟩ := ih (by omega)
      exact ⟨i, by omega, by omega⟩
/-- More of them reach no farther. -/
theorem zRad_more {D : Nat → Nat → Int} (h : ∀ i c, 0 ≤ D i c) (n : Nat) {C E : List Nat} (hC : C ≠ []) (hs : ∀ c ∈ C, c ∈ E) : zRad D n E ≤ zRad D n C :=
  maxTo_lub _ n _ (zRad_nn D n C) (fun i hi => Int.le_trans (zNear_more (h i) hC hs) (zRad_ge hi C))
/-- All of them: nothing is apart. -/
theorem zRad_all {D : Nat → Nat → Int} (h : ∀ i c, 0 ≤ D i c) (h0 : ∀ i, D i i = 0) (n : Nat) {C : List Nat} (hs : ∀ i, i < n → i ∈ C) : zRad D n C = 0 := by
  have h1 := zRad_nn D n C
  have h2 : zRad D n C ≤ 0 := maxTo_lub _ n _ (by omega) (fun i hi => by rw [zNear_self (h i) (h0 i) (hs i hi)]; omega)
  omega

theorem zArg_spec (D : Nat → Nat → Int) (C : List Nat) (m : Nat) :
    match zArg D C m with
    | none => ∀ j, j < m → j ∈ C
    | some b => b < m ∧ b ∉ C ∧ (∀ j, j < m → j ∉ C → zNear D j C ≤ zNear D b C) ∧ (∀ j, j < b → j ∉ C → zNear D j C < zNear D b C) := by
  induction m with
  | zero => simp [zArg]
  | succ m ih =>
    simp only [zArg]
    by_cases hm : m ∈ C
    · rw [if_pos hm]
      rcases hz : zArg D C m with _ | b
      · rw [hz] at ih
        intro j hj
        rcases Nat.lt_or_ge j m with h | h
        · exact ih j h
        · rw [show j = m by omega]; exact hm
      · rw [hz] at ih
        obtain ⟨a1, a2, a3, a4⟩ := ih
        refine ⟨by omega, a2, fun j hj hn => ?_, a4⟩
        rcases Nat.lt_or_ge j m with h | h
        · exact a3 j h hn
        · exact absurd (by rw [show j = m by omega]; exact hm) hn
    · rw [if_neg hm]
      rcases hz : zArg D C m with _ | b
      · rw [hz] at ih
        refine ⟨by omega, hm, fun j hj hn => ?_, fun j hj hn => absurd (ih j hj) hn⟩
        rcases Nat.lt_or_ge j m with h | h
        · exact absurd (ih j h) hn
        · rw [show j = m by omega]; exact Int.le_refl _
      · rw [hz] at ih
        obtain ⟨a1, a2, a3, a4⟩ := ih
        by_cases hlt : zNear D b C < zNear D m C
        · simp only [hlt, if_true]
          refine ⟨by omega, hm, fun j hj hn => ?_, fun j hj hn => ?_⟩
          · rcases Nat.lt_or_ge j m with h | h
            · have := a3 j h hn; omega
            · rw [show j = m by omega]; exact Int.le_refl _
          · have := a3 j hj hn; omega
        · simp only [hlt, if_false]
          refine ⟨by omega, a2, fun j hj hn => ?_, a4⟩
          rcases Nat.lt_or_ge j m with h | h
          · exact a3 j h hn
          · rw [show j = m by omega]; omega
theorem zArg_some {D : Nat → Nat → Int} {C : List Nat} {m j : Nat} (hj : j < m) (hn : j ∉ C) : ∃ b, zArg D C m = some b := by
  have := zArg_spec D C m
  rcases hz : zArg D C m with _ | b
  · rw [hz] at this; exact absurd (this j hj) hn
  · exact ⟨b, rfl⟩
/-- Fewer than n are not all. -/
theorem zOut {C : List Nat} {n : Nat} (h : C.length < n) : ∃ j, j < n ∧ j ∉ C := by
  induction n generalizing C with
  | zero => omega
  | succ n ih =>
    by_cases hm : n ∈ C
    · obtain ⟨j, hj, hn⟩ := ih (C := C.erase n) (by rw [List.length_erase_of_mem hm]; have : 0 < C.length := List.length_pos_of_mem hm; omega)
      refine ⟨j, by omega, fun hc => hn ?_⟩
      exact (List.mem_erase_of_ne (by omega)).2 hc
    · exact ⟨n, by omega, hm⟩

theorem zCho_succ {D : Nat → Nat → Int} {n t : Nat} (ht : 0 < t) : zCho D n (t + 1) = zCho D n t ++ [(zArg D (zCho D n t) n).getD 0] := by
  simp only [zCho]
  rw [if_neg (by omega)]
theorem zCho_ok {D : Nat → Nat → Int} {n : Nat} (t : Nat) (ht : t ≤ n) : (zCho D n t).length = t ∧ (zCho D n t).Nodup ∧ ∀ c ∈ zCho D n t, c < n := by
  induction t with
  | zero => simp [zCho]
  | succ t ih =>
    obtain ⟨i1, i2, i3⟩ := ih (by omega)
    rcases Nat.eq_zero_or_pos t with h0 | h0
    · subst h0
      simp only [zCho, if_true]
      exact ⟨rfl, by simp, fun c hc => by simp at hc; omega⟩
    · rw [zCho_succ h0]
      obtain ⟨j, hj, hn⟩ := zOut (C := zCho D n t) (n := n) (by omega)
      obtain ⟨b, hb⟩ := zArg_some (D := D) hj hn
      have hs := zArg_spec D (zCho D n t) n
      rw [hb] at hs
      rw [hb]
      refine ⟨by simp [i1], ?_, fun c hc => ?_⟩
      · rw [List.nodup_append]
        refine ⟨i2, by simp, fun a ha c hc => ?_⟩
        simp at hc
        rw [hc]
        exact fun e => hs.2.1 (by rw [← e]; exact ha)
      · rcases List.mem_append.1 hc with h | h
        · exact i3 c h
        · simp at h; rw [h]; exact hs.1
/-- What was chosen stays chosen. -/
theorem zCho_pre {D : Nat → Nat → Int} {n t k : Nat} (htk : t ≤ k) : ∃ r, zCho D n k = zCho D n t ++ r := by
  induction k with
  | zero => exact ⟨[], by rw [show t = 0 by omega]; simp⟩
  | succ k ih =>
    rcases Nat.lt_or_ge t (k + 1) with h | h
    · obtain ⟨r, hr⟩ := ih (by omega)
      rcases Nat.eq_zero_or_pos k with h0 | h0
      · subst h0
        obtain rfl : t = 0 := by omega
        exact ⟨zCho D n 1, by simp [zCho]⟩
      · rw [zCho_succ h0, hr]
        exact ⟨r ++ [(zArg D (zCho D n t ++ r) n).getD 0], by simp⟩
    · exact ⟨[], by rw [show t = k + 1 by omega]; simp⟩
theorem zCho_take {D : Nat → Nat → Int} {n t k : Nat} (htk : t ≤ k) (hk : k ≤ n) : (zCho D n k).take t = zCho D n t := by
  obtain ⟨r, hr⟩ := zCho_pre (D := D) (n := n) htk
  have hl := (zCho_ok (D := D) (n := n) t (by omega)).1
  rw [hr, List.take_append_of_le_length (by omega), List.take_of_length_le (by omega)]
/-- Two of more than there are places have one place. -/
theorem zPigeon (f : Nat → Nat) (m : Nat) : ∀ (B : List Nat), B.length < m → (∀ s, s < m → f s ∈ B) → ∃ s t, s < t ∧ t < m ∧ f s = f t := by
  induction m with
  | zero => intro B h; omega
  | succ m ih =>
    intro B hB h
    by_cases hx : ∃ s, s < m ∧ f s = f m
    · obtain ⟨s, hs, e⟩ := hx
      exact ⟨s, m, hs, by omega, e⟩
    · have hm := h m (by omega)
      obtain ⟨s, t, h1, h2, h3⟩ := ih (B.erase (f m)) (by rw [List.length_erase_of_mem hm]; have : 0 < B.length := List.length_pos_of_mem hm; omega) (fun s hs => (List.mem_erase_of_ne (fun e => hx ⟨s, hs, e⟩)).2 (h s (by omega)))
      exact ⟨s, t, h1, by omega, h3⟩
theorem zCho_at {D : Nat → Nat → Int} {n k t : Nat} (h0 : 0 < t) (ht : t < k) (hk : k ≤ n) : (zCho D n k).getD t 0 = (zArg D (zCho D n t) n).getD 0 := by
  have h1 := zCho_take (D := D) (t := t + 1) (k := k) (n := n) (by omega) hk
  have hl := (zCho_ok (D := D) (n := n) t (by omega)).1
  have hk' := (zCho_ok (D := D) (n := n) k hk).1
  have e : (zCho D n k).getD t 0 = ((zCho D n k).take (t + 1)).getD t 0 := by simp [List.getD]
  rw [e, h1, zCho_succ h0]
  simp [List.getD, hl]
theorem zCho_mem {D : Nat → Nat → Int} {n k s t : Nat} (hs : s < t) (ht : t ≤ k) (hk : k ≤ n) : (zCho D n k).getD s 0 ∈ zCho D n t := by
  have h1 := zCho_take (D := D) (t := t) (k := k) (n := n) ht hk
  have hl := (zCho_ok (D := D) (n := n) t (by omega)).1
  have e : (zCho D n k).getD s 0 = ((zCho D n k).take t).getD s 0 := by simp [List.getD, hs]
  rw [e, h1]
  have : (zCho D n t).getD s 0 = (zCho D n t)[s]'(by omega) := by simp [List.getD, show s < (zCho D n t).length by omega]
  rw [this]
  exact List.getElem_mem _
theorem zCho_ne {D : Nat → Nat → Int} {n t : Nat} (h0 : 0 < t) (ht : t ≤ n) : zCho D n t ≠ [] := fun e => by
  have := (zCho_ok (D := D) (n := n) t ht).1
  rw [e] at this
  simp at this
  omega
/-- Gonzalez: who is chosen reaches at most twice as far as any other ones, as many (by the constant of the third side). -/
theorem zGonz {D : Nat → Nat → Int} {n k : Nat} {a : Int} (hnn : ∀ i c, 0 ≤ D i c) (h0 : ∀ i, D i i = 0) (ha : 0 ≤ a)
    (htri : ∀ i j b, i < n → j < n → b < n → D i j ≤ a * (D i b + D j b)) (hk : 1 ≤ k) (hkn : k ≤ n) (B : List Nat) (hBl : B.length ≤ k) (hB0 : B ≠ []) (hBn : ∀ b ∈ B, b < n) :
    zRad D n (zCho D n k) ≤ 2 * a * zRad D n B := by
  have hrB := zRad_nn D n B
  have hab : 0 ≤ 2 * a * zRad D n B := Int.mul_nonneg (by omega) hrB
  rcases Int.lt_or_le (2 * a * zRad D n B) (zRad D n (zCho D n k)) with hlt | hle
  · exfalso
    obtain ⟨x, hx, hR⟩ := maxTo_at (fun i => zNear D i (zCho D n k)) n (by have : zRad D n (zCho D n k) = maxTo (fun i => zNear D i (zCho D n k)) n := rfl; omega)
    have hR' : zNear D x (zCho D n k) = zRad D n (zCho D n k) := hR
    have hxC : x ∉ zCho D n k := fun hm => by
      have := zNear_self (hnn x) (h0 x) hm
      omega
    have hCn := (zCho_ok (D := D) (n := n) k hkn).2.2
    have hCl := (zCho_ok (D := D) (n := n) k hkn).1
    let p : Nat → Nat := fun s => if s < k then (zCho D n k).getD s 0 else x
    have hpn : ∀ s, p s < n := fun s => by
      show (if s < k then (zCho D n k).getD s 0 else x) < n
      split
      · rename_i h
        exact hCn _ (zCho_mem h (Nat.le_refl _) hkn)
      · exact hx
    have hfar : ∀ s t, s < t → t ≤ k → zRad D n (zCho D n k) ≤ D (p t) (p s) := fun s t hst htk => by
      have hps : p s = (zCho D n k).getD s 0 := if_pos (by omega)
      rcases Nat.lt_or_ge t k with h | h
      · have hpt : p t = (zArg D (zCho D n t) n).getD 0 := by
          show (if t < k then (zCho D n k).getD t 0 else x) = _
          rw [if_pos h]
          exact zCho_at (by omega) h hkn
        have hsub : ∀ c ∈ zCho D n t, c ∈ zCho D n k := fun c hc => by
          obtain ⟨r, hr⟩ := zCho_pre (D := D) (n := n) (t := t) (k := k) (by omega)
          rw [hr]
          exact List.mem_append_left _ hc
        have hxt : x ∉ zCho D n t := fun hm => hxC (hsub x hm)
        obtain ⟨b, hb⟩ := zArg_some (D := D) hx hxt
        have hsp := zArg_spec D (zCho D n t) n
        rw [hb] at hsp hpt
        simp at hpt
        rw [hpt, hps, ← hR']
        have q1 := zNear_more (hnn x) (zCho_ne (D := D) (n := n) (t := t) (by omega) (by omega)) hsub
        have q2 := hsp.2.2.1 x hx hxt
        have q3 := zNear_le (hnn b) (zCho_mem (D := D) (n := n) (k := k) hst (by omega) hkn)
        omega
      · obtain rfl : t = k := by omega
        have hpt : p t = x := if_neg (by omega)
        rw [hpt, hps, ← hR']
        exact zNear_le (hnn x) (zCho_mem hst (Nat.le_refl _) hkn)
    have hb : ∀ s, ∃ b, b ∈ B ∧ zNear D (p s) B = D (p s) b := fun s => by
      obtain ⟨b, h1, h2⟩ := zNear_at (hnn (p s)) hB0
      exact ⟨b, h1, h2⟩
    obtain ⟨s, t, hst, htk, hst2⟩ := zPigeon (fun s => Classical.choose (hb s)) (k + 1) B (by omega) (fun s _ => (Classical.choose_spec (hb s)).1)
    have hs := (Classical.choose_spec (hb s)).2
    have ht := (Classical.choose_spec (hb t)).2
    have hbB := (Classical.choose_spec (hb t)).1
    have hst3 : Classical.choose (hb s) = Classical.choose (hb t) := hst2
    rw [hst3] at hs
    clear hst2 hst3
    generalize Classical.choose (hb t) = b at *
    have r1 := zRad_ge (D := D) (hpn s) B
    have r2 := zRad_ge (D := D) (hpn t) B
    have q := hfar s t hst (by omega)
    have q2 := htri (p t) (p s) b (hpn t) (hpn s) (hBn b hbB)
    have q3 : a * (D (p t) b + D (p s) b) ≤ a * (2 * zRad D n B) := Int.mul_le_mul_of_nonneg_left (by omega) ha
    have e : a * (2 * zRad D n B) = 2 * a * zRad D n B := by rw [Int.mul_left_comm, ← Int.mul_assoc]
    omega
  · exact hle

end Go.Proofs.Ytpcclaehcmnngaa
namespace Go.Proofs.Ytpcclaehcmnngaa

def zLess (b r : Int) : Int := if 0 ≤ r ∧ (b < 0 ∨ r < b) then r else b
/-- The least radius of these and any k more behind them. -/
def zBest (D : Nat → Nat → Int) (n : Nat) : Nat → List Nat → Nat → Int
  | 0, ids, _ => zRad D n ids
  | k + 1, ids, fr => (List.range' fr (n - fr)).foldl (fun b i => zLess b (zBest D n k (ids ++ [i]) (i + 1))) (-1)
/-- k rising ones from fr on, ahead of n. -/
def zRise (n fr : Nat) (E : List Nat) : Prop := E.Pairwise (· < ·) ∧ ∀ e ∈ E, fr ≤ e ∧ e < n

theorem zLess_fold (g : Nat → Int) (L : List Nat) (b : Int) :
    (0 ≤ b → 0 ≤ L.foldl (fun b i => zLess b (g i)) b ∧ L.foldl (fun b i => zLess b (g i)) b ≤ b) ∧
    (∀ i ∈ L, 0 ≤ g i → 0 ≤ L.foldl (fun b i => zLess b (g i)) b ∧ L.foldl (fun b i => zLess b (g i)) b ≤ g i) ∧
    (L.foldl (fun b i => zLess b (g i)) b = b ∨ ∃ i ∈ L, 0 ≤ g i ∧ L.foldl (fun b i => zLess b (g i)) b = g i) := by
  induction L generalizing b with
  | nil => exact ⟨fun h => ⟨h, Int.le_refl _⟩, fun i hi => by simp at hi, Or.inl rfl⟩
  | cons x L ih =>
    simp only [List.foldl_cons]
    obtain ⟨i1, i2, i3⟩ := ih (zLess b (g x))
    have hb : 0 ≤ b → 0 ≤ zLess b (g x) ∧ zLess b (g x) ≤ b := fun h => by unfold zLess; split <;> omega
    have hx : 0 ≤ g x → 0 ≤ zLess b (g x) ∧ zLess b (g x) ≤ g x := fun h => by unfold zLess; split <;> omega
    refine ⟨fun h => ?_, fun i hi hg => ?_, ?_⟩
    · have h1 := hb h
      have h2 := i1 h1.1
      omega
    · rcases List.mem_cons.1 hi with e | e
      · subst e
        have h1 := hx hg
        have h2 := i1 h1.1
        omega
      · exact i2 i e hg
    · rcases i3 with e | ⟨i, hi, h1, h2⟩
      · rw [e]
        unfold zLess
        split
        · rename_i h
          exact Or.inr ⟨x, List.mem_cons_self .., h.1, rfl⟩
        · exact Or.inl rfl
      · exact Or.inr ⟨i, List.mem_cons_of_mem _ hi, h1, h2⟩
/-- It is no more than any one's, and some one's. -/
theorem zBest_spec (D : Nat → Nat → Int) (n k : Nat) : ∀ (ids : List Nat) (fr : Nat),
    (∀ E, zRise n fr E → E.length = k → 0 ≤ zBest D n k ids fr ∧ zBest D n k ids fr ≤ zRad D n (ids ++ E)) ∧
    (0 ≤ zBest D n k ids fr → ∃ E, zRise n fr E ∧ E.length = k ∧ zBest D n k ids fr = zRad D n (ids ++ E)) ∧ -1 ≤ zBest D n k ids fr := by
  induction k with
  | zero =>
    intro ids fr
    refine ⟨fun E _ hl => ?_, fun _ => ⟨[], ⟨List.Pairwise.nil, by simp⟩, rfl, by simp [zBest]⟩, by have := zRad_nn D n ids; show -1 ≤ zRad D n ids; omega⟩
    have : E = [] := List.eq_nil_of_length_eq_zero hl
    subst this
    have := zRad_nn D n ids
    simp [zBest]
    exact this
  | succ k ih =>
    intro ids fr
    have hf := zLess_fold (fun i => zBest D n k (ids ++ [i]) (i + 1)) (List.range' fr (n - fr)) (-1)
    have hdef : zBest D n (k + 1) ids fr = (List.range' fr (n - fr)).foldl (fun b i => zLess b (zBest D n k (ids ++ [i]) (i + 1))) (-1) := rfl
    rw [← hdef] at hf
    refine ⟨fun E hE hl => ?_, fun h => ?_, ?_⟩
    · cases E with
      | nil => simp at hl
      | cons x E =>
        obtain ⟨hp, hr⟩ := hE
        have hx := hr x (List.mem_cons_self ..)
        have hp' := List.pairwise_cons.1 hp
        have hE' : zRise n (x + 1) E := ⟨hp'.2, fun e he => ⟨hp'.1 e he, (hr e (List.mem_cons_of_mem _ he)).2⟩⟩
        have h1 := (ih (ids ++ [x]) (x + 1)).1 E hE' (by simpa using hl)
        have h2 := hf.2.1 x (List.mem_range'_1.2 ⟨hx.1, by omega⟩) h1.1
        have e : ids ++ [x] ++ E = ids ++ x :: E := by simp
        rw [e] at h1
        exact ⟨h2.1, Int.le_trans h2.2 h1.2⟩
    · rcases hf.2.2 with e | ⟨i, hi, h1, h2⟩
      · omega
      · obtain ⟨E, hE, hl, he⟩ := (ih (ids ++ [i]) (i + 1)).2.1 h1
        have hi' := List.mem_range'_1.1 hi
        refine ⟨i :: E, ⟨List.pairwise_cons.2 ⟨fun e he => (hE.2 e he).1, hE.1⟩, fun e he => ?_⟩, by simp [hl], ?_⟩
        · rcases List.mem_cons.1 he with h | h
          · subst h; exact ⟨hi'.1, by omega⟩
          · have := hE.2 e h; omega
        · rw [h2, he]
          simp
    · rcases hf.2.2 with e | ⟨i, hi, h1, h2⟩ <;> omega
theorem zRad_same {D : Nat → Nat → Int} (h : ∀ i c, 0 ≤ D i c) (n : Nat) {C E : List Nat} (hC : C ≠ []) (hs : ∀ c, c ∈ C ↔ c ∈ E) : zRad D n C = zRad D n E := by
  have hE : E ≠ [] := fun e => by
    cases C with
    | nil => exact hC rfl
    | cons x C => have := (hs x).1 (List.mem_cons_self ..); rw [e] at this; simp at this
  exact Int.le_antisymm (zRad_more h n hE (fun c hc => (hs c).2 hc)) (zRad_more h n hC (fun c hc => (hs c).1 hc))
/-- Those of C in order. -/
theorem zSorted {n : Nat} {C : List Nat} (hd : C.Nodup) (hn : ∀ c ∈ C, c < n) : ∃ E, zRise n 0 E ∧ E.length = C.length ∧ ∀ c, c ∈ C ↔ c ∈ E := by
  refine ⟨(List.range n).filter (fun i => decide (i ∈ C)), ⟨?_, fun e he => ?_⟩, ?_, fun c => ?_⟩
  · exact List.Pairwise.filter _ List.pairwise_lt_range
  · have := List.mem_range.1 (List.mem_filter.1 he).1; omega
  · have hp : ((List.range n).filter (fun i => decide (i ∈ C))).Perm C := by
      refine (List.perm_ext_iff_of_nodup (List.Pairwise.filter _ List.nodup_range) hd).2 (fun a => ?_)
      simp only [List.mem_filter, List.mem_range, decide_eq_true_eq]
      exact ⟨fun h => h.2, fun h => ⟨hn a h, h⟩⟩
    exact hp.length_eq
  · simp only [List.mem_filter, List.mem_range, decide_eq_true_eq]
    exact ⟨fun h => ⟨hn c h, h⟩, fun h => h.2⟩
/-- The least radius of k of n, told whole. -/
theorem zBest_le {D : Nat → Nat → Int} (h : ∀ i c, 0 ≤ D i c) {n k : Nat} (hk : 1 ≤ k) {C : List Nat} (hd : C.Nodup) (hn : ∀ c ∈ C, c < n) (hl : C.length = k) : 0 ≤ zBest D n k [] 0 ∧ zBest D n k [] 0 ≤ zRad D n C := by
  obtain ⟨E, hE, hEl, hs⟩ := zSorted hd hn
  have h1 := (zBest_spec D n k [] 0).1 E hE (by omega)
  rw [zRad_same h n (fun e => by rw [e] at hl; simp at hl; omega) hs]
  simpa using h1
theorem zRise_nodup {n fr : Nat} {E : List Nat} (h : zRise n fr E) : E.Nodup := by
  refine List.Pairwise.imp ?_ h.1
  intro a b hab
  omega
theorem zBest_at {D : Nat → Nat → Int} {n k : Nat} (h : 0 ≤ zBest D n k [] 0) : ∃ E, E.Nodup ∧ (∀ e ∈ E, e < n) ∧ E.length = k ∧ zBest D n k [] 0 = zRad D n E := by
  obtain ⟨E, hE, hl, he⟩ := (zBest_spec D n k [] 0).2.1 h
  exact ⟨E, zRise_nodup hE, fun e h => (hE.2 e h).2, hl, by simpa using he⟩
theorem zBest_more {D : Nat → Nat → Int} (h : ∀ i c, 0 ≤ D i c) {n k : Nat} (hk : 1 ≤ k) (hkn : k < n) (hb : 0 ≤ zBest D n k [] 0) : zBest D n (k + 1) [] 0 ≤ zBest D n k [] 0 := by
  obtain ⟨E, hd, hn, hl, he⟩ := zBest_at hb
  obtain ⟨j, hj, hjE⟩ := zOut (C := E) (n := n) (by omega)
  have h1 := zBest_le (D := D) h (n := n) (k := k + 1) (by omega) (C := j :: E) (List.nodup_cons.2 ⟨hjE, hd⟩) (fun c hc => by
    rcases List.mem_cons.1 hc with e | e
    · omega
    · exact hn c e) (by simp [hl])
  have h2 := zRad_more (D := D) h n (C := E) (E := j :: E) (fun e => by rw [e] at hl; simp at hl; omega) (fun c hc => List.mem_cons_of_mem _ hc)
  omega

end Go.Proofs.Ytpcclaehcmnngaa
namespace Go.Proofs.Ytpcclaehcmnngaa

/-- The distance of two marks by their places in the list. -/
def zD (ms : List Mk) (kd : Int) (i j : Nat) : Int := max 0 (betV (mat ms i) (mat ms j) kd)
/-- By Far the square makes four of two. -/
def zK (kd : Int) : Int := if kd = 1 then 2 else 1
theorem zD_nn (ms : List Mk) (kd : Int) (i j : Nat) : 0 ≤ zD ms kd i j := by unfold zD; omega
theorem zD_le (ms : List Mk) (kd : Int) (i j : Nat) : zD ms kd i j ≤ 16000000 := by have := betV_le (mat ms i) (mat ms j) kd; unfold zD; omega
theorem sumTo_nought (f : Nat → Int) (h : ∀ i, f i = 0) (n : Nat) : sumTo f n = 0 := by
  induction n with
  | zero => rfl
  | succ n ih => simp only [sumTo]; rw [ih, h n]; rfl
theorem maxTo_nought (f : Nat → Int) (h : ∀ i, f i = 0) (n : Nat) : maxTo f n = 0 := by
  induction n with
  | zero => rfl
  | succ n ih => simp only [maxTo]; rw [ih, h n]; rfl
theorem zD_self (ms : List Mk) (kd : Int) (i : Nat) : zD ms kd i i = 0 := by
  have h1 : ∀ x : List Int, farV x x ≤ 0 := fun x => by
    unfold farV; split
    · rw [sumTo_nought _ (fun i => by simp [sqF])]; omega
    · omega
  have h2 : ∀ x : List Int, stepsV x x ≤ 0 := fun x => by
    unfold stepsV; split
    · rw [sumTo_nought _ (fun i => by unfold gapF; omega)]; omega
    · omega
  have h3 : ∀ x : List Int, reachV x x ≤ 0 := fun x => by
    unfold reachV; split
    · rw [maxTo_nought _ (fun i => by unfold gapF; omega)]; omega
    · omega
  have a1 := h1 (mat ms i)
  have a2 := h2 (mat ms i)
  have a3 := h3 (mat ms i)
  unfold zD betV
  split
  · omega
  · split
    · omega
    · split <;> omega
theorem sq_third (x y z : Int) : (x - y) * (x - y) ≤ 2 * ((x - z) * (x - z) + (y - z) * (y - z)) := by
  have h := sq_nonneg ((x - z) + (y - z))
  have e : ((x - z) + (y - z)) * ((x - z) + (y - z)) = 2 * ((x - z) * (x - z) + (y - z) * (y - z)) - (x - y) * (x - y) := by
    simp only [Int.sub_mul, Int.mul_sub, Int.add_mul, Int.mul_add]
    rw [Int.mul_comm y x, Int.mul_comm z x, Int.mul_comm z y]
    omega
  omega
theorem sum_twice (f g h : Nat → Int) (H : ∀ i, f i ≤ 2 * (g i + h i)) (n : Nat) : sumTo f n ≤ 2 * (sumTo g n + sumTo h n) := by
  induction n with
  | zero => simp [sumTo]
  | succ n ih => have := H n; simp only [sumTo]; omega
theorem zD_in {ms : List Mk} (h : marksB ms = true) (kd : Int) (hk : kindB kd = true) {i j : Nat} (hi : i < ms.length) (hj : j < ms.length) : zD ms kd i j = betV (mat ms i) (mat ms j) kd := by
  have ht := marks_two h hi hj
  obtain ⟨ha, hb, hl⟩ := twoB_of ht
  have h1 := third ht ht
  have hk' := (kindB_iff kd).1 hk
  unfold zD
  have : 0 ≤ betV (mat ms i) (mat ms j) kd := by
    unfold betV
    split
    · omega
    · split
      · omega
      · split <;> omega
  omega
theorem zD_comm (ms : List Mk) (kd : Int) (i j : Nat) : zD ms kd i j = zD ms kd j i := by
  unfold zD betV
  have hf : ∀ a b : List Int, farV a b = farV b a := fun a b => by
    unfold farV
    by_cases ht : twoB a b = true
    · obtain ⟨ha, hb, hl⟩ := twoB_of ht
      rw [if_pos ht, if_pos (twoB_true hb ha hl.symm), hl]
      refine sumTo_congr _ _ _ (fun i _ => ?_)
      simp only [sqF]
      rw [show nth b i - nth a i = -(nth a i - nth b i) by omega, Int.neg_mul_neg]
    · have h' : ¬ twoB b a = true := fun h2 => by
        obtain ⟨ha, hb, hl⟩ := twoB_of h2
        exact ht (twoB_true hb ha hl.symm)
      rw [if_neg ht, if_neg h']
  rw [hf (mat ms i), stepsV_comm (mat ms j), reachV_comm (mat ms j)]
theorem zD_third {ms : List Mk} (h : marksB ms = true) (kd : Int) (hk : kindB kd = true) (i j b : Nat) (hi : i < ms.length) (hj : j < ms.length) (hb : b < ms.length) : zD ms kd i j ≤ zK kd * (zD ms kd i b + zD ms kd j b) := by
  have hij := marks_two h hi hj
  have hib := marks_two h hi hb
  have hjb := marks_two h hj hb
  have t := third hij hib
  have hk' := (kindB_iff kd).1 hk
  rw [zD_in h kd hk hi hj, zD_in h kd hk hi hb, zD_comm ms kd j b, zD_in h kd hk hb hj]
  unfold zK betV
  by_cases k1 : kd = 1
  · simp only [k1, if_true]
    have hbj := marks_two h hb hj
    obtain ⟨_, _, l1⟩ := twoB_of hij
    obtain ⟨_, _, l2⟩ := twoB_of hib
    rw [farV, if_pos hij, farV, if_pos hib, farV, if_pos hbj, ← l2]
    refine sum_twice _ _ _ (fun i => ?_) _
    simp only [sqF]
    rw [show (nth (mat ms b) i - nth (mat ms j) i) * (nth (mat ms b) i - nth (mat ms j) i) = (nth (mat ms j) i - nth (mat ms b) i) * (nth (mat ms j) i - nth (mat ms b) i) by rw [show nth (mat ms b) i - nth (mat ms j) i = -(nth (mat ms j) i - nth (mat ms b) i) by omega, Int.neg_mul_neg]]
    exact sq_third _ _ _
  · simp only [k1, if_false, Int.one_mul]
    by_cases k2 : kd = 2
    · simp only [k2, if_true]; omega
    · have k3 : kd = 3 := by omega
      simp [k3]; omega

end Go.Proofs.Ytpcclaehcmnngaa
namespace Go.Proofs.Ytpcclaehcmnngaa

/-- Of the first m the first one with this number; -1 of none. -/
def zFindTo (ms : List Mk) (id : Int) : Nat → Int
  | 0 => -1
  | m + 1 => if 0 ≤ zFindTo ms id m then zFindTo ms id m else if mid ms m = id then (m : Int) else -1
def zFind (ms : List Mk) (id : Int) : Int := zFindTo ms id ms.length
def zIdx (ms : List Mk) (id : Int) : Nat := (zFind ms id).toNat
theorem zFindTo_bd (ms : List Mk) (id : Int) (m : Nat) : -1 ≤ zFindTo ms id m ∧ zFindTo ms id m < m ∧ (0 ≤ zFindTo ms id m → mid ms (zFindTo ms id m).toNat = id) := by
  induction m with
  | zero => simp [zFindTo]
  | succ m ih =>
    simp only [zFindTo]
    split
    · exact ⟨ih.1, by omega, ih.2.2⟩
    · split
      · rename_i h
        exact ⟨by omega, by omega, fun _ => by simpa using h⟩
      · exact ⟨by omega, by omega, fun h => by omega⟩
theorem zFindTo_no {ms : List Mk} {id : Int} {m : Nat} (h : zFindTo ms id m < 0) : ∀ j, j < m → mid ms j ≠ id := by
  induction m with
  | zero => intro j hj; omega
  | succ m ih =>
    simp only [zFindTo] at h
    intro j hj
    by_cases h0 : 0 ≤ zFindTo ms id m
    · rw [if_pos h0] at h; omega
    · rw [if_neg h0] at h
      rcases Nat.lt_or_ge j m with h1 | h1
      · exact ih (by omega) j h1
      · rw [show j = m by omega]
        intro e
        rw [if_pos e] at h
        omega
theorem zIdx_lt {ms : List Mk} {id : Int} (h : 0 ≤ zFind ms id) : zIdx ms id < ms.length ∧ ((zIdx ms id : Nat) : Int) = zFind ms id ∧ mid ms (zIdx ms id) = id := by
  have := zFindTo_bd ms id ms.length
  unfold zIdx zFind at *
  exact ⟨by omega, by omega, this.2.2 h⟩
theorem zmid_rises {ms : List Mk} (h : marksB ms = true) {i j : Nat} (hij : i < j) (hj : j < ms.length) : mid ms i < mid ms j := by
  induction j with
  | zero => omega
  | succ j ih =>
    have h1 := ((mOkAt_iff ms (j + 1)).1 (marksB_at h hj)).2.2.2.2
    simp at h1
    rcases Nat.lt_or_ge i j with h2 | h2
    · have := ih h2 (by omega); omega
    · rw [show i = j by omega]; exact h1
theorem zmid_inj {ms : List Mk} (h : marksB ms = true) {i j : Nat} (hi : i < ms.length) (hj : j < ms.length) (e : mid ms i = mid ms j) : i = j := by
  rcases Nat.lt_trichotomy i j with h1 | h1 | h1
  · have := zmid_rises h h1 hj; omega
  · exact h1
  · have := zmid_rises h h1 hi; omega
theorem zFind_mid {ms : List Mk} (h : marksB ms = true) {i : Nat} (hi : i < ms.length) : zFind ms (mid ms i) = i ∧ zIdx ms (mid ms i) = i := by
  have hp : 0 ≤ zFind ms (mid ms i) := by
    rcases Int.lt_or_le (zFind ms (mid ms i)) 0 with h1 | h1
    · exact absurd rfl (zFindTo_no h1 i hi)
    · exact h1
  obtain ⟨a, b, c⟩ := zIdx_lt hp
  have e := zmid_inj h a hi c
  exact ⟨by omega, e⟩
/-- The least distance of a place to those with some numbers. -/
def zNearI (ms : List Mk) (kd : Int) (p : List Int) (ids : List Int) : Int := ids.foldl (fun n id => zStep n (betV p (mat ms (zIdx ms id)) kd)) (-1)
theorem zNearI_eq {ms : List Mk} (h : marksB ms = true) (kd : Int) (hk : kindB kd = true) {i : Nat} (hi : i < ms.length) (ids : List Int) (hf : ∀ id ∈ ids, 0 ≤ zFind ms id) : zNearI ms kd (mat ms i) ids = zNear (zD ms kd) i (ids.map (zIdx ms)) := by
  unfold zNearI zNear
  rw [List.foldl_map]
  generalize (-1 : Int) = a
  induction ids generalizing a with
  | nil => rfl
  | cons x ids ih =>
    simp only [List.foldl_cons]
    rw [zD_in h kd hk hi (zIdx_lt (hf x (List.mem_cons_self ..))).1]
    exact ih (fun id hid => hf id (List.mem_cons_of_mem _ hid)) _
theorem zIdx_map {ms : List Mk} (h : marksB ms = true) {L : List Nat} (hL : ∀ c ∈ L, c < ms.length) : (L.map (mid ms)).map (zIdx ms) = L := by
  rw [List.map_map]
  induction L with
  | nil => rfl
  | cons x L ih =>
    simp only [List.map_cons, Function.comp]
    rw [(zFind_mid h (hL x (List.mem_cons_self ..))).2]
    congr 1
    exact ih (fun c hc => hL c (List.mem_cons_of_mem _ hc))
theorem zFind_map {ms : List Mk} (h : marksB ms = true) {L : List Nat} (hL : ∀ c ∈ L, c < ms.length) : ∀ id ∈ L.map (mid ms), 0 ≤ zFind ms id := fun id hid => by
  obtain ⟨c, hc, rfl⟩ := List.mem_map.1 hid
  have := (zFind_mid h (hL c hc)).1
  omega
/-- Chosen, Radius, BestRadius, plainly. -/
def chosB (ms : List Mk) (k kd : Int) : Bool := marksB ms && decide (1 ≤ k) && decide (k ≤ ms.length) && kindB kd
def choL (ms : List Mk) (k kd : Int) : List Int := if chosB ms k kd = true then (zCho (zD ms kd) ms.length k.toNat).map (mid ms) else []
def radB (ms : List Mk) (ids : List Int) (kd : Int) : Bool := marksB ms && decide (ids.length ≠ 0) && kindB kd && ids.all (fun id => decide (0 ≤ zFind ms id))
def radI (ms : List Mk) (ids : List Int) (kd : Int) : Int := if radB ms ids kd = true then zRad (zD ms kd) ms.length (ids.map (zIdx ms)) else -1
def bradB (ms : List Mk) (k kd : Int) : Bool := chosB ms k kd && decide (ms.length ≤ 8)
def bradI (ms : List Mk) (k kd : Int) : Int := if bradB ms k kd = true then zBest (zD ms kd) ms.length k.toNat [] 0 else -1

end Go.Proofs.Ytpcclaehcmnngaa
namespace Go.Proofs.Ytpcclaehcmnngaa

/-- A hit: its number, and how far. -/
abbrev Ht := Int × Int
def aheadB (a b : Ht) : Bool := decide (a.2 < b.2) || (decide (a.2 = b.2) && decide (a.1 < b.1))
/-- In order, or alike. -/
def leH (a b : Ht) : Prop := a.2 < b.2 ∨ (a.2 = b.2 ∧ a.1 ≤ b.1)
def hnth (hs : List Ht) (i : Nat) : Ht := hs.getD i (0, 0)
def putL : List Ht → Ht → List Ht
  | [], h => [h]
  | x :: xs, h => if aheadB h x = true then h :: x :: xs else x :: putL xs h
def sortL (l : List Ht) : List Ht := l.foldl putL []
def SortedH (l : List Ht) : Prop := l.Pairwise leH

theorem aheadB_iff (a b : Ht) : aheadB a b = true ↔ a.2 < b.2 ∨ (a.2 = b.2 ∧ a.1 < b.1) := by simp [aheadB]
theorem aheadB_false (a b : Ht) : aheadB a b = false ↔ leH b a := by
  unfold leH
  rcases h : aheadB a b with _ | _
  · have : ¬ (a.2 < b.2 ∨ (a.2 = b.2 ∧ a.1 < b.1)) := fun hh => by rw [(aheadB_iff a b).2 hh] at h; cases h
    constructor
    · intro _; omega
    · intro _; rfl
  · have := (aheadB_iff a b).1 h
    constructor
    · intro hh; cases hh
    · intro hh; omega
theorem leH_refl (a : Ht) : leH a a := by unfold leH; omega
theorem leH_trans {a b c : Ht} (h : leH a b) (k : leH b c) : leH a c := by unfold leH at *; omega
theorem leH_antisymm {a b : Ht} (h : leH a b) (k : leH b a) : a = b := by
  unfold leH at *
  exact Prod.ext (by omega) (by omega)
theorem leH_total (a b : Ht) : leH a b ∨ leH b a := by unfold leH; omega
theorem leH_of_ahead {a b : Ht} (h : aheadB a b = true) : leH a b := by rw [aheadB_iff] at h; unfold leH; omega

theorem putL_perm (l : List Ht) (h : Ht) : (putL l h).Perm (h :: l) := by
  induction l with
  | nil => exact List.Perm.refl _
  | cons x xs ih =>
    unfold putL
    split
    · exact List.Perm.refl _
    · exact (List.Perm.cons x ih).trans (List.Perm.swap h x xs)
theorem putL_length (l : List Ht) (h : Ht) : (putL l h).length = l.length + 1 := by rw [(putL_perm l h).length_eq]; rfl
theorem putL_sorted {l : List Ht} (hl : SortedH l) (h : Ht) : SortedH (putL l h) := by
  unfold SortedH at *
  induction l with
  | nil => simp [putL]
  | cons x xs ih =>
    rw [List.pairwise_cons] at hl
    unfold putL
    split
    · rename_i ha
      have hx := leH_of_ahead ha
      exact List.pairwise_cons.2 ⟨fun y hy => by
        rcases List.mem_cons.1 hy with rfl | hy
        · exact hx
        · exact leH_trans hx (hl.1 y hy), List.pairwise_cons.2 hl⟩
    · rename_i ha
      have hx : leH x h := (aheadB_false h x).1 (by simpa using ha)
      refine List.pairwise_cons.2 ⟨fun y hy => ?_, ih hl.2⟩
      rcases List.mem_cons.1 ((putL_perm xs h).mem_iff.1 hy) with rfl | hy
      · exact hx
      · exact hl.1 y hy
theorem fold_perm (l acc : List Ht) : (l.foldl putL acc).Perm (acc ++ l) := by
  induction l generalizing acc with
  | nil => simp
  | cons x xs ih =>
    refine (ih (putL acc x)).trans ?_
    refine ((putL_perm acc x).append_right xs).trans ?_
    exact (List.perm_middle (a := x) (l₁ := acc) (l₂ := xs)).symm
theorem fold_sorted (l acc : List Ht) (h : SortedH acc) : SortedH (l.foldl putL acc) := by
  induction l generalizing acc with
  | nil => exact h
  | cons x xs ih => exact ih _ (putL_sorted h x)
theorem sortL_perm (l : List Ht) : (sortL l).Perm l := by simpa [sortL] using fold_perm l []
theorem sortL_sorted (l : List Ht) : SortedH (sortL l) := fold_sorted l [] List.Pairwise.nil
theorem sortL_length (l : List Ht) : (sortL l).length = l.length := (sortL_perm l).length_eq
theorem sortL_snoc (l : List Ht) (h : Ht) : sortL (l ++ [h]) = putL (sortL l) h := by simp [sortL, List.foldl_append]
/-- Two sorted lists of the same hits are one. -/
theorem sorted_unique {l m : List Ht} (hl : SortedH l) (hm : SortedH m) (hp : l.Perm m) : l = m := by
  unfold SortedH at *
  induction l generalizing m with
  | nil => exact (List.nil_perm.1 hp).symm
  | cons x xs ih =>
    cases m with
    | nil => exact absurd hp.length_eq (by simp)
    | cons y ys =>
      rw [List.pairwise_cons] at hl hm
      have hxy : leH x y := by
        rcases List.mem_cons.1 (hp.mem_iff.2 (List.mem_cons_self ..) : y ∈ x :: xs) with h | h
        · rw [h]; exact leH_refl x
        · exact hl.1 y h
      have hyx : leH y x := by
        rcases List.mem_cons.1 (hp.mem_iff.1 (List.mem_cons_self ..) : x ∈ y :: ys) with h | h
        · rw [h]; exact leH_refl y
        · exact hm.1 x h
      obtain rfl := leH_antisymm hxy hyx
      rw [ih hl.2 hm.2 (List.Perm.cons_inv hp)]
theorem sortL_unique {l m : List Ht} (hm : SortedH m) (hp : m.Perm l) : m = sortL l := sorted_unique hm (sortL_sorted l) (hp.trans (sortL_perm l).symm)
theorem sortL_congr {l m : List Ht} (hp : l.Perm m) : sortL l = sortL m := sorted_unique (sortL_sorted l) (sortL_sorted m) ((sortL_perm l).trans (hp.trans (sortL_perm m).symm))

def hasB (ids : List Int) (x : Int) : Bool := ids.contains x
/-- Each number once, its first. -/
def onceG (ids : List Int) : List Ht → List Ht
  | [] => []
  | x :: xs => if hasB ids x.1 = true then onceG ids xs else x :: onceG (ids ++ [x.1]) xs
def onceL (l : List Ht) : List Ht := onceG [] l

def hitOkAt (hs : List Ht) (i : Nat) : Bool := decide (1 ≤ (hnth hs i).1) && decide (0 ≤ (hnth hs i).2) && (decide (i = 0) || aheadB (hnth hs (i - 1)) (hnth hs i))
def hitsB (hs : List Ht) : Bool := (List.range hs.length).all (hitOkAt hs)
theorem hitsB_at {hs : List Ht} (h : hitsB hs = true) {i : Nat} (hi : i < hs.length) : hitOkAt hs i = true := by
  simp only [hitsB, List.all_eq_true] at h
  exact h i (List.mem_range.2 hi)
theorem hitsB_out {hs : List Ht} {i : Nat} (hi : i < hs.length) (h : hitOkAt hs i = false) : hitsB hs = false := by
  rcases hb : hitsB hs with _ | _
  · rfl
  · rw [hitsB_at hb hi] at h; cases h
theorem hitsB_mk {hs : List Ht} (h : ∀ i, i < hs.length → hitOkAt hs i = true) : hitsB hs = true := by
  simp only [hitsB, List.all_eq_true]
  exact fun i hi => h i (List.mem_range.1 hi)

/-- Are marks and a place as told. -/
def toldB (ms : List Mk) (q : List Int) : Bool := marksB ms && okB q && (decide (ms.length = 0) || decide ((mat ms 0).length = q.length))
def hitF (q : List Int) (m : Mk) : Ht := (m.1, farV m.2 q)
def hitsL (ms : List Mk) (q : List Int) : List Ht := ms.map (hitF q)
def countB (k : Int) : Bool := decide (1 ≤ k) && decide (k ≤ 60)
def nearL (ms : List Mk) (q : List Int) (k : Int) : List Ht := if toldB ms q = true ∧ countB k = true then (sortL (hitsL ms q)).take k.toNat else []
def withinL (ms : List Mk) (q : List Int) (most : Int) : List Ht := if toldB ms q = true ∧ 0 ≤ most then (sortL (hitsL ms q)).filter (fun h => decide (h.2 ≤ most)) else []
def mergedL (a b : List Ht) (k : Int) : List Ht := if countB k = true then (onceL (sortL (a ++ b))).take k.toNat else []

theorem mergedL_comm (a b : List Ht) (k : Int) : mergedL b a k = mergedL a b k := by
  unfold mergedL
  rw [sortL_congr (List.perm_append_comm : (b ++ a).Perm (a ++ b))]

theorem toldB_bad {ms : List Mk} {q : List Int} (h : marksB ms = false) : toldB ms q = false := by simp [toldB, h]
theorem toldB_no {ms : List Mk} {q : List Int} (h : okB q = false) : toldB ms q = false := by simp [toldB, h]

end Go.Proofs.Ytpcclaehcmnngaa
namespace Go.Proofs.Ytpcclaehcmnngaa

/-- Put ahead of the first one that is not ahead of it. -/
def insBy {α : Type} (lt : α → α → Bool) (x : α) : List α → List α
  | [] => [x]
  | y :: ys => if lt y x = true then y :: insBy lt x ys else x :: y :: ys
def posBy {α : Type} (lt : α → α → Bool) (x : α) : List α → Nat
  | [] => 0
  | y :: ys => if lt y x = true then posBy lt x ys + 1 else 0
def sortBy {α : Type} (lt : α → α → Bool) (l : List α) : List α := l.foldl (fun acc x => insBy lt x acc) []
/-- An order in which two that are neither ahead of the other are one, on those of a list. -/
structure Parts {α : Type} (lt : α → α → Bool) (P : α → Prop) : Prop where
  trans : ∀ a b c, P a → P b → P c → lt a b = true → lt b c = true → lt a c = true
  one : ∀ a b, P a → P b → lt a b = false → lt b a = false → a = b
  asym : ∀ a b, P a → P b → lt a b = true → lt b a = false

theorem posBy_le {α : Type} (lt : α → α → Bool) (x : α) (l : List α) : posBy lt x l ≤ l.length := by
  induction l with
  | nil => simp [posBy]
  | cons y ys ih => unfold posBy; split <;> simp <;> omega
theorem insBy_eq {α : Type} (lt : α → α → Bool) (x : α) (l : List α) : insBy lt x l = l.take (posBy lt x l) ++ x :: l.drop (posBy lt x l) := by
  induction l with
  | nil => rfl
  | cons y ys ih =>
    unfold insBy posBy
    split
    · rw [ih]; rfl
    · rfl
theorem posBy_lt {α : Type} (lt : α → α → Bool) (x : α) (l : List α) (i : Nat) (h : i < l.length) (hi : i < posBy lt x l) : lt l[i] x = true := by
  induction l generalizing i with
  | nil => simp at h
  | cons y ys ih =>
    unfold posBy at hi
    split at hi
    · rename_i hy
      match i with
      | 0 => exact hy
      | k + 1 => exact ih k (by simpa using h) (by omega)
    · omega
theorem posBy_at {α : Type} (lt : α → α → Bool) (x : α) (l : List α) (h : posBy lt x l < l.length) : lt l[posBy lt x l] x = false := by
  induction l with
  | nil => simp at h
  | cons y ys ih =>
    by_cases hy : lt y x = true
    · have e : posBy lt x (y :: ys) = posBy lt x ys + 1 := by simp [posBy, hy]
      simp only [e] at h ⊢
      exact ih (by simpa using h)
    · have e : posBy lt x (y :: ys) = 0 := by simp [posBy, hy]
      simp only [e]
      simpa using hy
/-- The place found by going on while those there are ahead. -/
theorem posBy_uniq {α : Type} (lt : α → α → Bool) (x : α) (l : List α) (k : Nat) (hk : k ≤ l.length) (h1 : ∀ i (h : i < l.length), i < k → lt l[i] x = true) (h2 : ∀ h : k < l.length, lt l[k] x = false) : posBy lt x l = k := by
  rcases Nat.lt_trichotomy (posBy lt x l) k with h | h | h
  · have := h1 (posBy lt x l) (by omega) h
    rw [posBy_at lt x l (by omega)] at this; cases this
  · exact h
  · have hl := posBy_le lt x l
    have := posBy_lt lt x l k (by omega) h
    rw [h2 (by omega)] at this; cases this
theorem insBy_perm {α : Type} (lt : α → α → Bool) (x : α) (l : List α) : (insBy lt x l).Perm (x :: l) := by
  induction l with
  | nil => exact List.Perm.refl _
  | cons y ys ih =>
    unfold insBy
    split
    · exact (List.Perm.cons y ih).trans (List.Perm.swap x y ys)
    · exact List.Perm.refl _
theorem insBy_length {α : Type} (lt : α → α → Bool) (x : α) (l : List α) : (insBy lt x l).length = l.length + 1 := by rw [(insBy_perm lt x l).length_eq]; rfl
theorem foldBy_perm {α : Type} (lt : α → α → Bool) (l acc : List α) : (l.foldl (fun acc x => insBy lt x acc) acc).Perm (acc ++ l) := by
  induction l generalizing acc with
  | nil => simp
  | cons x xs ih =>
    refine (ih (insBy lt x acc)).trans ?_
    refine ((insBy_perm lt x acc).append_right xs).trans ?_
    exact (List.perm_middle (a := x) (l₁ := acc) (l₂ := xs)).symm
theorem sortBy_perm {α : Type} (lt : α → α → Bool) (l : List α) : (sortBy lt l).Perm l := by simpa [sortBy] using foldBy_perm lt l []
theorem sortBy_length {α : Type} (lt : α → α → Bool) (l : List α) : (sortBy lt l).length = l.length := (sortBy_perm lt l).length_eq
theorem sortBy_snoc {α : Type} (lt : α → α → Bool) (l : List α) (x : α) : sortBy lt (l ++ [x]) = insBy lt x (sortBy lt l) := by simp [sortBy, List.foldl_append]
theorem sortBy_take {α : Type} (lt : α → α → Bool) (l : List α) (i : Nat) (h : i < l.length) : sortBy lt (l.take (i + 1)) = insBy lt l[i] (sortBy lt (l.take i)) := by
  rw [← sortBy_snoc, List.take_add_one, List.getElem?_eq_getElem h]; rfl

/-- Not behind the next ones. -/
def SortedBy {α : Type} (lt : α → α → Bool) (l : List α) : Prop := l.Pairwise fun a b => lt b a = false
theorem insBy_sorted {α : Type} {lt : α → α → Bool} {P : α → Prop} (hp : Parts lt P) (x : α) (l : List α) (hx : P x) (hl : ∀ y ∈ l, P y) (hs : SortedBy lt l) : SortedBy lt (insBy lt x l) := by
  unfold SortedBy at *
  induction l with
  | nil => simp [insBy]
  | cons y ys ih =>
    rw [List.pairwise_cons] at hs
    have hy := hl y (List.mem_cons_self ..)
    unfold insBy
    split
    · rename_i h
      refine List.pairwise_cons.2 ⟨fun z hz => ?_, ih (fun z hz => hl z (List.mem_cons_of_mem _ hz)) hs.2⟩
      rcases List.mem_cons.1 ((insBy_perm lt x ys).mem_iff.1 hz) with rfl | hz
      · exact hp.asym _ _ hy hx h
      · exact hs.1 z hz
    · rename_i h
      have h : lt y x = false := by simpa using h
      refine List.pairwise_cons.2 ⟨fun z hz => ?_, List.pairwise_cons.2 hs⟩
      rcases List.mem_cons.1 hz with rfl | hz
      · exact h
      · have hz' := hl z (List.mem_cons_of_mem _ hz)
        rcases hzx : lt z x with _ | _
        · rfl
        · have h2 := hs.1 z hz
          rcases hyz : lt y z with _ | _
          · have := hp.one _ _ hy hz' hyz h2
            subst this; rw [h] at hzx; cases hzx
          · rw [hp.trans _ _ _ hy hz' hx hyz hzx] at h; cases h
theorem foldBy_sorted {α : Type} {lt : α → α → Bool} {P : α → Prop} (hp : Parts lt P) (l acc : List α) (hl : ∀ y ∈ l, P y) (ha : ∀ y ∈ acc, P y) (hs : SortedBy lt acc) : SortedBy lt (l.foldl (fun acc x => insBy lt x acc) acc) := by
  induction l generalizing acc with
  | nil => exact hs
  | cons x xs ih =>
    refine ih _ (fun y hy => hl y (List.mem_cons_of_mem _ hy)) (fun y hy => ?_) (insBy_sorted hp x acc (hl x (List.mem_cons_self ..)) ha hs)
    rcases List.mem_cons.1 ((insBy_perm lt x acc).mem_iff.1 hy) with rfl | hy
    · exact hl _ (List.mem_cons_self ..)
    · exact ha y hy
theorem sortBy_sorted {α : Type} {lt : α → α → Bool} {P : α → Prop} (hp : Parts lt P) (l : List α) (hl : ∀ y ∈ l, P y) : SortedBy lt (sortBy lt l) :=
  foldBy_sorted hp l [] hl (fun y hy => by cases hy) List.Pairwise.nil
/-- There is one list in order of those of a list. -/
theorem sorted_one {α : Type} {lt : α → α → Bool} {P : α → Prop} (hp : Parts lt P) : ∀ (l m : List α), (∀ y ∈ l, P y) → l.Perm m → SortedBy lt l → SortedBy lt m → l = m
  | [], m, _, hperm, _, _ => (List.Perm.nil_eq hperm)
  | a :: l, m, hl, hperm, h1, h2 => by
    match m, hperm with
    | [], hperm => exact absurd hperm.length_eq (by simp)
    | b :: m, hperm =>
      unfold SortedBy at h1 h2
      have h1' := List.pairwise_cons.1 h1
      have h2' := List.pairwise_cons.1 h2
      have ha : P a := hl a (List.mem_cons_self ..)
      have hb : P b := hl b (hperm.mem_iff.2 (List.mem_cons_self ..))
      have hab : a = b := by
        rcases List.mem_cons.1 (hperm.mem_iff.1 (List.mem_cons_self ..) : a ∈ b :: m) with e | e
        · exact e
        · rcases List.mem_cons.1 (hperm.mem_iff.2 (List.mem_cons_self ..) : b ∈ a :: l) with f | f
          · exact f.symm
          · exact hp.one _ _ ha hb (h2'.1 a e) (h1'.1 b f)
      subst hab
      rw [sorted_one hp l m (fun y hy => hl y (List.mem_cons_of_mem _ hy)) (List.Perm.cons_inv hperm) h1'.2 h2'.2]
theorem sortBy_one {α : Type} {lt : α → α → Bool} {P : α → Prop} (hp : Parts lt P) (l m : List α) (hl : ∀ y ∈ l, P y) (hperm : m.Perm l) (hs : SortedBy lt m) : m = sortBy lt l :=
  sorted_one hp m (sortBy lt l) (fun y hy => hl y (hperm.mem_iff.1 hy)) (hperm.trans (sortBy_perm lt l).symm) hs (sortBy_sorted hp l hl)

/-- By a number of theirs, of alike ones by number. -/
def axlt (ax : Nat) (a b : Mk) : Bool := decide (nth a.2 ax < nth b.2 ax) || (decide (nth a.2 ax = nth b.2 ax) && decide (a.1 < b.1))
def idlt (a b : Mk) : Bool := decide (a.1 < b.1)
theorem axlt_iff (ax : Nat) (a b : Mk) : axlt ax a b = true ↔ nth a.2 ax < nth b.2 ax ∨ (nth a.2 ax = nth b.2 ax ∧ a.1 < b.1) := by simp [axlt]
theorem axlt_not (ax : Nat) (a b : Mk) : axlt ax a b = false ↔ nth b.2 ax < nth a.2 ax ∨ (nth a.2 ax = nth b.2 ax ∧ b.1 ≤ a.1) := by
  rcases h : axlt ax a b with _ | _
  · have : ¬ (nth a.2 ax < nth b.2 ax ∨ (nth a.2 ax = nth b.2 ax ∧ a.1 < b.1)) := fun hh => by rw [(axlt_iff ax a b).2 hh] at h; cases h
    constructor
    · intro _; omega
    · intro _; rfl
  · have := (axlt_iff ax a b).1 h
    constructor
    · intro hh; cases hh
    · intro hh; omega
/-- No two of one number. -/
def Sole (ms : List Mk) : Prop := ∀ a ∈ ms, ∀ b ∈ ms, a.1 = b.1 → a = b
theorem parts_axlt (ax : Nat) {ms : List Mk} (h : Sole ms) : Parts (axlt ax) (· ∈ ms) where
  trans a b c _ _ _ h1 h2 := by rw [axlt_iff] at *; omega
  one a b ha hb h1 h2 := by rw [axlt_not] at *; exact h a ha b hb (by omega)
  asym a b _ _ h1 := by rw [axlt_iff] at h1; rw [axlt_not]; omega
theorem parts_idlt {ms : List Mk} (h : Sole ms) : Parts idlt (· ∈ ms) where
  trans a b c _ _ _ h1 h2 := by simp [idlt] at *; omega
  one a b ha hb h1 h2 := by simp [idlt] at *; exact h a ha b hb (by omega)
  asym a b _ _ h1 := by simp [idlt] at *; omega
theorem Sole.sub {ms ns : List Mk} (h : Sole ms) (hs : ∀ a ∈ ns, a ∈ ms) : Sole ns := fun a ha b hb e => h a (hs a ha) b (hs b hb) e
theorem Sole.of_rise {ms : List Mk} (h : ms.Pairwise fun a b => a.1 < b.1) : Sole ms := by
  induction ms with
  | nil => intro a ha; cases ha
  | cons x xs ih =>
    rw [List.pairwise_cons] at h
    intro a ha b hb e
    rcases List.mem_cons.1 ha with e1 | ha1
    · rcases List.mem_cons.1 hb with e2 | hb1
      · rw [e1, e2]
      · have := h.1 b hb1; subst e1; omega
    · rcases List.mem_cons.1 hb with e2 | hb1
      · have := h.1 a ha1; subst e2; omega
      · exact ih h.2 a ha1 b hb1 e

/-- The tree of halves. -/
inductive Tr where
  | leaf : Tr
  | node (m : Mk) (ax : Nat) (l r : Tr) : Tr
/-- A knot: its mark, its axis, less, more. -/
abbrev Kn := Mk × Int × Int × Int
def Tr.size : Tr → Nat
  | .leaf => 0
  | .node _ _ l r => l.size + r.size + 1
def Tr.place : Tr → Nat → Int
  | .leaf, _ => -1
  | .node .., p => (p : Int)
def Tr.flat : Tr → Nat → List Kn
  | .leaf, _ => []
  | .node m ax l r, p => (m, (ax : Int), l.place (p + 1), r.place (p + 1 + l.size)) :: (l.flat (p + 1) ++ r.flat (p + 1 + l.size))
def Tr.marks : Tr → List Mk
  | .leaf => []
  | .node m _ l r => m :: (l.marks ++ r.marks)
def Tr.tall : Tr → Nat
  | .leaf => 0
  | .node _ _ l r => 1 + max l.tall r.tall
theorem Tr.flat_length (t : Tr) (p : Nat) : (t.flat p).length = t.size := by
  induction t generalizing p with
  | leaf => rfl
  | node m ax l r ihl ihr => simp [Tr.flat, Tr.size, ihl, ihr]
theorem Tr.marks_length (t : Tr) : t.marks.length = t.size := by
  induction t with
  | leaf => rfl
  | node m ax l r ihl ihr => simp [Tr.marks, Tr.size, ihl, ihr]
theorem Tr.flat_marks (t : Tr) (p : Nat) : (t.flat p).map (·.1) = t.marks := by
  induction t generalizing p with
  | leaf => rfl
  | node m ax l r ihl ihr => simp [Tr.flat, Tr.marks, ihl, ihr]
/-- The tree of some marks by an axis; f: no less than there are. -/
def treeF : Nat → List Mk → Nat → Tr
  | 0, _, _ => .leaf
  | f + 1, ms, ax =>
    if ms.length = 0 then .leaf else
    .node (mnthT (sortBy (axlt ax) ms) (ms.length / 2)) ax
      (treeF f ((sortBy (axlt ax) ms).take (ms.length / 2)) ((ax + 1) % (mnthT (sortBy (axlt ax) ms) (ms.length / 2)).2.length))
      (treeF f ((sortBy (axlt ax) ms).drop (ms.length / 2 + 1)) ((ax + 1) % (mnthT (sortBy (axlt ax) ms) (ms.length / 2)).2.length))
where mnthT (ms : List Mk) (i : Nat) : Mk := ms.getD i (0, [])
theorem treeF_none (f : Nat) (ax : Nat) : treeF f [] ax = .leaf := by cases f <;> rfl
theorem treeF_node (f : Nat) (ms : List Mk) (ax : Nat) (h : ms.length ≠ 0) : treeF (f + 1) ms ax = .node (treeF.mnthT (sortBy (axlt ax) ms) (ms.length / 2)) ax (treeF f ((sortBy (axlt ax) ms).take (ms.length / 2)) ((ax + 1) % (treeF.mnthT (sortBy (axlt ax) ms) (ms.length / 2)).2.length)) (treeF f ((sortBy (axlt ax) ms).drop (ms.length / 2 + 1)) ((ax + 1) % (treeF.mnthT (sortBy (axlt ax) ms) (ms.length / 2)).2.length)) := by
  rw [treeF, if_neg h]
theorem getD_mid {ms : List Mk} {i : Nat} (h : i < ms.length) : ms = ms.take i ++ ms.getD i (0, []) :: ms.drop (i + 1) := by
  have e : ms.getD i (0, []) = ms[i] := by simp [List.getD, h]
  rw [e, ← List.drop_eq_getElem_cons h, List.take_append_drop]
theorem treeF_marks (f : Nat) (ms : List Mk) (ax : Nat) (h : ms.length ≤ f) : (treeF f ms ax).marks.Perm ms := by
  induction f generalizing ms ax with
  | zero =>
    have : ms = [] := List.length_eq_zero_iff.1 (by omega)
    subst this; exact List.Perm.refl _
  | succ f ih =>
    unfold treeF
    split
    · rename_i h0
      have : ms = [] := List.length_eq_zero_iff.1 h0
      subst this; exact List.Perm.refl _
    · rename_i h0
      have hl := sortBy_length (axlt ax) ms
      have hp := sortBy_perm (axlt ax) ms
      generalize sortBy (axlt ax) ms = s at hl hp ⊢
      simp only [Tr.marks]
      have hm : ms.length / 2 < s.length := by omega
      have e := getD_mid hm
      refine (List.Perm.cons _ ((ih _ _ (by simp; omega)).append (ih _ _ (by simp; omega)))).trans ?_
      refine (List.perm_middle.symm).trans ?_
      unfold treeF.mnthT
      rw [← e]; exact hp
theorem treeF_size (f : Nat) (ms : List Mk) (ax : Nat) (h : ms.length ≤ f) : (treeF f ms ax).size = ms.length := by
  rw [← Tr.marks_length, (treeF_marks f ms ax h).length_eq]
theorem treeF_place (f : Nat) (ms : List Mk) (ax p : Nat) (h : ms.length ≤ f) : (treeF f ms ax).place p = if ms.length = 0 then -1 else (p : Int) := by
  match f with
  | 0 => rw [if_pos (by omega)]; rfl
  | f + 1 => unfold treeF; split <;> rfl

/-- What is halved. -/
def halvedV (ms : List Mk) : List Kn := if marksB ms = true then (treeF 60 ms 0).flat 0 else []
def knotMs (ks : List Kn) : List Mk := sortBy idlt (ks.map (·.1))
def knotsB (ks : List Kn) : Bool := marksB (knotMs ks) && decide (halvedV (knotMs ks) = ks)

theorem marks_rise {ms : List Mk} (h : marksB ms = true) : ms.Pairwise fun a b => a.1 < b.1 := by
  have hstep : ∀ i, i + 1 < ms.length → mid ms i < mid ms (i + 1) := fun i hi => by
    have := ((mOkAt_iff ms (i + 1)).1 (marksB_at h hi)).2.2.2.2
    rcases this with h0 | h0
    · omega
    · exact h0
  have hall : ∀ d i, i + d + 1 < ms.length → mid ms i < mid ms (i + d + 1) := by
    intro d
    induction d with
    | zero => intro i hi; exact hstep i hi
    | succ d ih =>
      intro i hi
      have h1 := ih i (by omega)
      have h2 := hstep (i + d + 1) (by omega)
      rw [show i + (d + 1) + 1 = i + d + 1 + 1 by omega]; omega
  rw [List.pairwise_iff_getElem]
  intro i j hi hj hij
  have := hall (j - i - 1) i (by omega)
  rw [show i + (j - i - 1) + 1 = j by omega] at this
  simpa [mid, List.getD, hi, hj] using this
theorem marks_sole {ms : List Mk} (h : marksB ms = true) : Sole ms := Sole.of_rise (marks_rise h)

end Go.Proofs.Ytpcclaehcmnngaa
namespace Go.Proofs.Ytpcclaehcmnngaa

/-- A box: its low end and its high end. -/
abbrev Bx := List Int × List Int
def sideB (b : Bx) (i : Nat) : Bool := decide (nth b.1 i ≤ nth b.2 i)
def boxB (b : Bx) : Bool := twoB b.1 b.2 && (List.range b.1.length).all (sideB b)
def toldX (b : Bx) (p : List Int) : Bool := boxB b && twoB b.1 p
def outF (b : Bx) (p : List Int) (i : Nat) : Int := maxV 0 (maxV (nth b.1 i - nth p i) (nth p i - nth b.2 i))
def outQ (b : Bx) (p : List Int) (i : Nat) : Int := outF b p i * outF b p i
def endF (b : Bx) (p : List Int) (i : Nat) : Int := maxV (absV (nth p i - nth b.1 i)) (absV (nth p i - nth b.2 i))
def endQ (b : Bx) (p : List Int) (i : Nat) : Int := endF b p i * endF b p i
def toBoxV (b : Bx) (p : List Int) : Int := if toldX b p = true then sumTo (outQ b p) p.length else -1
def cornerV (b : Bx) (p : List Int) : Int := if toldX b p = true then sumTo (endQ b p) p.length else -1
def insideB (b : Bx) (p : List Int) : Bool := toldX b p && decide (toBoxV b p = 0)
def lowTo (ms : List Mk) (k : Nat) : Nat → Int
  | 0 => nth (mat ms 0) k
  | j + 1 => min (lowTo ms k j) (nth (mat ms (j + 1)) k)
def highTo (ms : List Mk) (k : Nat) : Nat → Int
  | 0 => nth (mat ms 0) k
  | j + 1 => maxV (highTo ms k j) (nth (mat ms (j + 1)) k)
def lowL (ms : List Mk) (j : Nat) : List Int := tabL (fun k => lowTo ms k j) (mat ms 0).length
def highL (ms : List Mk) (j : Nat) : List Int := tabL (fun k => highTo ms k j) (mat ms 0).length
def aroundV (ms : List Mk) : Bx := if ms.length = 0 ∨ marksB ms = false then ([], []) else (lowL ms (ms.length - 1), highL ms (ms.length - 1))
def shLow (a b : Bx) (i : Nat) : Int := maxV (nth a.1 i) (nth b.1 i)
def shHigh (a b : Bx) (i : Nat) : Int := min (nth a.2 i) (nth b.2 i)
def shBox (a b : Bx) : Bx := (tabL (shLow a b) a.1.length, tabL (shHigh a b) a.1.length)
def shOkB (a b : Bx) : Bool := boxB a && boxB b && decide (a.1.length = b.1.length) && boxB (shBox a b)
def sharedV (a b : Bx) : Bx := if shOkB a b = true then shBox a b else ([], [])

theorem boxB_two {b : Bx} (h : boxB b = true) : twoB b.1 b.2 = true := by simp [boxB] at h; exact h.1
theorem boxB_at {b : Bx} (h : boxB b = true) {i : Nat} (hi : i < b.1.length) : nth b.1 i ≤ nth b.2 i := by
  simp only [boxB, Bool.and_eq_true, List.all_eq_true] at h
  have := h.2 i (List.mem_range.2 hi)
  simpa [sideB] using this
theorem boxB_not {b : Bx} (h : twoB b.1 b.2 = false) : boxB b = false := by simp [boxB, h]
theorem boxB_out {b : Bx} {i : Nat} (hi : i < b.1.length) (h : nth b.1 i > nth b.2 i) : boxB b = false := by
  rcases hb : boxB b with _ | _
  · rfl
  · have := boxB_at hb hi; omega
theorem boxB_mk {b : Bx} (h : twoB b.1 b.2 = true) (hs : ∀ i, i < b.1.length → nth b.1 i ≤ nth b.2 i) : boxB b = true := by
  simp only [boxB, Bool.and_eq_true, List.all_eq_true]
  exact ⟨h, fun i hi => by simp [sideB]; exact hs i (List.mem_range.1 hi)⟩
theorem toldX_of {b : Bx} {p : List Int} (h : toldX b p = true) : boxB b = true ∧ twoB b.1 p = true := by simpa [toldX] using h
theorem outF_bd {b : Bx} {p : List Int} (h : toldX b p = true) (i : Nat) : 0 ≤ outF b p i ∧ outF b p i ≤ 2000 := by
  obtain ⟨h1, h2⟩ := toldX_of h
  obtain ⟨a1, a2, _⟩ := twoB_of (boxB_two h1)
  obtain ⟨_, a3, _⟩ := twoB_of h2
  have x1 := okB_at a1 i
  have x2 := okB_at a2 i
  have x3 := okB_at a3 i
  unfold outF maxV
  omega
theorem endF_bd {b : Bx} {p : List Int} (h : toldX b p = true) (i : Nat) : 0 ≤ endF b p i ∧ endF b p i ≤ 2000 := by
  obtain ⟨h1, h2⟩ := toldX_of h
  obtain ⟨a1, a2, _⟩ := twoB_of (boxB_two h1)
  obtain ⟨_, a3, _⟩ := twoB_of h2
  have x1 := okB_at a1 i
  have x2 := okB_at a2 i
  have x3 := okB_at a3 i
  unfold endF maxV absV
  omega
theorem sq_bd {x : Int} (h : 0 ≤ x ∧ x ≤ 2000) : 0 ≤ x * x ∧ x * x ≤ 4000000 := by
  refine ⟨Int.mul_nonneg h.1 h.1, ?_⟩
  have := Int.mul_le_mul h.2 h.2 h.1 (by omega : (0 : Int) ≤ 2000)
  omega
theorem outQ_bd {b : Bx} {p : List Int} (h : toldX b p = true) (i : Nat) : 0 ≤ outQ b p i ∧ outQ b p i ≤ 4000000 := sq_bd (outF_bd h i)
theorem endQ_bd {b : Bx} {p : List Int} (h : toldX b p = true) (i : Nat) : 0 ≤ endQ b p i ∧ endQ b p i ≤ 4000000 := sq_bd (endF_bd h i)

end Go.Proofs.Ytpcclaehcmnngaa
