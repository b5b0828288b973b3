/-
  Plain mathematics for the laws of chapter 1 (no program is named here): what a point is, the sums over two points, and what holds of them.
  Plain mathematics of Steps, Reach, Far and Dot over two and three points (no program is named here).
  Plain mathematics for the laws of chapter 2 (no program is named here): marks, the distance by kind, the diameter and the middle.
  Plain mathematics for the laws of chapter 3 (no program is named here): hits, their order, the sorted list, the first ones, each number once.
  Plain mathematics for the laws of chapter 5 (no program is named here): marks by a number of theirs, the tree of halves, its knots in a list, its height.
  Plain mathematics for the laws of the nearest (no program is named here).
  Plain mathematics for the laws of chapter 5 (no program is named here): a tree whose knots lie in a list, its height, what is looked at, what is found.
  Plain mathematics for the laws of chapter 6 (no program is named here): marks by their steps from one, the tree of balls, its radius.
  Plain mathematics for the laws of chapter 4 (no program is named here): boxes.
  Plain mathematics for the laws of chapter 6 (no program is named here): what is looked at of balls, and what is kept.
  Plain mathematics for the laws of chapter 6 (no program is named here): what is kept of balls is the least of all.
-/
namespace Go.Proofs.Ythddhblmnfjciaa

/-- The i-th number, 0 behind the end. -/
def nth (xs : List Int) (i : Nat) : Int := xs.getD i 0
def inB (x : Int) : Bool := decide (-1000 ≤ x) && decide (x ≤ 1000)
def okB (xs : List Int) : Bool := decide (1 ≤ xs.length) && decide (xs.length ≤ 4) && xs.all inB
def twoB (a b : List Int) : Bool := okB a && okB b && decide (a.length = b.length)
def sumTo (f : Nat → Int) : Nat → Int
  | 0 => 0
  | k + 1 => sumTo f k + f k
def maxTo (f : Nat → Int) : Nat → Int
  | 0 => 0
  | k + 1 => max (maxTo f k) (f k)
def sqF (a b : List Int) (i : Nat) : Int := (nth a i - nth b i) * (nth a i - nth b i)
def mulF (a b : List Int) (i : Nat) : Int := nth a i * nth b i
def gapF (a b : List Int) (i : Nat) : Int := max (nth a i - nth b i) (nth b i - nth a i)
def addF (a b : List Int) (i : Nat) : Int := nth a i + nth b i
def farV (a b : List Int) : Int := if twoB a b = true then sumTo (sqF a b) a.length else -1
def dotV (a b : List Int) : Int := if twoB a b = true then sumTo (mulF a b) a.length else 0
def stepsV (a b : List Int) : Int := if twoB a b = true then sumTo (gapF a b) a.length else -1
def reachV (a b : List Int) : Int := if twoB a b = true then maxTo (gapF a b) a.length else -1
def tabL (f : Nat → Int) (n : Nat) : List Int := (List.range n).map f
def movedL (a b : List Int) : List Int := if twoB a b = true then (if okB (tabL (addF a b) a.length) = true then tabL (addF a b) a.length else []) else []

theorem inB_iff (x : Int) : inB x = true ↔ -1000 ≤ x ∧ x ≤ 1000 := by simp [inB]

theorem okB_len {xs : List Int} (h : okB xs = true) : 1 ≤ xs.length ∧ xs.length ≤ 4 := by
  simp [okB] at h; omega

theorem okB_at {xs : List Int} (h : okB xs = true) (i : Nat) : -1000 ≤ nth xs i ∧ nth xs i ≤ 1000 := by
  simp only [okB, Bool.and_eq_true, List.all_eq_true] at h
  by_cases hi : i < xs.length
  · have := h.2 xs[i] (List.getElem_mem hi)
    rw [inB_iff] at this
    simpa [nth, List.getD, hi] using this
  · simp [nth, List.getD, hi]

theorem okB_mk {xs : List Int} (h1 : 1 ≤ xs.length) (h4 : xs.length ≤ 4) (h : ∀ i, i < xs.length → -1000 ≤ nth xs i ∧ nth xs i ≤ 1000) : okB xs = true := by
  simp only [okB, Bool.and_eq_true, List.all_eq_true, decide_eq_true_eq]
  refine ⟨⟨h1, h4⟩, fun x hx => ?_⟩
  obtain ⟨i, hi, rfl⟩ := List.getElem_of_mem hx
  rw [inB_iff]
  have := h i hi
  simpa [nth, List.getD, hi] using this

theorem okB_short {xs : List Int} (h : xs.length < 1) : okB xs = false := by simp [okB]; omega
theorem okB_long {xs : List Int} (h : 4 < xs.length) : okB xs = false := by simp [okB]; omega
theorem okB_out {xs : List Int} (i : Nat) (h : nth xs i < -1000 ∨ 1000 < nth xs i) : okB xs = false := by
  rcases hb : okB xs with _ | _
  · rfl
  · have := okB_at hb i; omega

theorem twoB_of {a b : List Int} (h : twoB a b = true) : okB a = true ∧ okB b = true ∧ a.length = b.length := by
  simp [twoB] at h; exact ⟨h.1.1, h.1.2, h.2⟩

theorem sumTo_le (f : Nat → Int) (lo hi : Int) (h : ∀ i, lo ≤ f i ∧ f i ≤ hi) (k : Nat) : lo * k ≤ sumTo f k ∧ sumTo f k ≤ hi * k := by
  induction k with
  | zero => simp [sumTo]
  | succ k ih =>
    have := h k
    simp only [sumTo]
    rw [show ((k + 1 : Nat) : Int) = (k : Int) + 1 by omega, Int.mul_add, Int.mul_add]
    omega

theorem maxTo_le (f : Nat → Int) (hi : Int) (h0 : 0 ≤ hi) (h : ∀ i, f i ≤ hi) (k : Nat) : 0 ≤ maxTo f k ∧ maxTo f k ≤ hi := by
  induction k with
  | zero => simp [maxTo]; exact h0
  | succ k ih => have := h k; simp only [maxTo]; omega

theorem sq_nonneg (x : Int) : 0 ≤ x * x := by
  rcases Int.le_total 0 x with h | h
  · exact Int.mul_nonneg h h
  · have := Int.mul_nonneg (a := -x) (b := -x) (by omega) (by omega)
    rwa [Int.neg_mul_neg] at this

theorem mul_bd {x y m : Int} (_hm : 0 ≤ m) (hx : -m ≤ x ∧ x ≤ m) (hy : -m ≤ y ∧ y ≤ m) : -(m * m) ≤ x * y ∧ x * y ≤ m * m := by
  have a1 := Int.mul_nonneg (a := m - x) (b := m + y) (by omega) (by omega)
  have a2 := Int.mul_nonneg (a := m + x) (b := m - y) (by omega) (by omega)
  have a3 := Int.mul_nonneg (a := m - x) (b := m - y) (by omega) (by omega)
  have a4 := Int.mul_nonneg (a := m + x) (b := m + y) (by omega) (by omega)
  simp only [Int.mul_add, Int.add_mul, Int.mul_sub, Int.sub_mul] at a1 a2 a3 a4
  rw [Int.mul_comm m y] at *
  generalize x * y = p at *
  generalize x * m = q at *
  generalize y * m = r at *
  generalize m * m = s at *
  omega

theorem sqF_bd {a b : List Int} (ha : okB a = true) (hb : okB b = true) (i : Nat) : 0 ≤ sqF a b i ∧ sqF a b i ≤ 4000000 := by
  have h1 := okB_at ha i; have h2 := okB_at hb i
  refine ⟨sq_nonneg _, ?_⟩
  have := (mul_bd (x := nth a i - nth b i) (y := nth a i - nth b i) (m := 2000) (by omega) (by omega) (by omega)).2
  simpa [sqF] using this

theorem mulF_bd {a b : List Int} (ha : okB a = true) (hb : okB b = true) (i : Nat) : -1000000 ≤ mulF a b i ∧ mulF a b i ≤ 1000000 := by
  have h1 := okB_at ha i; have h2 := okB_at hb i
  have := mul_bd (x := nth a i) (y := nth b i) (m := 1000) (by omega) (by omega) (by omega)
  simpa [mulF] using this

theorem gapF_bd {a b : List Int} (ha : okB a = true) (hb : okB b = true) (i : Nat) : 0 ≤ gapF a b i ∧ gapF a b i ≤ 2000 := by
  have h1 := okB_at ha i; have h2 := okB_at hb i
  unfold gapF; omega

theorem addF_bd {a b : List Int} (ha : okB a = true) (hb : okB b = true) (i : Nat) : -2000 ≤ addF a b i ∧ addF a b i ≤ 2000 := by
  have h1 := okB_at ha i; have h2 := okB_at hb i
  unfold addF; omega

theorem tabL_length (f : Nat → Int) (n : Nat) : (tabL f n).length = n := by simp [tabL]
theorem tabL_getD (f : Nat → Int) (n i : Nat) (h : i < n) : nth (tabL f n) i = f i := by simp [nth, tabL, List.getD, h]
theorem tabL_succ (f : Nat → Int) (n : Nat) : tabL f (n + 1) = tabL f n ++ [f n] := by simp [tabL, List.range_succ]
theorem sumTo_congr (f g : Nat → Int) (n : Nat) (h : ∀ i, i < n → f i = g i) : sumTo f n = sumTo g n := by
  induction n with
  | zero => rfl
  | succ n ih => simp only [sumTo]; rw [ih (fun i hi => h i (by omega)), h n (by omega)]
theorem maxTo_congr (f g : Nat → Int) (n : Nat) (h : ∀ i, i < n → f i = g i) : maxTo f n = maxTo g n := by
  induction n with
  | zero => rfl
  | succ n ih => simp only [maxTo]; rw [ih (fun i hi => h i (by omega)), h n (by omega)]


def absV (x : Int) : Int := max x (-x)
def maxV (x y : Int) : Int := max x y
theorem gapF_abs (a b : List Int) (i : Nat) : gapF a b i = absV (nth a i - nth b i) := by unfold gapF absV; omega
theorem twoB_true {a b : List Int} (ha : okB a = true) (hb : okB b = true) (hl : a.length = b.length) : twoB a b = true := by simp [twoB, ha, hb, hl]
theorem twoB_left {a b : List Int} (ha : okB a = false) : twoB a b = false := by simp [twoB, ha]
theorem twoB_right {a b : List Int} (hb : okB b = false) : twoB a b = false := by simp [twoB, hb]
theorem twoB_len {a b : List Int} (hl : ¬ a.length = b.length) : twoB a b = false := by simp [twoB, hl]

end Go.Proofs.Ythddhblmnfjciaa
namespace Go.Proofs.Ythddhblmnfjciaa
set_option linter.unusedSimpArgs false

theorem list_eq_of_nth {xs ys : List Int} (hl : xs.length = ys.length) (h : ∀ j, j < xs.length → nth xs j = nth ys j) : xs = ys := by
  apply List.ext_getElem hl
  intro i h1 h2
  have := h i h1
  simpa [nth, List.getD, h1, h2] using this
theorem twoB_comm (a b : List Int) : twoB a b = twoB b a := by
  rcases h1 : okB a with _ | _ <;> rcases h2 : okB b with _ | _ <;> simp [twoB, h1, h2, eq_comm]
theorem gapF_comm (a b : List Int) (i : Nat) : gapF a b i = gapF b a i := by unfold gapF; omega
theorem mulF_comm (a b : List Int) (i : Nat) : mulF a b i = mulF b a i := Int.mul_comm _ _
theorem sqF_gap (a b : List Int) (i : Nat) : sqF a b i = gapF a b i * gapF a b i := by
  unfold sqF gapF
  rcases Int.le_total (nth a i - nth b i) (nth b i - nth a i) with h | h
  · rw [Int.max_eq_right h, show nth b i - nth a i = -(nth a i - nth b i) by omega, Int.neg_mul_neg]
  · rw [Int.max_eq_left h]
theorem stepsV_comm (a b : List Int) : stepsV b a = stepsV a b := by
  unfold stepsV
  rw [twoB_comm b a]
  by_cases h : twoB a b = true
  · rw [if_pos h, if_pos h, (twoB_of h).2.2]; exact sumTo_congr _ _ _ (fun i _ => gapF_comm b a i)
  · rw [if_neg h, if_neg h]
theorem reachV_comm (a b : List Int) : reachV b a = reachV a b := by
  unfold reachV
  rw [twoB_comm b a]
  by_cases h : twoB a b = true
  · rw [if_pos h, if_pos h, (twoB_of h).2.2]; exact maxTo_congr _ _ _ (fun i _ => gapF_comm b a i)
  · rw [if_neg h, if_neg h]
theorem dotV_comm (a b : List Int) : dotV b a = dotV a b := by
  unfold dotV
  rw [twoB_comm b a]
  by_cases h : twoB a b = true
  · rw [if_pos h, if_pos h, (twoB_of h).2.2]; exact sumTo_congr _ _ _ (fun i _ => mulF_comm b a i)
  · rw [if_neg h, if_neg h]

theorem sum_third (f g h : Nat → Int) (H : ∀ i, f i ≤ g i + h i) (n : Nat) : sumTo f n ≤ sumTo g n + sumTo h n := by
  induction n with
  | zero => simp [sumTo]
  | succ n ih => have := H n; simp only [sumTo]; omega
theorem max_third (f g h : Nat → Int) (H : ∀ i, f i ≤ g i + h i) (n : Nat) : maxTo f n ≤ maxTo g n + maxTo h n := by
  induction n with
  | zero => simp [maxTo]
  | succ n ih => have := H n; simp only [maxTo]; omega
theorem gap_third (a b c : List Int) (i : Nat) : gapF a b i ≤ gapF a c i + gapF c b i := by unfold gapF; omega

theorem max_le_sum (g : Nat → Int) (h : ∀ i, 0 ≤ g i) (n : Nat) : maxTo g n ≤ sumTo g n := by
  have h0 : ∀ n, 0 ≤ sumTo g n := fun n => by
    induction n with
    | zero => simp [sumTo]
    | succ n ih => have := h n; simp only [sumTo]; omega
  induction n with
  | zero => simp [maxTo, sumTo]
  | succ n ih => have := h n; have := h0 n; simp only [maxTo, sumTo]; omega
theorem sum_le_max (g : Nat → Int) (n : Nat) : sumTo g n ≤ n * maxTo g n := by
  induction n with
  | zero => simp [sumTo]
  | succ n ih =>
    simp only [sumTo, maxTo]
    have h1 : (n : Int) * maxTo g n ≤ n * max (maxTo g n) (g n) := Int.mul_le_mul_of_nonneg_left (by omega) (by omega)
    rw [show ((n + 1 : Nat) : Int) = (n : Int) + 1 by omega, Int.add_mul]
    omega
theorem sumsq_nonneg (g : Nat → Int) (n : Nat) : 0 ≤ sumTo (fun i => g i * g i) n := by
  induction n with
  | zero => simp [sumTo]
  | succ n ih => have := sq_nonneg (g n); simp only [sumTo]; omega
theorem max_sq (g : Nat → Int) (n : Nat) : maxTo g n * maxTo g n ≤ sumTo (fun i => g i * g i) n := by
  induction n with
  | zero => simp [maxTo, sumTo]
  | succ n ih =>
    simp only [maxTo, sumTo]
    have h1 := sq_nonneg (g n)
    have h2 := sumsq_nonneg g n
    rcases Int.le_total (maxTo g n) (g n) with h | h
    · rw [Int.max_eq_right h]; omega
    · rw [Int.max_eq_left h]; omega
theorem sumsq_le (g : Nat → Int) (h : ∀ i, 0 ≤ g i) (n : Nat) : 0 ≤ sumTo g n ∧ sumTo (fun i => g i * g i) n ≤ sumTo g n * sumTo g n := by
  induction n with
  | zero => simp [sumTo]
  | succ n ih =>
    have h1 := h n
    have h2 := Int.mul_nonneg ih.1 h1
    simp only [sumTo]
    refine ⟨by omega, ?_⟩
    rw [Int.mul_add, Int.add_mul, Int.add_mul, Int.mul_comm (g n) (sumTo g n)]
    omega
theorem sum_sq_le (g : Nat → Int) (n : Nat) : sumTo g n * sumTo g n ≤ n * sumTo (fun i => g i * g i) n := by
  induction n with
  | zero => simp [sumTo]
  | succ n ih =>
    simp only [sumTo]
    generalize hs : sumTo g n = s at *
    generalize hq : sumTo (fun i => g i * g i) n = q at *
    generalize hx : g n = x at *
    rcases Nat.eq_zero_or_pos n with h0 | h0
    · subst h0
      have e1 : s = 0 := by rw [← hs]; rfl
      have e2 : q = 0 := by rw [← hq]; rfl
      rw [e1, e2]; simp
    · have hk : (0 : Int) < (n : Int) := by omega
      rw [show ((n + 1 : Nat) : Int) = (n : Int) + 1 by omega]
      generalize (n : Int) = k at *
      have h1 : 0 ≤ k * (q + k * (x * x) - 2 * (s * x)) := by
        have := sq_nonneg (s - k * x)
        have e : (s - k * x) * (s - k * x) = s * s + k * (k * (x * x) - 2 * (s * x)) := by (try simp only [Int.two_mul]); simp only [Int.mul_add, Int.add_mul, Int.mul_sub, Int.sub_mul, Int.one_mul, Int.mul_one, Int.mul_comm, Int.mul_left_comm, Int.mul_assoc]; omega
        have e2 : k * (q + k * (x * x) - 2 * (s * x)) = k * q + k * (k * (x * x) - 2 * (s * x)) := by (try simp only [Int.two_mul]); simp only [Int.mul_add, Int.add_mul, Int.mul_sub, Int.sub_mul, Int.one_mul, Int.mul_one, Int.mul_comm, Int.mul_left_comm, Int.mul_assoc]; omega
        omega
      have h2 : 0 ≤ q + k * (x * x) - 2 * (s * x) := by
        rcases Int.lt_or_le (q + k * (x * x) - 2 * (s * x)) 0 with h | h
        · have := Int.mul_lt_mul_of_pos_left h hk
          omega
        · exact h
      have e3 : (s + x) * (s + x) = s * s + 2 * (s * x) + x * x := by (try simp only [Int.two_mul]); simp only [Int.mul_add, Int.add_mul, Int.mul_sub, Int.sub_mul, Int.one_mul, Int.mul_one, Int.mul_comm, Int.mul_left_comm, Int.mul_assoc]; omega
      have e4 : (k + 1) * (q + x * x) = k * q + q + k * (x * x) + x * x := by (try simp only [Int.two_mul]); simp only [Int.mul_add, Int.add_mul, Int.mul_sub, Int.sub_mul, Int.one_mul, Int.mul_one, Int.mul_comm, Int.mul_left_comm, Int.mul_assoc]; omega
      omega
theorem sum_zero (g : Nat → Int) (h : ∀ i, 0 ≤ g i) (n : Nat) (hz : sumTo g n = 0) : ∀ i, i < n → g i = 0 := by
  induction n with
  | zero => intro i hi; omega
  | succ n ih =>
    have h1 := h n
    have h2 := (sumsq_le g h n).1
    simp only [sumTo] at hz
    intro i hi
    rcases Nat.lt_or_ge i n with h3 | h3
    · exact ih (by omega) i h3
    · rw [show i = n by omega]; omega

/-- What the law of the third side asks, of two points a, b and a third one c. -/
theorem third {a b c : List Int} (hab : twoB a b = true) (hac : twoB a c = true) :
    0 ≤ stepsV a b ∧ stepsV a b ≤ 8000 ∧ 0 ≤ reachV a b ∧ reachV a b ≤ 2000 ∧ 0 ≤ farV a b ∧ farV a b ≤ 16000000 ∧
    0 ≤ stepsV a c ∧ stepsV a c ≤ 8000 ∧ 0 ≤ stepsV c b ∧ stepsV c b ≤ 8000 ∧ 0 ≤ reachV a c ∧ reachV a c ≤ 2000 ∧ 0 ≤ reachV c b ∧ reachV c b ≤ 2000 ∧
    (stepsV a b = 0 ↔ a = b) ∧ stepsV a b ≤ stepsV a c + stepsV c b ∧ reachV a b ≤ reachV a c + reachV c b ∧ reachV a b ≤ stepsV a b ∧
    stepsV a b ≤ a.length * reachV a b ∧ reachV a b * reachV a b ≤ farV a b ∧ farV a b ≤ stepsV a b * stepsV a b ∧ stepsV a b * stepsV a b ≤ a.length * farV a b := by
  obtain ⟨ha, hb, hl⟩ := twoB_of hab
  obtain ⟨_, hc, hl'⟩ := twoB_of hac
  have hcb : twoB c b = true := twoB_true hc hb (by omega)
  have h4 := okB_len ha
  have e1 : stepsV a b = sumTo (gapF a b) a.length := by unfold stepsV; rw [if_pos hab]
  have e2 : reachV a b = maxTo (gapF a b) a.length := by unfold reachV; rw [if_pos hab]
  have e3 : farV a b = sumTo (fun i => gapF a b i * gapF a b i) a.length := by unfold farV; rw [if_pos hab]; exact sumTo_congr _ _ _ (fun i _ => sqF_gap a b i)
  have e4 : stepsV a c = sumTo (gapF a c) a.length := by unfold stepsV; rw [if_pos hac]
  have e5 : stepsV c b = sumTo (gapF c b) a.length := by unfold stepsV; rw [if_pos hcb, hl']
  have e6 : reachV a c = maxTo (gapF a c) a.length := by unfold reachV; rw [if_pos hac]
  have e7 : reachV c b = maxTo (gapF c b) a.length := by unfold reachV; rw [if_pos hcb, hl']
  have e8 : farV a b = sumTo (sqF a b) a.length := by unfold farV; rw [if_pos hab]
  have hab0 := fun i => (gapF_bd ha hb i).1
  have b1 := sumTo_le (gapF a b) 0 2000 (gapF_bd ha hb) a.length
  have b2 := maxTo_le (gapF a b) 2000 (by omega) (fun i => (gapF_bd ha hb i).2) a.length
  have b3 := sumTo_le (sqF a b) 0 4000000 (sqF_bd ha hb) a.length
  have b4 := sumTo_le (gapF a c) 0 2000 (gapF_bd ha hc) a.length
  have b5 := sumTo_le (gapF c b) 0 2000 (gapF_bd hc hb) a.length
  have b6 := maxTo_le (gapF a c) 2000 (by omega) (fun i => (gapF_bd ha hc i).2) a.length
  have b7 := maxTo_le (gapF c b) 2000 (by omega) (fun i => (gapF_bd hc hb i).2) a.length
  refine ⟨by omega, by omega, by omega, by omega, by omega, by omega, by omega, by omega, by omega, by omega, by omega, by omega, by omega, by omega, ?_, ?_, ?_, ?_, ?_, ?_, ?_, ?_⟩
  · rw [e1]
    constructor
    · intro hz
      refine list_eq_of_nth hl (fun j hj => ?_)
      have := sum_zero (gapF a b) hab0 a.length hz j hj
      unfold gapF at this; omega
    · rintro rfl
      have : sumTo (gapF a a) a.length = sumTo (fun _ => 0) a.length := sumTo_congr _ _ _ (fun i _ => by unfold gapF; omega)
      rw [this]
      have := sumTo_le (fun _ => (0 : Int)) 0 0 (fun _ => ⟨Int.le_refl _, Int.le_refl _⟩) a.length
      omega
  · rw [e1, e4, e5]; exact sum_third _ _ _ (gap_third a b c) _
  · rw [e2, e6, e7]; exact max_third _ _ _ (gap_third a b c) _
  · rw [e1, e2]; exact max_le_sum _ hab0 _
  · rw [e1, e2]; exact sum_le_max _ _
  · rw [e2, e3]; exact max_sq _ _
  · rw [e1, e3]; exact (sumsq_le _ hab0 _).2
  · rw [e1, e3]; exact sum_sq_le _ _

end Go.Proofs.Ythddhblmnfjciaa
namespace Go.Proofs.Ythddhblmnfjciaa

abbrev Mk := Int × List Int
def mid (ms : List Mk) (i : Nat) : Int := (ms.getD i (0, [])).1
def mat (ms : List Mk) (i : Nat) : List Int := (ms.getD i (0, [])).2
def mOkAt (ms : List Mk) (i : Nat) : Bool :=
  decide (1 ≤ mid ms i) && decide (mid ms i ≤ 1000000) && okB (mat ms i) && decide ((mat ms i).length = (mat ms 0).length) && (decide (i = 0) || decide (mid ms (i - 1) < mid ms i))
def marksB (ms : List Mk) : Bool := decide (ms.length ≤ 60) && (List.range ms.length).all (mOkAt ms)
def kindB (k : Int) : Bool := decide (1 ≤ k) && decide (k ≤ 3)
def betV (a b : List Int) (k : Int) : Int := if k = 1 then farV a b else if k = 2 then stepsV a b else if k = 3 then reachV a b else -1
def betF (ms : List Mk) (p : List Int) (k : Int) (i : Nat) : Int := betV p (mat ms i) k
def mostV (ms : List Mk) (p : List Int) (k : Int) : Int := maxTo (betF ms p k) ms.length
def mostF (ms : List Mk) (k : Int) (i : Nat) : Int := mostV ms (mat ms i) k
def noneB (ms : List Mk) (k : Int) : Bool := decide (ms.length = 0) || !marksB ms || !kindB k
def diaV (ms : List Mk) (k : Int) : Int := if noneB ms k = true then -1 else maxTo (mostF ms k) ms.length
def bestI (ms : List Mk) (k : Int) : Nat → Nat
  | 0 => 0
  | n + 1 => if mostF ms k n < mostF ms k (bestI ms k n) then n else bestI ms k n
def midV (ms : List Mk) (k : Int) : Int := if noneB ms k = true then 0 else mid ms (bestI ms k ms.length)

theorem mOkAt_iff (ms : List Mk) (i : Nat) : mOkAt ms i = true ↔ 1 ≤ mid ms i ∧ mid ms i ≤ 1000000 ∧ okB (mat ms i) = true ∧ (mat ms i).length = (mat ms 0).length ∧ (i = 0 ∨ mid ms (i - 1) < mid ms i) := by
  simp [mOkAt, and_assoc]
theorem marksB_len {ms : List Mk} (h : marksB ms = true) : ms.length ≤ 60 := by simp [marksB] at h; exact h.1
theorem marksB_at {ms : List Mk} (h : marksB ms = true) {i : Nat} (hi : i < ms.length) : mOkAt ms i = true := by
  simp only [marksB, Bool.and_eq_true, List.all_eq_true] at h
  exact h.2 i (List.mem_range.2 hi)
theorem marksB_long {ms : List Mk} (h : 60 < ms.length) : marksB ms = false := by simp [marksB]; omega
theorem marksB_out {ms : List Mk} {i : Nat} (hi : i < ms.length) (h : mOkAt ms i = false) : marksB ms = false := by
  rcases hb : marksB ms with _ | _
  · rfl
  · rw [marksB_at hb hi] at h; cases h
theorem marksB_mk {ms : List Mk} (hl : ms.length ≤ 60) (h : ∀ i, i < ms.length → mOkAt ms i = true) : marksB ms = true := by
  simp only [marksB, Bool.and_eq_true, List.all_eq_true, decide_eq_true_eq]
  exact ⟨hl, fun i hi => h i (List.mem_range.1 hi)⟩
theorem mOkAt_false (ms : List Mk) (i : Nat) (h : ¬ (1 ≤ mid ms i ∧ mid ms i ≤ 1000000 ∧ okB (mat ms i) = true ∧ (mat ms i).length = (mat ms 0).length ∧ (i = 0 ∨ mid ms (i - 1) < mid ms i))) : mOkAt ms i = false := by
  rcases hb : mOkAt ms i with _ | _
  · rfl
  · exact absurd ((mOkAt_iff ms i).1 hb) h
theorem marks_two {ms : List Mk} (h : marksB ms = true) {i j : Nat} (hi : i < ms.length) (hj : j < ms.length) : twoB (mat ms i) (mat ms j) = true := by
  have a := (mOkAt_iff ms i).1 (marksB_at h hi)
  have b := (mOkAt_iff ms j).1 (marksB_at h hj)
  exact twoB_true a.2.2.1 b.2.2.1 (by omega)

theorem betV_le (a b : List Int) (k : Int) : -1 ≤ betV a b k ∧ betV a b k ≤ 16000000 := by
  rcases ht : twoB a b with _ | _
  · have : betV a b k = -1 := by simp [betV, farV, stepsV, reachV, ht]
    omega
  · obtain ⟨ha, hb, hl⟩ := twoB_of ht
    have h4 := okB_len ha
    have h1 := sumTo_le (sqF a b) 0 4000000 (sqF_bd ha hb) a.length
    have h2 := sumTo_le (gapF a b) 0 2000 (gapF_bd ha hb) a.length
    have h3 := maxTo_le (gapF a b) 2000 (by omega) (fun i => (gapF_bd ha hb i).2) a.length
    simp only [betV, farV, stepsV, reachV, ht, if_true]
    split
    · omega
    · split
      · omega
      · split <;> omega
theorem most_le (ms : List Mk) (p : List Int) (k : Int) (n : Nat) : 0 ≤ maxTo (betF ms p k) n ∧ maxTo (betF ms p k) n ≤ 16000000 :=
  maxTo_le _ _ (by omega) (fun i => (betV_le _ _ _).2) n
theorem mostF_le (ms : List Mk) (k : Int) (i : Nat) : 0 ≤ mostF ms k i ∧ mostF ms k i ≤ 16000000 := most_le _ _ _ _
theorem dia_le (ms : List Mk) (k : Int) (n : Nat) : 0 ≤ maxTo (mostF ms k) n ∧ maxTo (mostF ms k) n ≤ 16000000 :=
  maxTo_le _ _ (by omega) (fun i => (mostF_le _ _ _).2) n

theorem maxTo_ge (f : Nat → Int) (n j : Nat) (h : j < n) : f j ≤ maxTo f n := by
  induction n with
  | zero => omega
  | succ n ih =>
    simp only [maxTo]
    rcases Nat.lt_or_ge j n with h1 | h1
    · have := ih h1; omega
    · rw [show j = n by omega]; omega
theorem maxTo_lub (f : Nat → Int) (n : Nat) (c : Int) (h0 : 0 ≤ c) (h : ∀ j, j < n → f j ≤ c) : maxTo f n ≤ c := by
  induction n with
  | zero => exact h0
  | succ n ih => have := ih (fun j hj => h j (by omega)); have := h n (by omega); simp only [maxTo]; omega

theorem bestI_one (ms : List Mk) (k : Int) : bestI ms k 1 = 0 := by simp [bestI]
theorem bestI_lt (ms : List Mk) (k : Int) (n : Nat) (h : 0 < n) : bestI ms k n < n := by
  induction n with
  | zero => omega
  | succ n ih =>
    simp only [bestI]
    split
    · omega
    · rcases Nat.eq_zero_or_pos n with h0 | h0
      · subst h0; simp [bestI]
      · have := ih h0; omega
theorem bestI_least (ms : List Mk) (k : Int) (n j : Nat) (h : j < n) : mostF ms k (bestI ms k n) ≤ mostF ms k j := by
  induction n with
  | zero => omega
  | succ n ih =>
    simp only [bestI]
    rcases Nat.lt_or_ge j n with h1 | h1
    · have := ih h1
      split <;> omega
    · rw [show j = n by omega]
      split <;> omega

theorem noneB_of {ms : List Mk} {k : Int} (h : noneB ms k = false) : 0 < ms.length ∧ marksB ms = true ∧ kindB k = true := by
  simp [noneB] at h
  exact ⟨List.length_pos_iff.2 h.1.1, h.1.2, h.2⟩
theorem noneB_nil {ms : List Mk} {k : Int} (h : ms.length = 0) : noneB ms k = true := by simp [noneB, h]
theorem noneB_bad {ms : List Mk} {k : Int} (h : marksB ms = false) : noneB ms k = true := by simp [noneB, h]
theorem noneB_kind {ms : List Mk} {k : Int} (h : kindB k = false) : noneB ms k = true := by simp [noneB, h]
theorem noneB_false {ms : List Mk} {k : Int} (h0 : ms.length ≠ 0) (hm : marksB ms = true) (hk : kindB k = true) : noneB ms k = false := by simp [noneB, hm, hk]; simpa using h0
theorem kindB_iff (k : Int) : kindB k = true ↔ 1 ≤ k ∧ k ≤ 3 := by simp [kindB]
theorem kindB_false {k : Int} (h : ¬ (1 ≤ k ∧ k ≤ 3)) : kindB k = false := by
  rcases hb : kindB k with _ | _
  · rfl
  · exact absurd ((kindB_iff k).1 hb) h

end Go.Proofs.Ythddhblmnfjciaa
namespace Go.Proofs.Ythddhblmnfjciaa

/-- A hit: its number, and how far. -/
abbrev Ht := Int × Int
def aheadB (a b : Ht) : Bool := decide (a.2 < b.2) || (decide (a.2 = b.2) && decide (a.1 < b.1))
/-- In order, or alike. -/
def leH (a b : Ht) : Prop := a.2 < b.2 ∨ (a.2 = b.2 ∧ a.1 ≤ b.1)
def hnth (hs : List Ht) (i : Nat) : Ht := hs.getD i (0, 0)
def putL : List Ht → Ht → List Ht
  | [], h => [h]
  | x :: xs, h => if aheadB h x = true then h :: x :: xs else x :: putL xs h
def sortL (l : List Ht) : List Ht := l.foldl putL []
def SortedH (l : List Ht) : Prop := l.Pairwise leH

theorem aheadB_iff (a b : Ht) : aheadB a b = true ↔ a.2 < b.2 ∨ (a.2 = b.2 ∧ a.1 < b.1) := by simp [aheadB]
theorem aheadB_false (a b : Ht) : aheadB a b = false ↔ leH b a := by
  unfold leH
  rcases h : aheadB a b with _ | _
  · have : ¬ (a.2 < b.2 ∨ (a.2 = b.2 ∧ a.1 < b.1)) := fun hh => by rw [(aheadB_iff a b).2 hh] at h; cases h
    constructor
    · intro _; omega
    · intro _; rfl
  · have := (aheadB_iff a b).1 h
    constructor
    · intro hh; cases hh
    · intro hh; omega
theorem leH_refl (a : Ht) : leH a a := by unfold leH; omega
theorem leH_trans {a b c : Ht} (h : leH a b) (k : leH b c) : leH a c := by unfold leH at *; omega
theorem leH_antisymm {a b : Ht} (h : leH a b) (k : leH b a) : a = b := by
  unfold leH at *
  exact Prod.ext (by omega) (by omega)
theorem leH_total (a b : Ht) : leH a b ∨ leH b a := by unfold leH; omega
theorem leH_of_ahead {a b : Ht} (h : aheadB a b = true) : leH a b := by rw [aheadB_iff] at h; unfold leH; omega

theorem putL_perm (l : List Ht) (h : Ht) : (putL l h).Perm (h :: l) := by
  induction l with
  | nil => exact List.Perm.refl _
  | cons x xs ih =>
    unfold putL
    split
    · exact List.Perm.refl _
    · exact (List.Perm.cons x ih).trans (List.Perm.swap h x xs)
theorem putL_length (l : List Ht) (h : Ht) : (putL l h).length = l.length + 1 := by rw [(putL_perm l h).length_eq]; rfl
theorem putL_sorted {l : List Ht} (hl : SortedH l) (h : Ht) : SortedH (putL l h) := by
  unfold SortedH at *
  induction l with
  | nil => simp [putL]
  | cons x xs ih =>
    rw [List.pairwise_cons] at hl
    unfold putL
    split
    · rename_i ha
      have hx := leH_of_ahead ha
      exact List.pairwise_cons.2 ⟨fun y hy => by
        rcases List.mem_cons.1 hy with rfl | hy
        · exact hx
        · exact leH_trans hx (hl.1 y hy), List.pairwise_cons.2 hl⟩
    · rename_i ha
      have hx : leH x h := (aheadB_false h x).1 (by simpa using ha)
      refine List.pairwise_cons.2 ⟨fun y hy => ?_, ih hl.2⟩
      rcases List.mem_cons.1 ((putL_perm xs h).mem_iff.1 hy) with rfl | hy
      · exact hx
      · exact hl.1 y hy
theorem fold_perm (l acc : List Ht) : (l.foldl putL acc).Perm (acc ++ l) := by
  induction l generalizing acc with
  | nil => simp
  | cons x xs ih =>
    refine (ih (putL acc x)).trans ?_
    refine ((putL_perm acc x).append_right xs).trans ?_
    exact (List.perm_middle (a := x) (l₁ := acc) (l₂ := xs)).symm
theorem fold_sorted (l acc : List Ht) (h : SortedH acc) : SortedH (l.foldl putL acc) := by
  induction l generalizing acc with
  | nil => exact h
  | cons x xs ih => exact ih _ (putL_sorted h x)
theorem sortL_perm (l : List Ht) : (sortL l).Perm l := by simpa [sortL] using fold_perm l []
theorem sortL_sorted (l : List Ht) : SortedH (sortL l) := fold_sorted l [] List.Pairwise.nil
theorem sortL_length (l : List Ht) : (sortL l).length = l.length := (sortL_perm l).length_eq
theorem sortL_snoc (l : List Ht) (h : Ht) : sortL (l ++ [h]) = putL (sortL l) h := by simp [sortL, List.foldl_append]
/-- Two sorted lists of the same hits are one. -/
theorem sorted_unique {l m : List Ht} (hl : SortedH l) (hm : SortedH m) (hp : l.Perm m) : l = m := by
  unfold SortedH at *
  induction l generalizing m with
  | nil => exact (List.nil_perm.1 hp).symm
  | cons x xs ih =>
    cases m with
    | nil => exact absurd hp.length_eq (by simp)
    | cons y ys =>
      rw [List.pairwise_cons] at hl hm
      have hxy : leH x y := by
        rcases List.mem_cons.1 (hp.mem_iff.2 (List.mem_cons_self ..) : y ∈ x :: xs) with h | h
        · rw [h]; exact leH_refl x
        · exact hl.1 y h
      have hyx : leH y x := by
        rcases List.mem_cons.1 (hp.mem_iff.1 (List.mem_cons_self ..) : x ∈ y :: ys) with h | h
        · rw [h]; exact leH_refl y
        · exact hm.1 x h
      obtain rfl := leH_antisymm hxy hyx
      rw [ih hl.2 hm.2 (List.Perm.cons_inv hp)]
theorem sortL_unique {l m : List Ht} (hm : SortedH m) (hp : m.Perm l) : m = sortL l := sorted_unique hm (sortL_sorted l) (hp.trans (sortL_perm l).symm)
theorem sortL_congr {l m : List Ht} (hp : l.Perm m) : sortL l = sortL m := sorted_unique (sortL_sorted l) (sortL_sorted m) ((sortL_perm l).trans (hp.trans (sortL_perm m).symm))

def hasB (ids : List Int) (x : Int) : Bool := ids.contains x
/-- Each number once, its first. -/
def onceG (ids : List Int) : List Ht → List Ht
  | [] => []
  | x :: xs => if hasB ids x.1 = true then onceG ids xs else x :: onceG (ids ++ [x.1]) xs
def onceL (l : List Ht) : List Ht := onceG [] l

def hitOkAt (hs : List Ht) (i : Nat) : Bool := decide (1 ≤ (hnth hs i).1) && decide (0 ≤ (hnth hs i).2) && (decide (i = 0) || aheadB (hnth hs (i - 1)) (hnth hs i))
def hitsB (hs : List Ht) : Bool := (List.range hs.length).all (hitOkAt hs)
theorem hitsB_at {hs : List Ht} (h : hitsB hs = true) {i : Nat} (hi : i < hs.length) : hitOkAt hs i = true := by
  simp only [hitsB, List.all_eq_true] at h
  exact h i (List.mem_range.2 hi)
theorem hitsB_out {hs : List Ht} {i : Nat} (hi : i < hs.length) (h : hitOkAt hs i = false) : hitsB hs = false := by
  rcases hb : hitsB hs with _ | _
  · rfl
  · rw [hitsB_at hb hi] at h; cases h
theorem hitsB_mk {hs : List Ht} (h : ∀ i, i < hs.length → hitOkAt hs i = true) : hitsB hs = true := by
  simp only [hitsB, List.all_eq_true]
  exact fun i hi => h i (List.mem_range.1 hi)

/-- Are marks and a place as told. -/
def toldB (ms : List Mk) (q : List Int) : Bool := marksB ms && okB q && (decide (ms.length = 0) || decide ((mat ms 0).length = q.length))
def hitF (q : List Int) (m : Mk) : Ht := (m.1, farV m.2 q)
def hitsL (ms : List Mk) (q : List Int) : List Ht := ms.map (hitF q)
def countB (k : Int) : Bool := decide (1 ≤ k) && decide (k ≤ 60)
def nearL (ms : List Mk) (q : List Int) (k : Int) : List Ht := if toldB ms q = true ∧ countB k = true then (sortL (hitsL ms q)).take k.toNat else []
def withinL (ms : List Mk) (q : List Int) (most : Int) : List Ht := if toldB ms q = true ∧ 0 ≤ most then (sortL (hitsL ms q)).filter (fun h => decide (h.2 ≤ most)) else []
def mergedL (a b : List Ht) (k : Int) : List Ht := if countB k = true then (onceL (sortL (a ++ b))).take k.toNat else []

theorem mergedL_comm (a b : List Ht) (k : Int) : mergedL b a k = mergedL a b k := by
  unfold mergedL
  rw [sortL_congr (List.perm_append_comm : (b ++ a).Perm (a ++ b))]

end Go.Proofs.Ythddhblmnfjciaa
namespace Go.Proofs.Ythddhblmnfjciaa

/-- Put ahead of the first one that is not ahead of it. -/
def insBy {α : Type} (lt : α → α → Bool) (x : α) : List α → List α
  | [] => [x]
  | y :: ys => if lt y x = true then y :: insBy lt x ys else x :: y :: ys
def posBy {α : Type} (lt : α → α → Bool) (x : α) : List α → Nat
  | [] => 0
  | y :: ys => if lt y x = true then posBy lt x ys + 1 else 0
def sortBy {α : Type} (lt : α → α → Bool) (l : List α) : List α := l.foldl (fun acc x => insBy lt x acc) []
/-- An order in which two that are neither ahead of the other are one, on those of a list. -/
structure Parts {α : Type} (lt : α → α → Bool) (P : α → Prop) : Prop where
  trans : ∀ a b c, P a → P b → P c → lt a b = true → lt b c = true → lt a c = true
  one : ∀ a b, P a → P b → lt a b = false → lt b a = false → a = b
  asym : ∀ a b, P a → P b → lt a b = true → lt b a = false

theorem posBy_le {α : Type} (lt : α → α → Bool) (x : α) (l : List α) : posBy lt x l ≤ l.length := by
  induction l with
  | nil => simp [posBy]
  | cons y ys ih => unfold posBy; split <;> simp <;> omega
theorem insBy_eq {α : Type} (lt : α → α → Bool) (x : α) (l : List α) : insBy lt x l = l.take (posBy lt x l) ++ x :: l.drop (posBy lt x l) := by
  induction l with
  | nil => rfl
  | cons y ys ih =>
    unfold insBy posBy
    split
    · rw [ih]; rfl
    · rfl
theorem posBy_lt {α : Type} (lt : α → α → Bool) (x : α) (l : List α) (i : Nat) (h : i < l.length) (hi : i < posBy lt x l) : lt l[i] x = true := by
  induction l generalizing i with
  | nil => simp at h
  | cons y ys ih =>
    unfold posBy at hi
    split at hi
    · rename_i hy
      match i with
      | 0 => exact hy
      | k + 1 => exact ih k (by simpa using h) (by omega)
    · omega
theorem posBy_at {α : Type} (lt : α → α → Bool) (x : α) (l : List α) (h : posBy lt x l < l.length) : lt l[posBy lt x l] x = false := by
  induction l with
  | nil => simp at h
  | cons y ys ih =>
    by_cases hy : lt y x = true
    · have e : posBy lt x (y :: ys) = posBy lt x ys + 1 := by simp [posBy, hy]
      simp only [e] at h ⊢
      exact ih (by simpa using h)
    · have e : posBy lt x (y :: ys) = 0 := by simp [posBy, hy]
      simp only [e]
      simpa using hy
/-- The place found by going on while those there are ahead. -/
theorem posBy_uniq {α : Type} (lt : α → α → Bool) (x : α) (l : List α) (k : Nat) (hk : k ≤ l.length) (h1 : ∀ i (h : i < l.length), i < k → lt l[i] x = true) (h2 : ∀ h : k < l.length, lt l[k] x = false) : posBy lt x l = k := by
  rcases Nat.lt_trichotomy (posBy lt x l) k with h | h | h
  · have := h1 (posBy lt x l) (by omega) h
    rw [posBy_at lt x l (by omega)] at this; cases this
  · exact h
  · have hl := posBy_le lt x l
    have := posBy_lt lt x l k (by omega) h
    rw [h2 (by omega)] at this; cases this
theorem insBy_perm {α : Type} (lt : α → α → Bool) (x : α) (l : List α) : (insBy lt x l).Perm (x :: l) := by
  induction l with
  | nil => exact List.Perm.refl _
  | cons y ys ih =>
    unfold insBy
    split
    · exact (List.Perm.cons y ih).trans (List.Perm.swap x y ys)
    · exact List.Perm.refl _
theorem insBy_length {α : Type} (lt : α → α → Bool) (x : α) (l : List α) : (insBy lt x l).length = l.length + 1 := by rw [(insBy_perm lt x l).length_eq]; rfl
theorem foldBy_perm {α : Type} (lt : α → α → Bool) (l acc : List α) : (l.foldl (fun acc x => insBy lt x acc) acc).Perm (acc ++ l) := by
  induction l generalizing acc with
  | nil => simp
  | cons x xs ih =>
    refine (ih (insBy lt x acc)).trans ?_
    refine ((insBy_perm lt x acc).append_right xs).trans ?_
    exact (List.perm_middle (a := x) (l₁ := acc) (l₂ := xs)).symm
theorem sortBy_perm {α : Type} (lt : α → α → Bool) (l : List α) : (sortBy lt l).Perm l := by simpa [sortBy] using foldBy_perm lt l []
theorem sortBy_length {α : Type} (lt : α → α → Bool) (l : List α) : (sortBy lt l).length = l.length := (sortBy_perm lt l).length_eq
theorem sortBy_snoc {α : Type} (lt : α → α → Bool) (l : List α) (x : α) : sortBy lt (l ++ [x]) = insBy lt x (sortBy lt l) := by simp [sortBy, List.foldl_append]
theorem sortBy_take {α : Type} (lt : α → α → Bool) (l : List α) (i : Nat) (h : i < l.length) : sortBy lt (l.take (i + 1)) = insBy lt l[i] (sortBy lt (l.take i)) := by
  rw [← sortBy_snoc, List.take_add_one, List.getElem?_eq_getElem h]; rfl

/-- Not behind the next ones. -/
def SortedBy {α : Type} (lt : α → α → Bool) (l : List α) : Prop := l.Pairwise fun a b => lt b a = false
theorem insBy_sorted {α : Type} {lt : α → α → Bool} {P : α → Prop} (hp : Parts lt P) (x : α) (l : List α) (hx : P x) (hl : ∀ y ∈ l, P y) (hs : SortedBy lt l) : SortedBy lt (insBy lt x l) := by
  unfold SortedBy at *
  induction l with
  | nil => simp [insBy]
  | cons y ys ih =>
    rw [List.pairwise_cons] at hs
    have hy := hl y (List.mem_cons_self ..)
    unfold insBy
    split
    · rename_i h
      refine List.pairwise_cons.2 ⟨fun z hz => ?_, ih (fun z hz => hl z (List.mem_cons_of_mem _ hz)) hs.2⟩
      rcases List.mem_cons.1 ((insBy_perm lt x ys).mem_iff.1 hz) with rfl | hz
      · exact hp.asym _ _ hy hx h
      · exact hs.1 z hz
    · rename_i h
      have h : lt y x = false := by simpa using h
      refine List.pairwise_cons.2 ⟨fun z hz => ?_, List.pairwise_cons.2 hs⟩
      rcases List.mem_cons.1 hz with rfl | hz
      · exact h
      · have hz' := hl z (List.mem_cons_of_mem _ hz)
        rcases hzx : lt z x with _ | _
        · rfl
        · have h2 := hs.1 z hz
          rcases hyz : lt y z with _ | _
          · have := hp.one _ _ hy hz' hyz h2
            subst this; rw [h] at hzx; cases hzx
          · rw [hp.trans _ _ _ hy hz' hx hyz hzx] at h; cases h
theorem foldBy_sorted {α : Type} {lt : α → α → Bool} {P : α → Prop} (hp : Parts lt P) (l acc : List α) (hl : ∀ y ∈ l, P y) (ha : ∀ y ∈ acc, P y) (hs : SortedBy lt acc) : SortedBy lt (l.foldl (fun acc x => insBy lt x acc) acc) := by
  induction l generalizing acc with
  | nil => exact hs
  | cons x xs ih =>
    refine ih _ (fun y hy => hl y (List.mem_cons_of_mem _ hy)) (fun y hy => ?_) (insBy_sorted hp x acc (hl x (List.mem_cons_self ..)) ha hs)
    rcases List.mem_cons.1 ((insBy_perm lt x acc).mem_iff.1 hy) with rfl | hy
    · exact hl _ (List.mem_cons_self ..)
    · exact ha y hy
theorem sortBy_sorted {α : Type} {lt : α → α → Bool} {P : α → Prop} (hp : Parts lt P) (l : List α) (hl : ∀ y ∈ l, P y) : SortedBy lt (sortBy lt l) :=
  foldBy_sorted hp l [] hl (fun y hy => by cases hy) List.Pairwise.nil
/-- There is one list in order of those of a list. -/
theorem sorted_one {α : Type} {lt : α → α → Bool} {P : α → Prop} (hp : Parts lt P) : ∀ (l m : List α), (∀ y ∈ l, P y) → l.Perm m → SortedBy lt l → SortedBy lt m → l = m
  | [], m, _, hperm, _, _ => (List.Perm.nil_eq hperm)
  | a :: l, m, hl, hperm, h1, h2 => by
    match m, hperm with
    | [], hperm => exact absurd hperm.length_eq (by simp)
    | b :: m, hperm =>
      unfold SortedBy at h1 h2
      have h1' := List.pairwise_cons.1 h1
      have h2' := List.pairwise_cons.1 h2
      have ha : P a := hl a (List.mem_cons_self ..)
      have hb : P b := hl b (hperm.mem_iff.2 (List.mem_cons_self ..))
      have hab : a = b := by
        rcases List.mem_cons.1 (hperm.mem_iff.1 (List.mem_cons_self ..) : a ∈ b :: m) with e | e
        · exact e
        · rcases List.mem_cons.1 (hperm.mem_iff.2 (List.mem_cons_self ..) : b ∈ a :: l) with f | f
          · exact f.symm
          · exact hp.one _ _ ha hb (h2'.1 a e) (h1'.1 b f)
      subst hab
      rw [sorted_one hp l m (fun y hy => hl y (List.mem_cons_of_mem _ hy)) (List.Perm.cons_inv hperm) h1'.2 h2'.2]
theorem sortBy_one {α : Type} {lt : α → α → Bool} {P : α → Prop} (hp : Parts lt P) (l m : List α) (hl : ∀ y ∈ l, P y) (hperm : m.Perm l) (hs : SortedBy lt m) : m = sortBy lt l :=
  sorted_one hp m (sortBy lt l) (fun y hy => hl y (hperm.mem_iff.1 hy)) (hperm.trans (sortBy_perm lt l).symm) hs (sortBy_sorted hp l hl)

/-- By a number of theirs, of alike ones by number. -/
def axlt (ax : Nat) (a b : Mk) : Bool := decide (nth a.2 ax < nth b.2 ax) || (decide (nth a.2 ax = nth b.2 ax) && decide (a.1 < b.1))
def idlt (a b : Mk) : Bool := decide (a.1 < b.1)
theorem axlt_iff (ax : Nat) (a b : Mk) : axlt ax a b = true ↔ nth a.2 ax < nth b.2 ax ∨ (nth a.2 ax = nth b.2 ax ∧ a.1 < b.1) := by simp [axlt]
theorem axlt_not (ax : Nat) (a b : Mk) : axlt ax a b = false ↔ nth b.2 ax < nth a.2 ax ∨ (nth a.2 ax = nth b.2 ax ∧ b.1 ≤ a.1) := by
  rcases h : axlt ax a b with _ | _
  · have : ¬ (nth a.2 ax < nth b.2 ax ∨ (nth a.2 ax = nth b.2 ax ∧ a.1 < b.1)) := fun hh => by rw [(axlt_iff ax a b).2 hh] at h; cases h
    constructor
    · intro _; omega
    · intro _; rfl
  · have := (axlt_iff ax a b).1 h
    constructor
    · intro hh; cases hh
    · intro hh; omega
/-- No two of one number. -/
def Sole (ms : List Mk) : Prop := ∀ a ∈ ms, ∀ b ∈ ms, a.1 = b.1 → a = b
theorem parts_axlt (ax : Nat) {ms : List Mk} (h : Sole ms) : Parts (axlt ax) (· ∈ ms) where
  trans a b c _ _ _ h1 h2 := by rw [axlt_iff] at *; omega
  one a b ha hb h1 h2 := by rw [axlt_not] at *; exact h a ha b hb (by omega)
  asym a b _ _ h1 := by rw [axlt_iff] at h1; rw [axlt_not]; omega
theorem parts_idlt {ms : List Mk} (h : Sole ms) : Parts idlt (· ∈ ms) where
  trans a b c _ _ _ h1 h2 := by simp [idlt] at *; omega
  one a b ha hb h1 h2 := by simp [idlt] at *; exact h a ha b hb (by omega)
  asym a b _ _ h1 := by simp [idlt] at *; omega
theorem Sole.sub {ms ns : List Mk} (h : Sole ms) (hs : ∀ a ∈ ns, a ∈ ms) : Sole ns := fun a ha b hb e => h a (hs a ha) b (hs b hb) e
theorem Sole.of_rise {ms : List Mk} (h : ms.Pairwise fun a b => a.1 < b.1) : Sole ms := by
  induction ms with
  | nil => intro a ha; cases ha
  | cons x xs ih =>
    rw [List.pairwise_cons] at h
    intro a ha b hb e
    rcases List.mem_cons.1 ha with e1 | ha1
    · rcases List.mem_cons.1 hb with e2 | hb1
      · rw [e1, e2]
      · have := h.1 b hb1; subst e1; omega
    · rcases List.mem_cons.1 hb with e2 | hb1
      · have := h.1 a ha1; subst e2; omega
      · exact ih h.2 a ha1 b hb1 e

/-- The tree of halves. -/
inductive Tr where
  | leaf : Tr
  | node (m : Mk) (ax : Nat) (l r : Tr) : Tr
/-- A knot: its mark, its axis, less, more. -/
abbrev Kn := Mk × Int × Int × Int
def Tr.size : Tr → Nat
  | .leaf => 0
  | .node _ _ l r => l.size + r.size + 1
def Tr.place : Tr → Nat → Int
  | .leaf, _ => -1
  | .node .., p => (p : Int)
def Tr.flat : Tr → Nat → List Kn
  | .leaf, _ => []
  | .node m ax l r, p => (m, (ax : Int), l.place (p + 1), r.place (p + 1 + l.size)) :: (l.flat (p + 1) ++ r.flat (p + 1 + l.size))
def Tr.marks : Tr → List Mk
  | .leaf => []
  | .node m _ l r => m :: (l.marks ++ r.marks)
def Tr.tall : Tr → Nat
  | .leaf => 0
  | .node _ _ l r => 1 + max l.tall r.tall
theorem Tr.flat_length (t : Tr) (p : Nat) : (t.flat p).length = t.size := by
  induction t generalizing p with
  | leaf => rfl
  | node m ax l r ihl ihr => simp [Tr.flat, Tr.size, ihl, ihr]
theorem Tr.marks_length (t : Tr) : t.marks.length = t.size := by
  induction t with
  | leaf => rfl
  | node m ax l r ihl ihr => simp [Tr.marks, Tr.size, ihl, ihr]
theorem Tr.flat_marks (t : Tr) (p : Nat) : (t.flat p).map (·.1) = t.marks := by
  induction t generalizing p with
  | leaf => rfl
  | node m ax l r ihl ihr => simp [Tr.flat, Tr.marks, ihl, ihr]
/-- The tree of some marks by an axis; f: no less than there are. -/
def treeF : Nat → List Mk → Nat → Tr
  | 0, _, _ => .leaf
  | f + 1, ms, ax =>
    if ms.length = 0 then .leaf else
    .node (mnthT (sortBy (axlt ax) ms) (ms.length / 2)) ax
      (treeF f ((sortBy (axlt ax) ms).take (ms.length / 2)) ((ax + 1) % (mnthT (sortBy (axlt ax) ms) (ms.length / 2)).2.length))
      (treeF f ((sortBy (axlt ax) ms).drop (ms.length / 2 + 1)) ((ax + 1) % (mnthT (sortBy (axlt ax) ms) (ms.length / 2)).2.length))
where mnthT (ms : List Mk) (i : Nat) : Mk := ms.getD i (0, [])
theorem treeF_none (f : Nat) (ax : Nat) : treeF f [] ax = .leaf := by cases f <;> rfl
theorem treeF_node (f : Nat) (ms : List Mk) (ax : Nat) (h : ms.length ≠ 0) : treeF (f + 1) ms ax = .node (treeF.mnthT (sortBy (axlt ax) ms) (ms.length / 2)) ax (treeF f ((sortBy (axlt ax) ms).take (ms.length / 2)) ((ax + 1) % (treeF.mnthT (sortBy (axlt ax) ms) (ms.length / 2)).2.length)) (treeF f ((sortBy (axlt ax) ms).drop (ms.length / 2 + 1)) ((ax + 1) % (treeF.mnthT (sortBy (axlt ax) ms) (ms.length / 2)).2.length)) := by
  rw [treeF, if_neg h]
theorem getD_mid {ms : List Mk} {i : Nat} (h : i < ms.length) : ms = ms.take i ++ ms.getD i (0, []) :: ms.drop (i + 1) := by
  have e : ms.getD i (0, []) = ms[i] := by simp [List.getD, h]
  rw [e, ← List.drop_eq_getElem_cons h, List.take_append_drop]
theorem treeF_marks (f : Nat) (ms : List Mk) (ax : Nat) (h : ms.length ≤ f) : (treeF f ms ax).marks.Perm ms := by
  induction f generalizing ms ax with
  | zero =>
    have : ms = [] := List.length_eq_zero_iff.1 (by omega)
    subst this; exact List.Perm.refl _
  | succ f ih =>
    unfold treeF
    split
    · rename_i h0
      have : ms = [] := List.length_eq_zero_iff.1 h0
      subst this; exact List.Perm.refl _
    · rename_i h0
      have hl := sortBy_length (axlt ax) ms
      have hp := sortBy_perm (axlt ax) ms
      generalize sortBy (axlt ax) ms = s at hl hp ⊢
      simp only [Tr.marks]
      have hm : ms.length / 2 < s.length := by omega
      have e := getD_mid hm
      refine (List.Perm.cons _ ((ih _ _ (by simp; omega)).append (ih _ _ (by simp; omega)))).trans ?_
      refine (List.perm_middle.symm).trans ?_
      unfold treeF.mnthT
      rw [← e]; exact hp
theorem treeF_size (f : Nat) (ms : List Mk) (ax : Nat) (h : ms.length ≤ f) : (treeF f ms ax).size = ms.length := by
  rw [← Tr.marks_length, (treeF_marks f ms ax h).length_eq]
theorem treeF_place (f : Nat) (ms : List Mk) (ax p : Nat) (h : ms.length ≤ f) : (treeF f ms ax).place p = if ms.length = 0 then -1 else (p : Int) := by
  match f with
  | 0 => rw [if_pos (by omega)]; rfl
  | f + 1 => unfold treeF; split <;> rfl

/-- What is halved. -/
def halvedV (ms : List Mk) : List Kn := if marksB ms = true then (treeF 60 ms 0).flat 0 else []
def knotMs (ks : List Kn) : List Mk := sortBy idlt (ks.map (·.1))
def knotsB (ks : List Kn) : Bool := marksB (knotMs ks) && decide (halvedV (knotMs ks) = ks)

theorem marks_rise {ms : List Mk} (h : marksB ms = true) : ms.Pairwise fun a b => a.1 < b.1 := by
  have hstep : ∀ i, i + 1 < ms.length → mid ms i < mid ms (i + 1) := fun i hi => by
    have := ((mOkAt_iff ms (i + 1)).1 (marksB_at h hi)).2.2.2.2
    rcases this with h0 | h0
    · omega
    · exact h0
  have hall : ∀ d i, i + d + 1 < ms.length → mid ms i < mid ms (i + d + 1) := by
    intro d
    induction d with
    | zero => intro i hi; exact hstep i hi
    | succ d ih =>
      intro i hi
      have h1 := ih i (by omega)
      have h2 := hstep (i + d + 1) (by omega)
      rw [show i + (d + 1) + 1 = i + d + 1 + 1 by omega]; omega
  rw [List.pairwise_iff_getElem]
  intro i j hi hj hij
  have := hall (j - i - 1) i (by omega)
  rw [show i + (j - i - 1) + 1 = j by omega] at this
  simpa [mid, List.getD, hi, hj] using this
theorem marks_sole {ms : List Mk} (h : marksB ms = true) : Sole ms := Sole.of_rise (marks_rise h)

end Go.Proofs.Ythddhblmnfjciaa
namespace Go.Proofs.Ythddhblmnfjciaa

def AheadAll (l : List Ht) : Prop := l.Pairwise (fun a b => aheadB a b = true)
theorem ahead_of_le {a b : Ht} (h : leH a b) (hne : a.1 ≠ b.1) : aheadB a b = true := by rw [aheadB_iff]; unfold leH at h; omega
theorem sorted_ahead {l : List Ht} (hs : SortedH l) (hd : l.Pairwise (fun a b => a.1 ≠ b.1)) : AheadAll l := by
  unfold SortedH at hs; unfold AheadAll
  induction l with
  | nil => exact List.Pairwise.nil
  | cons x xs ih =>
    rw [List.pairwise_cons] at *
    exact ⟨fun y hy => ahead_of_le (hs.1 y hy) (hd.1 y hy), ih hs.2 hd.2⟩
theorem perm_distinct {l m : List Ht} (hp : l.Perm m) (h : l.Pairwise (fun a b => a.1 ≠ b.1)) : m.Pairwise (fun a b => a.1 ≠ b.1) :=
  (hp.pairwise_iff (fun h e => h e.symm)).1 h
theorem marks_distinct {ms : List Mk} (hm : marksB ms = true) (q : List Int) : (hitsL ms q).Pairwise (fun a b => a.1 ≠ b.1) := by
  rw [List.pairwise_iff_getElem]
  intro i j hi hj hij
  simp only [hitsL, List.length_map] at hi hj
  have hr : mid ms i < mid ms j := by
    clear hi
    induction j with
    | zero => omega
    | succ j ih =>
      have h1 := ((mOkAt_iff ms (j + 1)).1 (marksB_at hm hj)).2.2.2.2
      simp at h1
      rcases Nat.lt_or_ge i j with h2 | h2
      · have := ih (by omega) h2; omega
      · rw [show i = j by omega]; exact h1
  simp only [hitsL, List.getElem_map, hitF]
  simp only [mid, List.getD, List.getElem?_eq_getElem hi, List.getElem?_eq_getElem hj, Option.getD_some] at hr
  omega
theorem told_two {ms : List Mk} {q : List Int} (ht : toldB ms q = true) {i : Nat} (hi : i < ms.length) : twoB (mat ms i) q = true := by
  simp [toldB] at ht
  obtain ⟨⟨hm, hq⟩, hl⟩ := ht
  have h1 := (mOkAt_iff ms i).1 (marksB_at hm hi)
  have h0 : (mat ms 0).length = q.length := by
    rcases hl with h | h
    · subst h; simp at hi
    · exact h
  exact twoB_true h1.2.2.1 hq (by omega)
theorem told_marks {ms : List Mk} {q : List Int} (ht : toldB ms q = true) : marksB ms = true := by
  simp [toldB] at ht; exact ht.1.1
theorem farV_nonneg {a b : List Int} (h : twoB a b = true) : 0 ≤ farV a b := by
  have hb := (twoB_of h)
  have := sumTo_le (sqF a b) 0 4000000 (sqF_bd hb.1 hb.2.1) a.length
  simp [farV, h]; omega
theorem hit_good {ms : List Mk} {q : List Int} (ht : toldB ms q = true) {x : Ht} (hx : x ∈ hitsL ms q) : 1 ≤ x.1 ∧ 0 ≤ x.2 ∧ ∃ i, i < ms.length ∧ x = (mid ms i, farV (mat ms i) q) := by
  obtain ⟨m, hm, rfl⟩ := List.mem_map.1 hx
  obtain ⟨i, hi, rfl⟩ := List.getElem_of_mem hm
  have e1 : mid ms i = ms[i].1 := by simp [mid, List.getD, hi]
  have e2 : mat ms i = ms[i].2 := by simp [mat, List.getD, hi]
  have h1 := (mOkAt_iff ms i).1 (marksB_at (told_marks ht) hi)
  refine ⟨by unfold hitF; omega, ?_, i, hi, by unfold hitF; rw [e1, e2]⟩
  have := farV_nonneg (told_two ht hi)
  rw [e2] at this
  exact this
theorem hitsB_of {l : List Ht} (hs : AheadAll l) (hg : ∀ x ∈ l, 1 ≤ x.1 ∧ 0 ≤ x.2) : hitsB l = true := by
  refine hitsB_mk fun i hi => ?_
  have hm : hnth l i ∈ l := by simp [hnth, List.getD, hi]
  have := hg _ hm
  simp only [hitOkAt, Bool.and_eq_true, decide_eq_true_eq, Bool.or_eq_true]
  refine ⟨⟨this.1, this.2⟩, ?_⟩
  rcases Nat.eq_zero_or_pos i with h0 | h0
  · exact Or.inl h0
  · right
    have := (List.pairwise_iff_getElem.1 hs) (i - 1) i (by omega) hi (by omega)
    simpa [hnth, List.getD, hi, show i - 1 < l.length by omega] using this
theorem all_ahead {ms : List Mk} {q : List Int} (ht : toldB ms q = true) : AheadAll (sortL (hitsL ms q)) :=
  sorted_ahead (sortL_sorted _) (perm_distinct (sortL_perm _).symm (marks_distinct (told_marks ht) q))
theorem AheadAll.take {l : List Ht} (h : AheadAll l) (k : Nat) : AheadAll (l.take k) := List.Pairwise.sublist (List.take_sublist k l) h
theorem AheadAll.filter {l : List Ht} (h : AheadAll l) (p : Ht → Bool) : AheadAll (l.filter p) := List.Pairwise.sublist List.filter_sublist h
theorem near_mem {ms : List Mk} {q : List Int} {k : Int} {x : Ht} (h : x ∈ nearL ms q k) : toldB ms q = true ∧ x ∈ hitsL ms q := by
  unfold nearL at h
  split at h
  · rename_i hc; exact ⟨hc.1, (sortL_perm _).mem_iff.1 (List.mem_of_mem_take h)⟩
  · cases h
theorem within_mem {ms : List Mk} {q : List Int} {most : Int} {x : Ht} (h : x ∈ withinL ms q most) : toldB ms q = true ∧ x ∈ hitsL ms q ∧ x.2 ≤ most := by
  unfold withinL at h
  split at h
  · rename_i hc
    have := List.mem_filter.1 h
    exact ⟨hc.1, (sortL_perm _).mem_iff.1 this.1, by simpa using this.2⟩
  · cases h
theorem near_ok (ms : List Mk) (q : List Int) (k : Int) : hitsB (nearL ms q k) = true := by
  refine hitsB_of ?_ (fun x hx => by have h := near_mem hx; have := hit_good h.1 h.2; exact ⟨this.1, this.2.1⟩)
  unfold nearL
  split
  · rename_i hc; exact (all_ahead hc.1).take _
  · exact List.Pairwise.nil
theorem within_ok (ms : List Mk) (q : List Int) (most : Int) : hitsB (withinL ms q most) = true := by
  refine hitsB_of ?_ (fun x hx => by have h := within_mem hx; have := hit_good h.1 h.2.1; exact ⟨this.1, this.2.1⟩)
  unfold withinL
  split
  · rename_i hc; exact (all_ahead hc.1).filter _
  · exact List.Pairwise.nil

/-- At or ahead of the last. -/
def uptoB (l x : Ht) : Bool := decide (x.2 < l.2) || (decide (x.2 = l.2) && decide (x.1 ≤ l.1))
theorem upto_le (l x : Ht) : uptoB l x = true ↔ leH x l := by unfold uptoB leH; simp
theorem count_take {ss : List Ht} (hs : AheadAll ss) (m : Nat) (hm : m < ss.length) : ss.countP (uptoB (hnth ss m)) = m + 1 := by
  have hsplit : ss = ss.take (m + 1) ++ ss.drop (m + 1) := (List.take_append_drop _ _).symm
  have hat : ∀ i, i < ss.length → hnth ss i = ss[i]! := fun i hi => by simp [hnth, List.getD, hi]
  have h1 : (ss.take (m + 1)).countP (uptoB (hnth ss m)) = m + 1 := by
    have : (ss.take (m + 1)).countP (uptoB (hnth ss m)) = (ss.take (m + 1)).length := by
      rw [List.countP_eq_length]
      intro x hx
      obtain ⟨i, hi, rfl⟩ := List.getElem_of_mem hx
      have hi2 : i < m + 1 ∧ i < ss.length := by simp at hi; omega
      rw [upto_le]
      have e : hnth ss m = ss[m] := by simp [hnth, List.getD, hm]
      rw [e, List.getElem_take]
      rcases Nat.lt_or_ge i m with h | h
      · exact leH_of_ahead ((List.pairwise_iff_getElem.1 hs) i m hi2.2 hm h)
      · have : i = m := by omega
        subst this; exact leH_refl _
    rw [this]; simp; omega
  have h2 : (ss.drop (m + 1)).countP (uptoB (hnth ss m)) = 0 := by
    rw [List.countP_eq_zero]
    intro x hx
    obtain ⟨i, hi, rfl⟩ := List.getElem_of_mem hx
    have hi2 : m + 1 + i < ss.length := by simp at hi; omega
    rw [List.getElem_drop]
    intro hc
    rw [upto_le] at hc
    have e : hnth ss m = ss[m] := by simp [hnth, List.getD, hm]
    rw [e] at hc
    have := (List.pairwise_iff_getElem.1 hs) m (m + 1 + i) hm hi2 (by omega)
    rw [aheadB_iff] at this
    unfold leH at hc
    omega
  rw [hsplit, List.countP_append, ← hsplit, h1, h2]

end Go.Proofs.Ythddhblmnfjciaa
namespace Go.Proofs.Ythddhblmnfjciaa

def tnth (ks : List Kn) (i : Nat) : Kn := ks.getD i ((0, []), 0, 0, 0)
theorem tnth_get {ks : List Kn} {i : Nat} (h : i < ks.length) : tnth ks i = ks[i] := by simp [tnth, List.getD, h]
/-- The knots of a tree lie in a list from p on. -/
def TAt (ks : List Kn) : Tr → Nat → Prop
  | .leaf, _ => True
  | .node m ax l r, p => p < ks.length ∧ tnth ks p = (m, (ax : Int), l.place (p + 1), r.place (p + 1 + l.size)) ∧ TAt ks l (p + 1) ∧ TAt ks r (p + 1 + l.size)
theorem tat_of (t : Tr) : ∀ (pre post : List Kn), TAt (pre ++ t.flat pre.length ++ post) t pre.length := by
  induction t with
  | leaf => intro pre post; trivial
  | node m ax l r ihl ihr =>
    intro pre post
    refine ⟨by simp [Tr.flat], by simp [tnth, List.getD, Tr.flat], ?_, ?_⟩
    · have h := ihl (pre ++ [(m, (ax : Int), l.place (pre.length + 1), r.place (pre.length + 1 + l.size))]) (r.flat (pre.length + 1 + l.size) ++ post)
      simpa [Tr.flat, Nat.add_assoc] using h
    · have h := ihr (pre ++ (m, (ax : Int), l.place (pre.length + 1), r.place (pre.length + 1 + l.size)) :: l.flat (pre.length + 1)) post
      have e : (pre ++ (m, (ax : Int), l.place (pre.length + 1), r.place (pre.length + 1 + l.size)) :: l.flat (pre.length + 1)).length = pre.length + 1 + l.size := by simp [Tr.flat_length]; omega
      rw [e] at h
      simpa [Tr.flat] using h
theorem tat_flat (t : Tr) : TAt (t.flat 0) t 0 := by
  have := tat_of t [] []
  simpa using this
theorem place_zero {t : Tr} : t.place 0 = if t.size = 0 then -1 else 0 := by
  cases t with
  | leaf => rfl
  | node m ax l r => rw [if_neg (by simp [Tr.size])]; rfl
/-- Every node of a tree has what P asks. -/
def Tr.all (P : Mk → Nat → Tr → Tr → Prop) : Tr → Prop
  | .leaf => True
  | .node m ax l r => P m ax l r ∧ l.all P ∧ r.all P
theorem Tr.all_imp {P Q : Mk → Nat → Tr → Tr → Prop} (h : ∀ m ax l r, P m ax l r → Q m ax l r) : ∀ t : Tr, t.all P → t.all Q
  | .leaf, _ => trivial
  | .node m ax l r, ⟨h1, h2, h3⟩ => ⟨h m ax l r h1, Tr.all_imp h l h2, Tr.all_imp h r h3⟩

/-- How tall: a knot, and half as many below it. -/
def bitsN : Nat → Nat → Nat
  | 0, _ => 0
  | f + 1, n => if n = 0 then 0 else 1 + bitsN f (n / 2)
theorem bitsN_mono (f : Nat) : ∀ m n, m ≤ n → bitsN f m ≤ bitsN f n := by
  induction f with
  | zero => intro m n _; exact Nat.le_refl _
  | succ f ih =>
    intro m n h
    unfold bitsN
    split
    · exact Nat.zero_le _
    · rw [if_neg (by omega)]
      have := ih (m / 2) (n / 2) (by omega)
      omega
theorem bitsN_fuel (f : Nat) : ∀ n, n ≤ f → bitsN (f + 1) n = bitsN f n := by
  induction f with
  | zero =>
    intro n h
    have : n = 0 := by omega
    subst this; rfl
  | succ f ih =>
    intro n h
    rw [bitsN.eq_2 n (f + 1), bitsN.eq_2 n f]
    by_cases h0 : n = 0
    · rw [if_pos h0, if_pos h0]
    · rw [if_neg h0, if_neg h0, ih (n / 2) (by omega)]
theorem treeF_tall (f : Nat) : ∀ (ms : List Mk) (ax : Nat), ms.length ≤ f → (treeF f ms ax).tall = bitsN f ms.length := by
  induction f with
  | zero => intro ms ax h; rfl
  | succ f ih =>
    intro ms ax h
    by_cases h0 : ms.length = 0
    · rw [treeF, if_pos h0, bitsN, if_pos h0]; rfl
    · rw [treeF_node f ms ax h0, bitsN, if_neg h0]
      have hl := sortBy_length (axlt ax) ms
      simp only [Tr.tall]
      rw [ih _ _ (by simp; omega), ih _ _ (by simp; omega)]
      have e1 : ((sortBy (axlt ax) ms).take (ms.length / 2)).length = ms.length / 2 := by simp; omega
      have e2 : ((sortBy (axlt ax) ms).drop (ms.length / 2 + 1)).length ≤ ms.length / 2 := by simp; omega
      rw [e1]
      have := bitsN_mono f _ _ e2
      omega

/-- Less is nowhere above, More nowhere below on the axis. -/
def Sided (m : Mk) (ax : Nat) (l r : Tr) : Prop := (∀ a ∈ l.marks, nth a.2 ax ≤ nth m.2 ax) ∧ (∀ a ∈ r.marks, nth m.2 ax ≤ nth a.2 ax)
theorem treeF_sided (f : Nat) : ∀ (ms : List Mk) (ax : Nat), ms.length ≤ f → Sole ms → (treeF f ms ax).all Sided := by
  induction f with
  | zero => intro ms ax _ _; trivial
  | succ f ih =>
    intro ms ax h hS
    by_cases h0 : ms.length = 0
    · rw [treeF, if_pos h0]; trivial
    · rw [treeF_node f ms ax h0]
      have hl := sortBy_length (axlt ax) ms
      have hp := sortBy_perm (axlt ax) ms
      have hso := sortBy_sorted (parts_axlt ax hS) ms (fun y hy => hy)
      have hS2 : Sole (sortBy (axlt ax) ms) := hS.sub fun a ha => hp.mem_iff.1 ha
      generalize sortBy (axlt ax) ms = s at *
      generalize (ax + 1) % (treeF.mnthT s (ms.length / 2)).2.length = X
      have hM : ms.length / 2 < s.length := by omega
      have em : treeF.mnthT s (ms.length / 2) = s[ms.length / 2] := by simp [treeF.mnthT, List.getD, hM]
      refine ⟨⟨fun a ha => ?_, fun a ha => ?_⟩, ih _ _ (by simp; omega) (hS2.sub fun a ha => List.mem_of_mem_take ha), ih _ _ (by simp; omega) (hS2.sub fun a ha => List.mem_of_mem_drop ha)⟩
      · have h1 := (treeF_marks f _ X (by simp; omega)).mem_iff.1 ha
        obtain ⟨i, hi, rfl⟩ := List.getElem_of_mem h1
        simp at hi
        have := (List.pairwise_iff_getElem.1 hso) i (ms.length / 2) (by omega) hM (by omega)
        rw [axlt_not] at this
        rw [em, List.getElem_take]
        omega
      · have h1 := (treeF_marks f _ X (by simp; omega)).mem_iff.1 ha
        obtain ⟨i, hi, rfl⟩ := List.getElem_of_mem h1
        simp at hi
        have := (List.pairwise_iff_getElem.1 hso) (ms.length / 2) (ms.length / 2 + 1 + i) hM (by omega) (by omega)
        rw [axlt_not] at this
        rw [em, List.getElem_drop]
        omega
theorem treeF_axis (f : Nat) : ∀ (ms : List Mk) (ax dim : Nat), ms.length ≤ f → (∀ a ∈ ms, a.2.length = dim) → 1 ≤ dim → ax < dim → (treeF f ms ax).all fun m x _ _ => x < dim ∧ m ∈ ms := by
  induction f with
  | zero => intro ms ax dim _ _ _ _; trivial
  | succ f ih =>
    intro ms ax dim h hd h1 hx
    by_cases h0 : ms.length = 0
    · rw [treeF, if_pos h0]; trivial
    · rw [treeF_node f ms ax h0]
      have hl := sortBy_length (axlt ax) ms
      have hp := sortBy_perm (axlt ax) ms
      generalize sortBy (axlt ax) ms = s at *
      have hM : ms.length / 2 < s.length := by omega
      have em : treeF.mnthT s (ms.length / 2) = s[ms.length / 2] := by simp [treeF.mnthT, List.getD, hM]
      have hin : treeF.mnthT s (ms.length / 2) ∈ ms := by rw [em]; exact hp.mem_iff.1 (List.getElem_mem hM)
      rw [hd _ hin]
      have hX : (ax + 1) % dim < dim := Nat.mod_lt _ (by omega)
      refine ⟨⟨hx, hin⟩, Tr.all_imp (fun m x l r hh => ⟨hh.1, hp.mem_iff.1 (List.mem_of_mem_take hh.2)⟩) _ (ih _ _ dim (by simp; omega) (fun a ha => hd a (hp.mem_iff.1 (List.mem_of_mem_take ha))) h1 hX), Tr.all_imp (fun m x l r hh => ⟨hh.1, hp.mem_iff.1 (List.mem_of_mem_drop hh.2)⟩) _ (ih _ _ dim (by simp; omega) (fun a ha => hd a (hp.mem_iff.1 (List.mem_of_mem_drop ha))) h1 hX)⟩

/-- The given look: the least till then, and how many. -/
def lookT (q : List Int) : Tr → Int × Int → Int × Int
  | .leaf, s => s
  | .node m ax l r, s =>
    if 0 < nth q ax - nth m.2 ax then
      if (nth q ax - nth m.2 ax) * (nth q ax - nth m.2 ax) ≤ (lookT q r (if s.1 < 0 ∨ farV m.2 q < s.1 then farV m.2 q else s.1, s.2 + 1)).1 then lookT q l (lookT q r (if s.1 < 0 ∨ farV m.2 q < s.1 then farV m.2 q else s.1, s.2 + 1)) else lookT q r (if s.1 < 0 ∨ farV m.2 q < s.1 then farV m.2 q else s.1, s.2 + 1)
    else
      if (nth q ax - nth m.2 ax) * (nth q ax - nth m.2 ax) ≤ (lookT q l (if s.1 < 0 ∨ farV m.2 q < s.1 then farV m.2 q else s.1, s.2 + 1)).1 then lookT q r (lookT q l (if s.1 < 0 ∨ farV m.2 q < s.1 then farV m.2 q else s.1, s.2 + 1)) else lookT q l (if s.1 < 0 ∨ farV m.2 q < s.1 then farV m.2 q else s.1, s.2 + 1)
/-- The program's: the first k till then, and how many. -/
def gainB (near : List Ht) (k : Nat) (f : Int) : Bool := decide (near.length < k) || decide (f ≤ (hnth near (k - 1)).2)
def seekT (q : List Int) (k : Nat) : Tr → List Ht × Int → List Ht × Int
  | .leaf, s => s
  | .node m ax l r, s =>
    if nth m.2 ax < nth q ax then
      if gainB (seekT q k r ((putL s.1 (hitF q m)).take k, s.2 + 1)).1 k ((nth q ax - nth m.2 ax) * (nth q ax - nth m.2 ax)) = true then seekT q k l (seekT q k r ((putL s.1 (hitF q m)).take k, s.2 + 1)) else seekT q k r ((putL s.1 (hitF q m)).take k, s.2 + 1)
    else
      if gainB (seekT q k l ((putL s.1 (hitF q m)).take k, s.2 + 1)).1 k ((nth q ax - nth m.2 ax) * (nth q ax - nth m.2 ax)) = true then seekT q k r (seekT q k l ((putL s.1 (hitF q m)).take k, s.2 + 1)) else seekT q k l ((putL s.1 (hitF q m)).take k, s.2 + 1)

theorem putL_take (k : Nat) : ∀ (l : List Ht) (h : Ht), (putL (l.take k) h).take k = (putL l h).take k := by
  induction k with
  | zero => intro l h; simp
  | succ k ih =>
    intro l h
    cases l with
    | nil => rfl
    | cons x xs =>
      simp only [List.take_succ_cons, putL]
      split
      · cases k with
        | zero => simp
        | succ k => simp [List.take_take]
      · simp only [List.take_succ_cons]; rw [ih]
theorem putL_far (k : Nat) : ∀ (l : List Ht) (h : Ht), k ≤ l.length → (∀ x ∈ l.take k, aheadB h x = false) → (putL l h).take k = l.take k := by
  induction k with
  | zero => intro l h _ _; simp
  | succ k ih =>
    intro l h hk hx
    cases l with
    | nil => simp at hk
    | cons x xs =>
      have h1 : aheadB h x = false := hx x (by simp)
      simp only [putL, h1, List.take_succ_cons]
      rw [if_neg (by simp), List.take_succ_cons, ih xs h (by simpa using hk) (fun y hy => hx y (by simp [hy]))]
/-- What is farther than the last of the first k changes none of them. -/
theorem sort_far (k : Nat) (hk : 0 < k) (L : List Ht) (hl : k ≤ (sortL L).length) : ∀ X : List Ht, (∀ x ∈ X, (hnth (sortL L) (k - 1)).2 < x.2) → (sortL (L ++ X)).take k = (sortL L).take k := by
  intro X
  induction X with
  | nil => intro _; simp
  | cons x X ih =>
    intro h
    have h1 := ih fun y hy => h y (by simp [hy])
    have hp : (L ++ x :: X).Perm ((L ++ X) ++ [x]) := List.perm_middle.trans (List.perm_append_comm (l₁ := [x]) (l₂ := L ++ X))
    rw [sortL_congr hp, sortL_snoc, putL_far k _ x (by rw [sortL_length] at *; simp; omega), h1]
    rw [h1]
    intro y hy
    have hx := h x (by simp)
    obtain ⟨i, hi, rfl⟩ := List.getElem_of_mem hy
    simp at hi
    have hs := sortL_sorted L
    have hle : leH (sortL L)[i] (sortL L)[k - 1] := by
      rcases Nat.lt_or_ge i (k - 1) with h2 | h2
      · exact (List.pairwise_iff_getElem.1 hs) i (k - 1) (by omega) (by omega) h2
      · have : i = k - 1 := by omega
        subst this; exact leH_refl _
    rw [aheadB_false, List.getElem_take]
    have e : hnth (sortL L) (k - 1) = (sortL L)[k - 1] := by simp [hnth, List.getD, show k - 1 < (sortL L).length by omega]
    rw [e] at hx
    unfold leH at *
    omega
theorem sumTo_one (f : Nat → Int) (h : ∀ i, 0 ≤ f i) (n j : Nat) (hj : j < n) : f j ≤ sumTo f n := by
  induction n with
  | zero => omega
  | succ n ih =>
    rw [show sumTo f (n + 1) = sumTo f n + f n from rfl]
    have h0 : 0 ≤ sumTo f n := by
      clear ih hj
      induction n with
      | zero => exact Int.le_refl _
      | succ n ih => rw [show sumTo f (n + 1) = sumTo f n + f n from rfl]; have := h n; omega
    rcases Nat.lt_or_ge j n with h1 | h1
    · have := ih h1; have := h n; omega
    · have : j = n := by omega
      subst this; omega
theorem far_axis {a q : List Int} (h : twoB a q = true) {ax : Nat} (hx : ax < a.length) : (nth a ax - nth q ax) * (nth a ax - nth q ax) ≤ farV a q := by
  rw [farV, if_pos h]
  exact sumTo_one (sqF a q) (fun i => sq_nonneg _) a.length ax hx
theorem sq_le {x y : Int} (h0 : 0 ≤ x) (h : x ≤ y) : x * x ≤ y * y := Int.mul_le_mul h h h0 (by omega)
theorem sq_neg (x y : Int) : (x - y) * (x - y) = (y - x) * (y - x) := by
  rw [show x - y = -(y - x) by omega, Int.neg_mul_neg]

/-- The first k of all that were looked at or need not be. -/
theorem seek_first (q : List Int) (k : Nat) (hk : 0 < k) (dim : Nat) (t : Tr) : ∀ (L : List Ht) (n : Int),
    (∀ a ∈ t.marks, twoB a.2 q = true ∧ a.2.length = dim) → t.all Sided → t.all (fun _ x _ _ => x < dim) →
    (seekT q k t ((sortL L).take k, n)).1 = (sortL (L ++ t.marks.map (hitF q))).take k := by
  induction t with
  | leaf => intro L n _ _ _; simp [seekT, Tr.marks]
  | node m ax l r ihl ihr =>
    intro L n hm hs hx
    obtain ⟨⟨hsl, hsr⟩, hs1, hs2⟩ := hs
    obtain ⟨hax, hx1, hx2⟩ := hx
    have hml : ∀ a ∈ l.marks, twoB a.2 q = true ∧ a.2.length = dim := fun a ha => hm a (by simp [Tr.marks, ha])
    have hmr : ∀ a ∈ r.marks, twoB a.2 q = true ∧ a.2.length = dim := fun a ha => hm a (by simp [Tr.marks, ha])
    have h0 : (putL ((sortL L).take k) (hitF q m)).take k = (sortL (L ++ [hitF q m])).take k := by rw [putL_take, sortL_snoc]
    have skip : ∀ (M X : List Ht) (f : Int), gainB ((sortL M).take k) k f = false → (∀ x ∈ X, f ≤ x.2) → (sortL (M ++ X)).take k = (sortL M).take k := by
      intro M X f hg hX
      simp only [gainB, Bool.or_eq_false_iff, decide_eq_false_iff_not] at hg
      have hl : k ≤ (sortL M).length := by have := hg.1; simp at this; omega
      refine sort_far k hk M hl X fun x hx => ?_
      have e : hnth ((sortL M).take k) (k - 1) = hnth (sortL M) (k - 1) := by simp [hnth, List.getD, show k - 1 < k by omega]
      have := hX x hx
      rw [← e]; omega
    simp only [seekT, h0]
    split
    · rename_i hlt
      rw [ihr _ _ hmr hs2 hx2]
      split
      · rename_i hg
        have e : seekT q k r ((sortL (L ++ [hitF q m])).take k, n + 1) = ((sortL ((L ++ [hitF q m]) ++ r.marks.map (hitF q))).take k, (seekT q k r ((sortL (L ++ [hitF q m])).take k, n + 1)).2) := Prod.ext (ihr _ _ hmr hs2 hx2) rfl
        rw [e, ihl _ _ hml hs1 hx1]
        refine congrArg (List.take k) (sortL_congr ?_)
        simp only [Tr.marks, List.map_cons, List.map_append, List.append_assoc, List.singleton_append]
        exact List.Perm.append_left _ (List.Perm.cons _ List.perm_append_comm)
      · rename_i hg
        rw [ihr _ _ hmr hs2 hx2]
        have h2 := skip ((L ++ [hitF q m]) ++ r.marks.map (hitF q)) (l.marks.map (hitF q)) _ (by simpa only [Bool.not_eq_true] using hg) (fun x hx => by
          obtain ⟨a, ha, rfl⟩ := List.mem_map.1 hx
          have h3 := hsl a ha
          have h4 := far_axis (hml a ha).1 (ax := ax) (by rw [(hml a ha).2]; exact hax)
          have h5 := sq_le (x := nth q ax - nth m.2 ax) (y := nth q ax - nth a.2 ax) (by omega) (by omega)
          rw [sq_neg] at h4
          show _ ≤ farV a.2 q
          omega)
        rw [← h2]
        refine congrArg (List.take k) (sortL_congr ?_)
        simp only [Tr.marks, List.map_cons, List.map_append, List.append_assoc, List.singleton_append]
        exact List.Perm.append_left _ (List.Perm.cons _ List.perm_append_comm)
    · rename_i hlt
      rw [ihl _ _ hml hs1 hx1]
      split
      · rename_i hg
        have e : seekT q k l ((sortL (L ++ [hitF q m])).take k, n + 1) = ((sortL ((L ++ [hitF q m]) ++ l.marks.map (hitF q))).take k, (seekT q k l ((sortL (L ++ [hitF q m])).take k, n + 1)).2) := Prod.ext (ihl _ _ hml hs1 hx1) rfl
        rw [e, ihr _ _ hmr hs2 hx2]
        simp [Tr.marks]
      · rename_i hg
        rw [ihl _ _ hml hs1 hx1]
        have h2 := skip ((L ++ [hitF q m]) ++ l.marks.map (hitF q)) (r.marks.map (hitF q)) _ (by simpa only [Bool.not_eq_true] using hg) (fun x hx => by
          obtain ⟨a, ha, rfl⟩ := List.mem_map.1 hx
          have h3 := hsr a ha
          have h4 := far_axis (hmr a ha).1 (ax := ax) (by rw [(hmr a ha).2]; exact hax)
          have h5 := sq_le (x := nth m.2 ax - nth q ax) (y := nth a.2 ax - nth q ax) (by omega) (by omega)
          rw [sq_neg] at h5
          show _ ≤ farV a.2 q
          omega)
        rw [← h2]
        simp [Tr.marks]

/-- Looking for one: both look at as many. -/
def OneOf (near : List Ht) (b : Int) : Prop := (near = [] ∧ b = -1) ∨ ∃ h, near = [h] ∧ h.2 = b ∧ 0 ≤ b
theorem one_put {near : List Ht} {b : Int} (h : OneOf near b) (x : Ht) (hx : 0 ≤ x.2) : OneOf ((putL near x).take 1) (if b < 0 ∨ x.2 < b then x.2 else b) := by
  rcases h with ⟨rfl, rfl⟩ | ⟨y, rfl, rfl, hy⟩
  · exact Or.inr ⟨x, rfl, by simp, by simpa using hx⟩
  · have hy' : ¬ y.2 < 0 := by omega
    by_cases ha : aheadB x y = true
    · simp only [putL, ha, if_true, List.take_succ_cons, List.take_zero]
      refine Or.inr ⟨x, rfl, ?_, ?_⟩
      · rw [aheadB_iff] at ha
        split <;> omega
      · split <;> omega
    · have ha' : aheadB x y = false := by simpa using ha
      simp only [putL, ha']
      have := (aheadB_false x y).1 ha'
      unfold leH at this
      refine Or.inr ⟨y, by simp, ?_, ?_⟩
      · split <;> omega
      · split <;> omega
theorem one_gain {near : List Ht} {b : Int} (h : OneOf near b) (hb : 0 ≤ b) (f : Int) : gainB near 1 f = decide (f ≤ b) := by
  rcases h with ⟨rfl, rfl⟩ | ⟨y, rfl, rfl, hy⟩
  · omega
  · simp [gainB, hnth]
theorem seek_look (q : List Int) (t : Tr) : ∀ (near : List Ht) (b n : Int), OneOf near b → (∀ a ∈ t.marks, twoB a.2 q = true) →
    OneOf (seekT q 1 t (near, n)).1 (lookT q t (b, n)).1 ∧ (seekT q 1 t (near, n)).2 = (lookT q t (b, n)).2 ∧ (t.size ≠ 0 → 0 ≤ (lookT q t (b, n)).1) ∧ (0 ≤ b → 0 ≤ (lookT q t (b, n)).1) := by
  induction t with
  | leaf => intro near b n h _; exact ⟨h, rfl, fun h => absurd rfl h, fun h => h⟩
  | node m ax l r ihl ihr =>
    intro near b n h hm
    have hf := farV_nonneg (hm m (by simp [Tr.marks]))
    have hml : ∀ a ∈ l.marks, twoB a.2 q = true := fun a ha => hm a (by simp [Tr.marks, ha])
    have hmr : ∀ a ∈ r.marks, twoB a.2 q = true := fun a ha => hm a (by simp [Tr.marks, ha])
    have h1 : OneOf ((putL near (hitF q m)).take 1) (if b < 0 ∨ farV m.2 q < b then farV m.2 q else b) := one_put h (hitF q m) hf
    have hb1 : 0 ≤ (if b < 0 ∨ farV m.2 q < b then farV m.2 q else b) := by split <;> omega
    simp only [seekT, lookT]
    generalize (putL near (hitF q m)).take 1 = n1 at h1
    generalize (if b < 0 ∨ farV m.2 q < b then farV m.2 q else b) = b1 at h1 hb1
    generalize hd : nth q ax - nth m.2 ax = d
    by_cases hlt : nth m.2 ax < nth q ax
    · have hlt' : 0 < d := by omega
      rw [if_pos hlt, if_pos hlt']
      obtain ⟨o1, e1, _, p1⟩ := ihr n1 b1 (n + 1) h1 hmr
      have p1 := p1 hb1
      generalize seekT q 1 r (n1, n + 1) = s1 at *
      generalize lookT q r (b1, n + 1) = s2 at *
      obtain ⟨s1a, s1b⟩ := s1
      obtain ⟨s2a, s2b⟩ := s2
      simp only at *
      subst e1
      rw [one_gain o1 p1]
      by_cases hc : d * d ≤ s2a
      · rw [if_pos (by simpa using hc), if_pos hc]
        obtain ⟨o2, e2, _, p2⟩ := ihl s1a s2a s1b o1 hml
        exact ⟨o2, e2, fun _ => p2 p1, fun _ => p2 p1⟩
      · rw [if_neg (by simpa using hc), if_neg hc]
        exact ⟨o1, rfl, fun _ => p1, fun _ => p1⟩
    · have hlt' : ¬ 0 < d := by omega
      rw [if_neg hlt, if_neg hlt']
      obtain ⟨o1, e1, _, p1⟩ := ihl n1 b1 (n + 1) h1 hml
      have p1 := p1 hb1
      generalize seekT q 1 l (n1, n + 1) = s1 at *
      generalize lookT q l (b1, n + 1) = s2 at *
      obtain ⟨s1a, s1b⟩ := s1
      obtain ⟨s2a, s2b⟩ := s2
      simp only at *
      subst e1
      rw [one_gain o1 p1]
      by_cases hc : d * d ≤ s2a
      · rw [if_pos (by simpa using hc), if_pos hc]
        obtain ⟨o2, e2, _, p2⟩ := ihr s1a s2a s1b o1 hmr
        exact ⟨o2, e2, fun _ => p2 p1, fun _ => p2 p1⟩
      · rw [if_neg (by simpa using hc), if_neg hc]
        exact ⟨o1, rfl, fun _ => p1, fun _ => p1⟩
/-- At least one, never more than all. -/
theorem look_count (q : List Int) (t : Tr) : ∀ s : Int × Int, s.2 ≤ (lookT q t s).2 ∧ (lookT q t s).2 ≤ s.2 + t.size ∧ (t.size ≠ 0 → s.2 + 1 ≤ (lookT q t s).2) := by
  induction t with
  | leaf => intro s; simp [lookT, Tr.size]
  | node m ax l r ihl ihr =>
    intro s
    simp only [lookT, Tr.size]
    generalize (if s.1 < 0 ∨ farV m.2 q < s.1 then farV m.2 q else s.1) = b
    have hl := ihl (b, s.2 + 1)
    have hr := ihr (b, s.2 + 1)
    have hl2 := ihl (lookT q r (b, s.2 + 1))
    have hr2 := ihr (lookT q l (b, s.2 + 1))
    simp only at hl hr hl2 hr2
    split <;> split <;> refine ⟨by omega, by omega, fun _ => by omega⟩

def tallV (ks : List Kn) : Int := if knotsB ks = true then ((treeF 60 (knotMs ks) 0).tall : Int) else -1
def lookedV (ks : List Kn) (q : List Int) : Int := if knotsB ks = true ∧ toldB (knotMs ks) q = true then (lookT q (treeF 60 (knotMs ks) 0) (-1, 0)).2 else -1
def foundV (ks : List Kn) (q : List Int) (k : Int) : List Ht := if knotsB ks = true then nearL (knotMs ks) q k else []
theorem knots_tree {ks : List Kn} (h : knotsB ks = true) : marksB (knotMs ks) = true ∧ ks = (treeF 60 (knotMs ks) 0).flat 0 ∧ (treeF 60 (knotMs ks) 0).size = ks.length := by
  simp only [knotsB, Bool.and_eq_true, decide_eq_true_eq] at h
  have h2 : (treeF 60 (knotMs ks) 0).flat 0 = ks := by have := h.2; simpa [halvedV, h.1] using this
  exact ⟨h.1, h2.symm, by rw [← Tr.flat_length _ 0, h2]⟩
theorem told_all {ms : List Mk} {q : List Int} (h : toldB ms q = true) : ∀ a ∈ ms, twoB a.2 q = true := fun a ha => by
  obtain ⟨i, hi, rfl⟩ := List.getElem_of_mem ha
  have := told_two h hi
  simpa [mat, List.getD, hi] using this
/-- What the program finds. -/
theorem seek_found {ms : List Mk} {q : List Int} (ht : toldB ms q = true) (k : Nat) (hk : 0 < k) (n : Int) : (seekT q k (treeF 60 ms 0) ([], n)).1 = (sortL (hitsL ms q)).take k := by
  have hm := told_marks ht
  have hall := told_all ht
  have hlen := marksB_len hm
  have hp := treeF_marks 60 ms 0 hlen
  rcases Nat.eq_zero_or_pos ms.length with h0 | h0
  · have : ms = [] := List.length_eq_zero_iff.1 h0
    subst this; simp [treeF, seekT, hitsL, sortL]
  · have hd : ∀ a ∈ ms, a.2.length = q.length := fun a ha => (twoB_of (hall a ha)).2.2
    have hq := okB_len ((twoB_of (hall ms[0] (List.getElem_mem h0))).2.1)
    have h := seek_first q k hk q.length (treeF 60 ms 0) [] n (fun a ha => ⟨hall a (hp.mem_iff.1 ha), hd a (hp.mem_iff.1 ha)⟩) (treeF_sided 60 ms 0 hlen (marks_sole hm)) (Tr.all_imp (fun m x l r hh => hh.1) _ (treeF_axis 60 ms 0 q.length hlen hd (by omega) (by omega)))
    have e : (sortL ([] : List Ht)).take k = [] := by simp [sortL]
    rw [e] at h
    rw [h, List.nil_append]
    exact congrArg (List.take k) (sortL_congr (hp.map (hitF q)))

end Go.Proofs.Ythddhblmnfjciaa
namespace Go.Proofs.Ythddhblmnfjciaa

theorem gap_comm (a b : List Int) (i : Nat) : gapF a b i = gapF b a i := by unfold gapF; omega
theorem steps_comm (a b : List Int) : stepsV a b = stepsV b a := by
  unfold stepsV
  rw [twoB_comm a b]
  split
  · rename_i h
    rw [(twoB_of h).2.2]
    exact sumTo_congr _ _ _ fun i _ => gap_comm a b i
  · rfl
theorem steps_le (a b : List Int) : -1 ≤ stepsV a b ∧ stepsV a b ≤ 8000 := by
  unfold stepsV
  split
  · rename_i h
    obtain ⟨ha, hb, _⟩ := twoB_of h
    have h4 := okB_len ha
    have := sumTo_le (gapF a b) 0 2000 (gapF_bd ha hb) a.length
    omega
  · omega
theorem steps_nonneg {a b : List Int} (h : twoB a b = true) : 0 ≤ stepsV a b := by
  obtain ⟨ha, hb, _⟩ := twoB_of h
  have := sumTo_le (gapF a b) 0 2000 (gapF_bd ha hb) a.length
  simp [stepsV, h]; omega
/-- By their steps from one, of alike ones by number. -/
def stlt (c : List Int) (a b : Mk) : Bool := decide (stepsV c a.2 < stepsV c b.2) || (decide (stepsV c a.2 = stepsV c b.2) && decide (a.1 < b.1))
theorem stlt_iff (c : List Int) (a b : Mk) : stlt c a b = true ↔ stepsV c a.2 < stepsV c b.2 ∨ (stepsV c a.2 = stepsV c b.2 ∧ a.1 < b.1) := by simp [stlt]
theorem stlt_not (c : List Int) (a b : Mk) : stlt c a b = false ↔ stepsV c b.2 < stepsV c a.2 ∨ (stepsV c a.2 = stepsV c b.2 ∧ b.1 ≤ a.1) := by
  rcases h : stlt c a b with _ | _
  · have : ¬ (stepsV c a.2 < stepsV c b.2 ∨ (stepsV c a.2 = stepsV c b.2 ∧ a.1 < b.1)) := fun hh => by rw [(stlt_iff c a b).2 hh] at h; cases h
    constructor
    · intro _; omega
    · intro _; rfl
  · have := (stlt_iff c a b).1 h
    constructor
    · intro hh; cases hh
    · intro hh; omega
theorem parts_stlt (c : List Int) {ms : List Mk} (h : Sole ms) : Parts (stlt c) (· ∈ ms) where
  trans a b d _ _ _ h1 h2 := by rw [stlt_iff] at *; omega
  one a b ha hb h1 h2 := by rw [stlt_not] at *; exact h a ha b hb (by omega)
  asym a b _ _ h1 := by rw [stlt_iff] at h1; rw [stlt_not]; omega
/-- The greatest steps from one to some. -/
def radF (c : List Int) (ms : List Mk) (i : Nat) : Int := stepsV c (mat ms i)
def radV (c : List Int) (ms : List Mk) : Int := maxTo (radF c ms) ms.length
theorem radV_le (c : List Int) (ms : List Mk) : 0 ≤ radV c ms ∧ radV c ms ≤ 8000 := maxTo_le _ 8000 (by omega) (fun i => (steps_le _ _).2) _
/-- In order the last one is the farthest. -/
theorem radV_last (c : List Int) (ms : List Mk) (hs : SortedBy (stlt c) ms) (h0 : 0 < ms.length) (hn : 0 ≤ stepsV c (mat ms (ms.length - 1))) : radV c ms = stepsV c (mat ms (ms.length - 1)) := by
  have h1 : radV c ms ≤ stepsV c (mat ms (ms.length - 1)) := by
    refine maxTo_lub _ _ _ hn fun j hj => ?_
    rcases Nat.lt_or_ge j (ms.length - 1) with h | h
    · have := (List.pairwise_iff_getElem.1 hs) j (ms.length - 1) hj (by omega) h
      rw [stlt_not] at this
      have e1 : mat ms j = ms[j].2 := by simp [mat, List.getD, hj]
      have e2 : mat ms (ms.length - 1) = ms[ms.length - 1].2 := by simp [mat, List.getD, show ms.length - 1 < ms.length by omega]
      unfold radF
      rw [e1, e2]; omega
    · rw [show j = ms.length - 1 by omega]; exact Int.le_refl _
  have h2 := maxTo_ge (radF c ms) ms.length (ms.length - 1) (by omega)
  have h3 : radF c ms (ms.length - 1) = stepsV c (mat ms (ms.length - 1)) := rfl
  unfold radV at *
  omega
/-- The tree of balls; f: no less than there are. Its second word is the radius. -/
def ballF : Nat → List Mk → Tr
  | 0, _ => .leaf
  | _ + 1, [] => .leaf
  | f + 1, m :: ms => .node m (radV m.2 ((sortBy (stlt m.2) ms).take ((ms.length + 1) / 2))).toNat (ballF f ((sortBy (stlt m.2) ms).take ((ms.length + 1) / 2))) (ballF f ((sortBy (stlt m.2) ms).drop ((ms.length + 1) / 2)))
theorem ballF_none (f : Nat) : ballF f [] = .leaf := by cases f <;> rfl
theorem ballF_marks (f : Nat) (ms : List Mk) (h : ms.length ≤ f) : (ballF f ms).marks.Perm ms := by
  induction f generalizing ms with
  | zero =>
    have : ms = [] := List.length_eq_zero_iff.1 (by omega)
    subst this; exact List.Perm.refl _
  | succ f ih =>
    cases ms with
    | nil => exact List.Perm.refl _
    | cons m ms =>
      have hl := sortBy_length (stlt m.2) ms
      have hp := sortBy_perm (stlt m.2) ms
      simp only [ballF]
      generalize sortBy (stlt m.2) ms = s at hl hp ⊢
      simp at h
      simp only [Tr.marks]
      refine List.Perm.cons _ (((ih _ (by simp; omega)).append (ih _ (by simp; omega))).trans ?_)
      rw [List.take_append_drop]; exact hp
theorem ballF_size (f : Nat) (ms : List Mk) (h : ms.length ≤ f) : (ballF f ms).size = ms.length := by
  rw [← Tr.marks_length, (ballF_marks f ms h).length_eq]
theorem ballF_place (f : Nat) (ms : List Mk) (p : Nat) (h : ms.length ≤ f) : (ballF f ms).place p = if ms.length = 0 then -1 else (p : Int) := by
  match f, ms with
  | 0, ms => rw [if_pos (by omega)]; rfl
  | f + 1, [] => rfl
  | f + 1, m :: ms => rfl
def ballsV (ms : List Mk) : List Kn := if marksB ms = true then (ballF 60 ms).flat 0 else []
def ballsB (ks : List Kn) : Bool := marksB (knotMs ks) && decide (ballsV (knotMs ks) = ks)
theorem ballsV_length (ms : List Mk) (h : marksB ms = true) : (ballsV ms).length = ms.length := by
  rw [ballsV, if_pos h, Tr.flat_length, ballF_size _ _ (marksB_len h)]

end Go.Proofs.Ythddhblmnfjciaa
namespace Go.Proofs.Ythddhblmnfjciaa

/-- A box: its low end and its high end. -/
abbrev Bx := List Int × List Int
def sideB (b : Bx) (i : Nat) : Bool := decide (nth b.1 i ≤ nth b.2 i)
def boxB (b : Bx) : Bool := twoB b.1 b.2 && (List.range b.1.length).all (sideB b)
def toldX (b : Bx) (p : List Int) : Bool := boxB b && twoB b.1 p
def outF (b : Bx) (p : List Int) (i : Nat) : Int := maxV 0 (maxV (nth b.1 i - nth p i) (nth p i - nth b.2 i))
def outQ (b : Bx) (p : List Int) (i : Nat) : Int := outF b p i * outF b p i
def endF (b : Bx) (p : List Int) (i : Nat) : Int := maxV (absV (nth p i - nth b.1 i)) (absV (nth p i - nth b.2 i))
def endQ (b : Bx) (p : List Int) (i : Nat) : Int := endF b p i * endF b p i
def toBoxV (b : Bx) (p : List Int) : Int := if toldX b p = true then sumTo (outQ b p) p.length else -1
def cornerV (b : Bx) (p : List Int) : Int := if toldX b p = true then sumTo (endQ b p) p.length else -1
def insideB (b : Bx) (p : List Int) : Bool := toldX b p && decide (toBoxV b p = 0)
def lowTo (ms : List Mk) (k : Nat) : Nat → Int
  | 0 => nth (mat ms 0) k
  | j + 1 => min (lowTo ms k j) (nth (mat ms (j + 1)) k)
def highTo (ms : List Mk) (k : Nat) : Nat → Int
  | 0 => nth (mat ms 0) k
  | j + 1 => maxV (highTo ms k j) (nth (mat ms (j + 1)) k)
def lowL (ms : List Mk) (j : Nat) : List Int := tabL (fun k => lowTo ms k j) (mat ms 0).length
def highL (ms : List Mk) (j : Nat) : List Int := tabL (fun k => highTo ms k j) (mat ms 0).length
def aroundV (ms : List Mk) : Bx := if ms.length = 0 ∨ marksB ms = false then ([], []) else (lowL ms (ms.length - 1), highL ms (ms.length - 1))
def shLow (a b : Bx) (i : Nat) : Int := maxV (nth a.1 i) (nth b.1 i)
def shHigh (a b : Bx) (i : Nat) : Int := min (nth a.2 i) (nth b.2 i)
def shBox (a b : Bx) : Bx := (tabL (shLow a b) a.1.length, tabL (shHigh a b) a.1.length)
def shOkB (a b : Bx) : Bool := boxB a && boxB b && decide (a.1.length = b.1.length) && boxB (shBox a b)
def sharedV (a b : Bx) : Bx := if shOkB a b = true then shBox a b else ([], [])

theorem boxB_two {b : Bx} (h : boxB b = true) : twoB b.1 b.2 = true := by simp [boxB] at h; exact h.1
theorem boxB_at {b : Bx} (h : boxB b = true) {i : Nat} (hi : i < b.1.length) : nth b.1 i ≤ nth b.2 i := by
  simp only [boxB, Bool.and_eq_true, List.all_eq_true] at h
  have := h.2 i (List.mem_range.2 hi)
  simpa [sideB] using this
theorem boxB_not {b : Bx} (h : twoB b.1 b.2 = false) : boxB b = false := by simp [boxB, h]
theorem boxB_out {b : Bx} {i : Nat} (hi : i < b.1.length) (h : nth b.1 i > nth b.2 i) : boxB b = false := by
  rcases hb : boxB b with _ | _
  · rfl
  · have := boxB_at hb hi; omega
theorem boxB_mk {b : Bx} (h : twoB b.1 b.2 = true) (hs : ∀ i, i < b.1.length → nth b.1 i ≤ nth b.2 i) : boxB b = true := by
  simp only [boxB, Bool.and_eq_true, List.all_eq_true]
  exact ⟨h, fun i hi => by simp [sideB]; exact hs i (List.mem_range.1 hi)⟩
theorem toldX_of {b : Bx} {p : List Int} (h : toldX b p = true) : boxB b = true ∧ twoB b.1 p = true := by simpa [toldX] using h
theorem outF_bd {b : Bx} {p : List Int} (h : toldX b p = true) (i : Nat) : 0 ≤ outF b p i ∧ outF b p i ≤ 2000 := by
  obtain ⟨h1, h2⟩ := toldX_of h
  obtain ⟨a1, a2, _⟩ := twoB_of (boxB_two h1)
  obtain ⟨_, a3, _⟩ := twoB_of h2
  have x1 := okB_at a1 i
  have x2 := okB_at a2 i
  have x3 := okB_at a3 i
  unfold outF maxV
  omega
theorem endF_bd {b : Bx} {p : List Int} (h : toldX b p = true) (i : Nat) : 0 ≤ endF b p i ∧ endF b p i ≤ 2000 := by
  obtain ⟨h1, h2⟩ := toldX_of h
  obtain ⟨a1, a2, _⟩ := twoB_of (boxB_two h1)
  obtain ⟨_, a3, _⟩ := twoB_of h2
  have x1 := okB_at a1 i
  have x2 := okB_at a2 i
  have x3 := okB_at a3 i
  unfold endF maxV absV
  omega
theorem sq_bd {x : Int} (h : 0 ≤ x ∧ x ≤ 2000) : 0 ≤ x * x ∧ x * x ≤ 4000000 := by
  refine ⟨Int.mul_nonneg h.1 h.1, ?_⟩
  have := Int.mul_le_mul h.2 h.2 h.1 (by omega : (0 : Int) ≤ 2000)
  omega
theorem outQ_bd {b : Bx} {p : List Int} (h : toldX b p = true) (i : Nat) : 0 ≤ outQ b p i ∧ outQ b p i ≤ 4000000 := sq_bd (outF_bd h i)
theorem endQ_bd {b : Bx} {p : List Int} (h : toldX b p = true) (i : Nat) : 0 ≤ endQ b p i ∧ endQ b p i ≤ 4000000 := sq_bd (endF_bd h i)

end Go.Proofs.Ythddhblmnfjciaa
namespace Go.Proofs.Ythddhblmnfjciaa

/-- The given look: the least till then, and how many. -/
def leastV (b d : Int) : Int := if b < 0 ∨ d < b then d else b
def lookB (q : List Int) : Tr → Int × Int → Int × Int
  | .leaf, s => s
  | .node m rad l r, s =>
    if (rad : Int) - stepsV m.2 q ≤ (if stepsV m.2 q - (rad : Int) ≤ leastV s.1 (stepsV m.2 q) then lookB q l (leastV s.1 (stepsV m.2 q), s.2 + 1) else (leastV s.1 (stepsV m.2 q), s.2 + 1)).1
    then lookB q r (if stepsV m.2 q - (rad : Int) ≤ leastV s.1 (stepsV m.2 q) then lookB q l (leastV s.1 (stepsV m.2 q), s.2 + 1) else (leastV s.1 (stepsV m.2 q), s.2 + 1))
    else (if stepsV m.2 q - (rad : Int) ≤ leastV s.1 (stepsV m.2 q) then lookB q l (leastV s.1 (stepsV m.2 q), s.2 + 1) else (leastV s.1 (stepsV m.2 q), s.2 + 1))
/-- The program's: the one kept, and how many. -/
def keptB (k h : Ht) : Ht := if k.2 < 0 ∨ aheadB h k = true then h else k
def seekB (q : List Int) : Tr → Ht → Ht × Int
  | .leaf, k => (k, 0)
  | .node m rad l r, k =>
    let d := stepsV q m.2
    let k1 := keptB k (m.1, d)
    let x := if d - (rad : Int) ≤ k1.2 then seekB q l k1 else (k1, 0)
    let y := if (rad : Int) - d ≤ x.1.2 then seekB q r x.1 else (x.1, 0)
    (y.1, 1 + x.2 + y.2)
theorem keptB_2 (k h : Ht) : (keptB k h).2 = leastV k.2 h.2 := by
  unfold keptB leastV
  by_cases h1 : k.2 < 0
  · rw [if_pos (Or.inl h1), if_pos (Or.inl h1)]
  · by_cases h2 : aheadB h k = true
    · rw [if_pos (Or.inr h2)]
      rw [aheadB_iff] at h2
      split <;> omega
    · rw [if_neg (by simp [h1, h2])]
      have := (aheadB_false h k).1 (by simpa using h2)
      unfold leH at this
      split <;> omega
theorem look_seek (q : List Int) (t : Tr) : ∀ (k : Ht) (n : Int), lookB q t (k.2, n) = ((seekB q t k).1.2, n + (seekB q t k).2) := by
  induction t with
  | leaf => intro k n; simp [lookB, seekB]
  | node m rad l r ihl ihr =>
    intro k n
    simp only [lookB, seekB]
    rw [stepsV_comm q m.2]
    generalize stepsV q m.2 = d
    have e := keptB_2 k (m.1, d)
    simp only at e
    rw [← e]
    generalize keptB k (m.1, d) = k1
    by_cases h1 : d - (rad : Int) ≤ k1.2
    · simp only [if_pos h1]
      rw [ihl k1 (n + 1)]
      by_cases h2 : (rad : Int) - d ≤ (seekB q l k1).1.2
      · simp only [if_pos h2]
        rw [ihr]
        exact Prod.ext rfl (by simp only; omega)
      · simp only [if_neg h2]
        exact Prod.ext rfl (by simp only; omega)
    · simp only [if_neg h1]
      by_cases h2 : (rad : Int) - d ≤ k1.2
      · simp only [if_pos h2]
        rw [ihr]
        exact Prod.ext rfl (by simp only; omega)
      · simp only [if_neg h2]
        exact Prod.ext rfl (by simp only; omega)
theorem seek_count (q : List Int) (t : Tr) : ∀ k : Ht, 0 ≤ (seekB q t k).2 ∧ (seekB q t k).2 ≤ t.size ∧ (t.size ≠ 0 → 1 ≤ (seekB q t k).2) := by
  induction t with
  | leaf => intro k; simp [seekB, Tr.size]
  | node m rad l r ihl ihr =>
    intro k
    simp only [seekB, Tr.size]
    generalize stepsV q m.2 = d
    generalize keptB k (m.1, d) = k1
    have hl := ihl k1
    by_cases h1 : d - (rad : Int) ≤ k1.2
    · simp only [if_pos h1]
      have hr := ihr (seekB q l k1).1
      split <;> refine ⟨by omega, by omega, fun _ => by omega⟩
    · simp only [if_neg h1]
      have hr := ihr k1
      split <;> refine ⟨by omega, by omega, fun _ => by omega⟩
/-- The radius of every ball is small. -/
theorem ballF_rad (f : Nat) : ∀ ms : List Mk, (ballF f ms).all fun _ x _ _ => x ≤ 8000 := by
  induction f with
  | zero => intro ms; trivial
  | succ f ih =>
    intro ms
    cases ms with
    | nil => trivial
    | cons m ms =>
      simp only [ballF]
      refine ⟨?_, ih _, ih _⟩
      have := radV_le m.2 ((sortBy (stlt m.2) ms).take ((ms.length + 1) / 2))
      omega
theorem balls_tree {ks : List Kn} (h : ballsB ks = true) : marksB (knotMs ks) = true ∧ ks = (ballF 60 (knotMs ks)).flat 0 ∧ (ballF 60 (knotMs ks)).size = ks.length := by
  simp only [ballsB, Bool.and_eq_true, decide_eq_true_eq] at h
  have h2 : (ballF 60 (knotMs ks)).flat 0 = ks := by have := h.2; simpa [ballsV, h.1] using this
  exact ⟨h.1, h2.symm, by rw [← Tr.flat_length _ 0, h2]⟩
def sparedV (ks : List Kn) (q : List Int) : Int := if ballsB ks = true ∧ toldB (knotMs ks) q = true then (ks.length : Int) - (lookB q (ballF 60 (knotMs ks)) (-1, 0)).2 else -1

end Go.Proofs.Ythddhblmnfjciaa
namespace Go.Proofs.Ythddhblmnfjciaa

/-- Near is within the radius, Apart is not nearer than it. -/
def SidedB (m : Mk) (rad : Nat) (l r : Tr) : Prop := (∀ a ∈ l.marks, stepsV m.2 a.2 ≤ (rad : Int)) ∧ (∀ a ∈ r.marks, (rad : Int) ≤ stepsV m.2 a.2)
theorem ballF_sided (f : Nat) : ∀ ms : List Mk, ms.length ≤ f → Sole ms → (∀ a ∈ ms, ∀ b ∈ ms, 0 ≤ stepsV a.2 b.2) → (ballF f ms).all SidedB := by
  induction f with
  | zero => intro ms _ _ _; trivial
  | succ f ih =>
    intro ms h hS h0
    cases ms with
    | nil => trivial
    | cons m ms =>
      simp only [ballF]
      have hl := sortBy_length (stlt m.2) ms
      have hp := sortBy_perm (stlt m.2) ms
      have hso := sortBy_sorted (parts_stlt m.2 (hS.sub fun a ha => List.mem_cons_of_mem _ ha)) ms (fun y hy => hy)
      have hS2 : Sole (sortBy (stlt m.2) ms) := hS.sub fun a ha => List.mem_cons_of_mem _ (hp.mem_iff.1 ha)
      have h2 : ∀ a ∈ sortBy (stlt m.2) ms, ∀ b ∈ sortBy (stlt m.2) ms, 0 ≤ stepsV a.2 b.2 := fun a ha b hb => h0 a (List.mem_cons_of_mem _ (hp.mem_iff.1 ha)) b (List.mem_cons_of_mem _ (hp.mem_iff.1 hb))
      have h3 : ∀ a ∈ sortBy (stlt m.2) ms, 0 ≤ stepsV m.2 a.2 := fun a ha => h0 m (List.mem_cons_self ..) a (List.mem_cons_of_mem _ (hp.mem_iff.1 ha))
      generalize sortBy (stlt m.2) ms = s at *
      simp at h
      have hr0 := radV_le m.2 (s.take ((ms.length + 1) / 2))
      have er : ((radV m.2 (s.take ((ms.length + 1) / 2))).toNat : Int) = radV m.2 (s.take ((ms.length + 1) / 2)) := by omega
      refine ⟨⟨fun a ha => ?_, fun a ha => ?_⟩, ih _ (by simp; omega) (hS2.sub fun a ha => List.mem_of_mem_take ha) (fun a ha b hb => h2 a (List.mem_of_mem_take ha) b (List.mem_of_mem_take hb)), ih _ (by simp; omega) (hS2.sub fun a ha => List.mem_of_mem_drop ha) (fun a ha b hb => h2 a (List.mem_of_mem_drop ha) b (List.mem_of_mem_drop hb))⟩
      · have h1 := (ballF_marks f _ (by simp; omega)).mem_iff.1 ha
        obtain ⟨i, hi, rfl⟩ := List.getElem_of_mem h1
        have hg := maxTo_ge (radF m.2 (s.take ((ms.length + 1) / 2))) (s.take ((ms.length + 1) / 2)).length i hi
        have e : radF m.2 (s.take ((ms.length + 1) / 2)) i = stepsV m.2 ((s.take ((ms.length + 1) / 2))[i]).2 := by simp only [radF, mat, List.getD, List.getElem?_eq_getElem hi, Option.getD_some]
        rw [er, ← e]; exact hg
      · have h1 := (ballF_marks f _ (by simp; omega)).mem_iff.1 ha
        have hn := h3 a (List.mem_of_mem_drop h1)
        obtain ⟨i, hi, rfl⟩ := List.getElem_of_mem h1
        rw [er]
        refine maxTo_lub _ _ _ hn fun j hj => ?_
        simp at hi hj
        have := (List.pairwise_iff_getElem.1 hso) j ((ms.length + 1) / 2 + i) (by omega) (by omega) (by omega)
        rw [stlt_not] at this
        have e : radF m.2 (s.take ((ms.length + 1) / 2)) j = stepsV m.2 (s[j]'(by omega)).2 := by
          have hj2 : j < (s.take ((ms.length + 1) / 2)).length := by simp; omega
          simp only [radF, mat, List.getD, List.getElem?_eq_getElem hj2, Option.getD_some, List.getElem_take]
        rw [e, List.getElem_drop]
        omega
/-- The least of one and of some. -/
def LeastH (q : List Int) (k : Ht) (M : List Mk) (r : Ht) : Prop := (r = k ∨ ∃ m ∈ M, r = (m.1, stepsV q m.2)) ∧ leH r k ∧ ∀ m ∈ M, leH r (m.1, stepsV q m.2)
theorem LeastH.refl (q : List Int) (k : Ht) (M : List Mk) (h : ∀ m ∈ M, leH k (m.1, stepsV q m.2)) : LeastH q k M k := ⟨Or.inl rfl, leH_refl k, h⟩
theorem LeastH.join {q : List Int} {k r s : Ht} {M N : List Mk} (h1 : LeastH q k M r) (h2 : LeastH q r N s) : LeastH q k (M ++ N) s := by
  refine ⟨?_, leH_trans h2.2.1 h1.2.1, fun m hm => ?_⟩
  · rcases h2.1 with e | ⟨m, hm, e⟩
    · rcases h1.1 with e1 | ⟨m, hm, e1⟩
      · exact Or.inl (e.trans e1)
      · exact Or.inr ⟨m, List.mem_append_left _ hm, e.trans e1⟩
    · exact Or.inr ⟨m, List.mem_append_right _ hm, e⟩
  · rcases List.mem_append.1 hm with h | h
    · exact leH_trans h2.2.1 (h1.2.2 m h)
    · exact h2.2.2 m h
theorem keep_least (q : List Int) (k : Ht) (hk : 0 ≤ k.2) (m : Mk) : LeastH q k [m] (keptB k (m.1, stepsV q m.2)) := by
  unfold keptB
  by_cases h2 : aheadB (m.1, stepsV q m.2) k = true
  · rw [if_pos (Or.inr h2)]
    exact ⟨Or.inr ⟨m, List.mem_singleton.2 rfl, rfl⟩, leH_of_ahead h2, fun x hx => by rw [List.mem_singleton.1 hx]; exact leH_refl _⟩
  · rw [if_neg (by simp [h2]; omega)]
    exact LeastH.refl q k _ fun x hx => by rw [List.mem_singleton.1 hx]; exact (aheadB_false _ _).1 (by simpa using h2)
theorem LeastH.pos {q : List Int} {k r : Ht} {M : List Mk} (h : LeastH q k M r) (hk : 0 ≤ k.2) (hM : ∀ m ∈ M, twoB q m.2 = true) : 0 ≤ r.2 := by
  rcases h.1 with e | ⟨m, hm, e⟩
  · rw [e]; exact hk
  · rw [e]; exact steps_nonneg (hM m hm)
theorem seek_least (q : List Int) (t : Tr) : ∀ k : Ht, 0 ≤ k.2 → (∀ a ∈ t.marks, twoB q a.2 = true) → t.all SidedB → LeastH q k t.marks (seekB q t k).1 := by
  induction t with
  | leaf => intro k _ _ _; exact LeastH.refl q k _ (by simp [Tr.marks])
  | node m rad l r ihl ihr =>
    intro k hk hM hs
    obtain ⟨⟨hsl, hsr⟩, hal, har⟩ := hs
    have hm : twoB q m.2 = true := hM m (by simp [Tr.marks])
    have hml : ∀ a ∈ l.marks, twoB q a.2 = true := fun a ha => hM a (by simp [Tr.marks, ha])
    have hmr : ∀ a ∈ r.marks, twoB q a.2 = true := fun a ha => hM a (by simp [Tr.marks, ha])
    simp only [seekB]
    have H1 := keep_least q k hk m
    have p1 := H1.pos hk (fun x hx => by rw [List.mem_singleton.1 hx]; exact hm)
    have d0 := steps_nonneg hm
    generalize keptB k (m.1, stepsV q m.2) = k1 at *
    have H2 : LeastH q k1 l.marks (if stepsV q m.2 - (rad : Int) ≤ k1.2 then seekB q l k1 else (k1, 0)).1 := by
      split
      · exact ihl k1 p1 hml hal
      · rename_i h
        refine LeastH.refl q k1 _ fun a ha => ?_
        have h1 := hsl a ha
        have h2 := (third hm (hml a ha)).2.2.2.2.2.2.2.2.2.2.2.2.2.2.2.1
        rw [stepsV_comm m.2 a.2] at h2
        unfold leH
        simp only
        omega
    have p2 := H2.pos p1 hml
    generalize (if stepsV q m.2 - (rad : Int) ≤ k1.2 then seekB q l k1 else (k1, 0)) = x at *
    have H3 : LeastH q x.1 r.marks (if (rad : Int) - stepsV q m.2 ≤ x.1.2 then seekB q r x.1 else (x.1, 0)).1 := by
      split
      · exact ihr x.1 p2 hmr har
      · rename_i h
        refine LeastH.refl q x.1 _ fun a ha => ?_
        have h1 := hsr a ha
        have hma : twoB m.2 a.2 = true := twoB_true (twoB_of hm).2.1 (twoB_of (hmr a ha)).2.1 (by have := (twoB_of hm).2.2; have := (twoB_of (hmr a ha)).2.2; omega)
        have h2 := (third hma (c := q) (by rw [twoB_comm]; exact hm)).2.2.2.2.2.2.2.2.2.2.2.2.2.2.2.1
        rw [stepsV_comm q m.2] at h2
        unfold leH
        simp only
        omega
    exact H1.join (M := [m]) (H2.join H3)
/-- The place of the first one with the least steps. -/
def bestS (ms : List Mk) (q : List Int) : Nat → Nat
  | 0 => 0
  | n + 1 => if stepsV (mat ms n) q < stepsV (mat ms (bestS ms q n)) q then n else bestS ms q n
theorem bestS_lt (ms : List Mk) (q : List Int) (n : Nat) (h : 0 < n) : bestS ms q n < n := by
  induction n with
  | zero => omega
  | succ n ih =>
    simp only [bestS]
    split
    · omega
    · rcases Nat.eq_zero_or_pos n with h0 | h0
      · subst h0; simp [bestS]
      · have := ih h0; omega
theorem bestS_le (ms : List Mk) (q : List Int) (n : Nat) : bestS ms q n ≤ n := by
  rcases Nat.eq_zero_or_pos n with h | h
  · subst h; simp [bestS]
  · exact Nat.le_of_lt (bestS_lt ms q n h)
theorem bestS_least (ms : List Mk) (q : List Int) (n : Nat) : ∀ j, j < n → stepsV (mat ms (bestS ms q n)) q < stepsV (mat ms j) q ∨ (stepsV (mat ms (bestS ms q n)) q = stepsV (mat ms j) q ∧ bestS ms q n ≤ j) := by
  induction n with
  | zero => intro j h; omega
  | succ n ih =>
    intro j h
    simp only [bestS]
    have hb := bestS_le ms q n
    split
    · rename_i hlt
      rcases Nat.lt_or_ge j n with h1 | h1
      · have := ih j h1; omega
      · rw [show j = n by omega]; omega
    · rename_i hlt
      rcases Nat.lt_or_ge j n with h1 | h1
      · exact ih j h1
      · rw [show j = n by omega]; omega
def closestV (ks : List Kn) (q : List Int) : Ht := if ballsB ks = true ∧ toldB (knotMs ks) q = true ∧ ks.length ≠ 0 then (mid (knotMs ks) (bestS (knotMs ks) q ks.length), stepsV (mat (knotMs ks) (bestS (knotMs ks) q ks.length)) q) else (0, -1)
/-- What the program keeps is what the given tells. -/
theorem seek_closest {ks : List Kn} {q : List Int} (hb : ballsB ks = true) (ht : toldB (knotMs ks) q = true) : (seekB q (ballF 60 (knotMs ks)) (0, -1)).1 = closestV ks q := by
  obtain ⟨hmk, hf, hz⟩ := balls_tree hb
  have hlen := marksB_len hmk
  have hpm := ballF_marks 60 (knotMs ks) hlen
  have hml : (knotMs ks).length = ks.length := by rw [← hpm.length_eq, Tr.marks_length, hz]
  have hall := told_all ht
  have hrise := marks_rise hmk
  have hsd := ballF_sided 60 (knotMs ks) hlen (marks_sole hmk) (fun a ha b hb => steps_nonneg (twoB_true (twoB_of (hall a ha)).1 (twoB_of (hall b hb)).1 (by have := (twoB_of (hall a ha)).2.2; have := (twoB_of (hall b hb)).2.2; omega)))
  rcases Nat.eq_zero_or_pos ks.length with h0 | h0
  · have e : knotMs ks = [] := List.length_eq_zero_iff.1 (by omega)
    rw [closestV, if_neg (by intro h; exact h.2.2 h0), e]
    simp [ballF, seekB]
  · rw [closestV, if_pos ⟨hb, ht, by omega⟩]
    generalize ballF 60 (knotMs ks) = t at *
    cases t with
    | leaf => simp [Tr.size] at hz; omega
    | node m rad l r =>
      have hM : ∀ a ∈ (Tr.node m rad l r).marks, twoB q a.2 = true := fun a ha => by rw [twoB_comm]; exact hall a (hpm.mem_iff.1 ha)
      have hm : twoB q m.2 = true := hM m (by simp [Tr.marks])
      have e1 : seekB q (.node m rad l r) (0, -1) = seekB q (.node m rad l r) (m.1, stepsV q m.2) := by
        have a1 : keptB (0, -1) (m.1, stepsV q m.2) = (m.1, stepsV q m.2) := by unfold keptB; rw [if_pos (Or.inl (by simp))]
        have a2 : keptB (m.1, stepsV q m.2) (m.1, stepsV q m.2) = (m.1, stepsV q m.2) := by unfold keptB; split <;> rfl
        simp only [seekB, a1, a2]
      rw [e1]
      have H := seek_least q (.node m rad l r) (m.1, stepsV q m.2) (steps_nonneg hm) hM hsd
      generalize (seekB q (.node m rad l r) (m.1, stepsV q m.2)).1 = x at *
      have hx : ∃ a ∈ knotMs ks, x = (a.1, stepsV q a.2) := by
        rcases H.1 with e | ⟨a, ha, e⟩
        · exact ⟨m, hpm.mem_iff.1 (by simp [Tr.marks]), e⟩
        · exact ⟨a, hpm.mem_iff.1 ha, e⟩
      have hall2 : ∀ a ∈ knotMs ks, leH x (a.1, stepsV q a.2) := fun a ha => H.2.2 a (hpm.mem_iff.2 ha)
      have hbl := bestS_lt (knotMs ks) q ks.length h0
      have hbest := bestS_least (knotMs ks) q ks.length
      generalize bestS (knotMs ks) q ks.length = b at *
      have eb : ∀ j (h : j < (knotMs ks).length), mat (knotMs ks) j = (knotMs ks)[j].2 ∧ mid (knotMs ks) j = (knotMs ks)[j].1 := fun j h => by simp [mat, mid, List.getD, h]
      have hb1 : b < (knotMs ks).length := by omega
      refine leH_antisymm ?_ ?_
      · have := hall2 _ (List.getElem_mem hb1)
        rw [(eb b hb1).1, (eb b hb1).2, ← stepsV_comm]
        exact this
      · obtain ⟨a, ha, rfl⟩ := hx
        obtain ⟨j, hj, rfl⟩ := List.getElem_of_mem ha
        have h1 := hbest j (by omega)
        have h2 : b ≤ j → (knotMs ks)[b].1 ≤ (knotMs ks)[j].1 := fun h => by
          rcases Nat.lt_or_ge b j with h3 | h3
          · exact Int.le_of_lt ((List.pairwise_iff_getElem.1 hrise) b j hb1 hj h3)
          · have : b = j := by omega
            subst this; exact Int.le_refl _
        rw [(eb b hb1).1, (eb j hj).1, stepsV_comm q (knotMs ks)[j].2] at h1
        rw [(eb b hb1).1, (eb b hb1).2]
        unfold leH
        simp only
        omega

end Go.Proofs.Ythddhblmnfjciaa
