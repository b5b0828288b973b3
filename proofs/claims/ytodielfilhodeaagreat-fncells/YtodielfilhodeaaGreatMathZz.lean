/-
  Plain mathematics for the laws of chapter 1 (no program is named here): what a point is, the sums over two points, and what holds of them.
  Plain mathematics of Steps, Reach, Far and Dot over two and three points (no program is named here).
  Plain mathematics for the laws of chapter 2 (no program is named here): marks, the distance by kind, the diameter and the middle.
  Plain mathematics for the laws of chapter 7 (no program is named here): numbers divided and rounded down, the cell of a point.
  Plain mathematics for the laws of chapter 7 (no program is named here): groups by a key, in the order of their first ones.
  Plain mathematics for the laws of chapter 3 (no program is named here): hits, their order, the sorted list, the first ones, each number once.
  Plain mathematics for the laws of chapter 5 (no program is named here): marks by a number of theirs, the tree of halves, its knots in a list, its height.
  Plain mathematics for the laws of chapter 4 (no program is named here): boxes.
  Plain mathematics for the laws of the nearest (no program is named here).
  Plain mathematics for the law of merging (no program is named here).
  Plain mathematics of a heap of hits in a list (no program is named here): what a step up and a step down keep, and that the first is the least.
-/
namespace Go.Proofs.YtodielfilhodeaaGreat

/-- The i-th number, 0 behind the end. -/
def nth (xs : List Int) (i : Nat) : Int := xs.getD i 0
def inB (x : Int) : Bool := decide (-1000 ≤ x) && decide (x ≤ 1000)
def okB (xs : List Int) : Bool := decide (1 ≤ xs.length) && decide (xs.length ≤ 4) && xs.all inB
def twoB (a b : List Int) : Bool := okB a && okB b && decide (a.length = b.length)
def sumTo (f : Nat → Int) : Nat → Int
  | 0 => 0
  | k + 1 => sumTo f k + f k
def maxTo (f : Nat → Int) : Nat → Int
  | 0 => 0
  | k + 1 => max (maxTo f k) (f k)
def sqF (a b : List Int) (i : Nat) : Int := (nth a i - nth b i) * (nth a i - nth b i)
def mulF (a b : List Int) (i : Nat) : Int := nth a i * nth b i
def gapF (a b : List Int) (i : Nat) : Int := max (nth a i - nth b i) (nth b i - nth a i)
def addF (a b : List Int) (i : Nat) : Int := nth a i + nth b i
def farV (a b : List Int) : Int := if twoB a b = true then sumTo (sqF a b) a.length else -1
def dotV (a b : List Int) : Int := if twoB a b = true then sumTo (mulF a b) a.length else 0
def stepsV (a b : List Int) : Int := if twoB a b = true then sumTo (gapF a b) a.length else -1
def reachV (a b : List Int) : Int := if twoB a b = true then maxTo (gapF a b) a.length else -1
def tabL (f : Nat → Int) (n : Nat) : List Int := (List.range n).map f
def movedL (a b : List Int) : List Int := if twoB a b = true then (if okB (tabL (addF a b) a.length) = true then tabL (addF a b) a.length else []) else []

theorem inB_iff (x : Int) : inB x = true ↔ -1000 ≤ x ∧ x ≤ 1000 := by simp [inB]

theorem okB_len {xs : List Int} (h : okB xs = true) : 1 ≤ xs.length ∧ xs.length ≤ 4 := by
  simp [okB] at h; omega

theorem okB_at {xs : List Int} (h : okB xs = true) (i : Nat) : -1000 ≤ nth xs i ∧ nth xs i ≤ 1000 := by
  simp only [okB, Bool.and_eq_true, List.all_eq_true] at h
  by_cases hi : i < xs.length
  · have := h.2 xs[i] (List.getElem_mem hi)
    rw [inB_iff] at this
    simpa [nth, List.getD, hi] using this
  · simp [nth, List.getD, hi]

theorem okB_mk {xs : List Int} (h1 : 1 ≤ xs.length) (h4 : xs.length ≤ 4) (h : ∀ i, i < xs.length → -1000 ≤ nth xs i ∧ nth xs i ≤ 1000) : okB xs = true := by
  simp only [okB, Bool.and_eq_true, List.all_eq_true, decide_eq_true_eq]
  refine ⟨⟨h1, h4⟩, fun x hx => ?_⟩
  obtain ⟨i, hi, rfl⟩ := List.getElem_of_mem hx
  rw [inB_iff]
  have := h i hi
  simpa [nth, List.getD, hi] using this

theorem okB_short {xs : List Int} (h : xs.length < 1) : okB xs = false := by simp [okB]; omega
theorem okB_long {xs : List Int} (h : 4 < xs.length) : okB xs = false := by simp [okB]; omega
theorem okB_out {xs : List Int} (i : Nat) (h : nth xs i < -1000 ∨ 1000 < nth xs i) : okB xs = false := by
  rcases hb : okB xs with _ | _
  · rfl
  · have := okB_at hb i; omega

theorem twoB_of {a b : List Int} (h : twoB a b = true) : okB a = true ∧ okB b = true ∧ a.length = b.length := by
  simp [twoB] at h; exact ⟨h.1.1, h.1.2, h.2⟩

theorem sumTo_le (f : Nat → Int) (lo hi : Int) (h : ∀ i, lo ≤ f i ∧ f i ≤ hi) (k : Nat) : lo * k ≤ sumTo f k ∧ sumTo f k ≤ hi * k := by
  induction k with
  | zero => simp [sumTo]
  | succ k ih =>
    have := h k
    simp only [sumTo]
    rw [show ((k + 1 : Nat) : Int) = (k : Int) + 1 by omega, Int.mul_add, Int.mul_add]
    omega

theorem maxTo_le (f : Nat → Int) (hi : Int) (h0 : 0 ≤ hi) (h : ∀ i, f i ≤ hi) (k : Nat) : 0 ≤ maxTo f k ∧ maxTo f k ≤ hi := by
  induction k with
  | zero => simp [maxTo]; exact h0
  | succ k ih => have := h k; simp only [maxTo]; omega

theorem sq_nonneg (x : Int) : 0 ≤ x * x := by
  rcases Int.le_total 0 x with h | h
  · exact Int.mul_nonneg h h
  · have := Int.mul_nonneg (a := -x) (b := -x) (by omega) (by omega)
    rwa [Int.neg_mul_neg] at this

theorem mul_bd {x y m : Int} (_hm : 0 ≤ m) (hx : -m ≤ x ∧ x ≤ m) (hy : -m ≤ y ∧ y ≤ m) : -(m * m) ≤ x * y ∧ x * y ≤ m * m := by
  have a1 := Int.mul_nonneg (a := m - x) (b := m + y) (by omega) (by omega)
  have a2 := Int.mul_nonneg (a := m + x) (b := m - y) (by omega) (by omega)
  have a3 := Int.mul_nonneg (a := m - x) (b := m - y) (by omega) (by omega)
  have a4 := Int.mul_nonneg (a := m + x) (b := m + y) (by omega) (by omega)
  simp only [Int.mul_add, Int.add_mul, Int.mul_sub, Int.sub_mul] at a1 a2 a3 a4
  rw [Int.mul_comm m y] at *
  generalize x * y = p at *
  generalize x * m = q at *
  generalize y * m = r at *
  generalize m * m = s at *
  omega

theorem sqF_bd {a b : List Int} (ha : okB a = true) (hb : okB b = true) (i : Nat) : 0 ≤ sqF a b i ∧ sqF a b i ≤ 4000000 := by
  have h1 := okB_at ha i; have h2 := okB_at hb i
  refine ⟨sq_nonneg _, ?_⟩
  have := (mul_bd (x := nth a i - nth b i) (y := nth a i - nth b i) (m := 2000) (by omega) (by omega) (by omega)).2
  simpa [sqF] using this

theorem mulF_bd {a b : List Int} (ha : okB a = true) (hb : okB b = true) (i : Nat) : -1000000 ≤ mulF a b i ∧ mulF a b i ≤ 1000000 := by
  have h1 := okB_at ha i; have h2 := okB_at hb i
  have := mul_bd (x := nth a i) (y := nth b i) (m := 1000) (by omega) (by omega) (by omega)
  simpa [mulF] using this

theorem gapF_bd {a b : List Int} (ha : okB a = true) (hb : okB b = true) (i : Nat) : 0 ≤ gapF a b i ∧ gapF a b i ≤ 2000 := by
  have h1 := okB_at ha i; have h2 := okB_at hb i
  unfold gapF; omega

theorem addF_bd {a b : List Int} (ha : okB a = true) (hb : okB b = true) (i : Nat) : -2000 ≤ addF a b i ∧ addF a b i ≤ 2000 := by
  have h1 := okB_at ha i; have h2 := okB_at hb i
  unfold addF; omega

theorem tabL_length (f : Nat → Int) (n : Nat) : (tabL f n).length = n := by simp [tabL]
theorem tabL_getD (f : Nat → Int) (n i : Nat) (h : i < n) : nth (tabL f n) i = f i := by simp [nth, tabL, List.getD, h]
theorem tabL_succ (f : Nat → Int) (n : Nat) : tabL f (n + 1) = tabL f n ++ [f n] := by simp [tabL, List.range_succ]
theorem sumTo_congr (f g : Nat → Int) (n : Nat) (h : ∀ i, i < n → f i = g i) : sumTo f n = sumTo g n := by
  induction n with
  | zero => rfl
  | succ n ih => simp only [sumTo]; rw [ih (fun i hi => h i (by omega)), h n (by omega)]
theorem maxTo_congr (f g : Nat → Int) (n : Nat) (h : ∀ i, i < n → f i = g i) : maxTo f n = maxTo g n := by
  induction n with
  | zero => rfl
  | succ n ih => simp only [maxTo]; rw [ih (fun i hi => h i (by omega)), h n (by omega)]


def absV (x : Int) : Int := max x (-x)
def maxV (x y : Int) : Int := max x y
theorem gapF_abs (a b : List Int) (i : Nat) : gapF a b i = absV (nth a i - nth b i) := by unfold gapF absV; omega
theorem twoB_true {a b : List Int} (ha : okB a = true) (hb : okB b = true) (hl : a.length = b.length) : twoB a b = true := by simp [twoB, ha, hb, hl]
theorem twoB_left {a b : List Int} (ha : okB a = false) : twoB a b = false := by simp [twoB, ha]
theorem twoB_right {a b : List Int} (hb : okB b = false) : twoB a b = false := by simp [twoB, hb]
theorem twoB_len {a b : List Int} (hl : ¬ a.length = b.length) : twoB a b = false := by simp [twoB, hl]

end Go.Proofs.YtodielfilhodeaaGreat
namespace Go.Proofs.YtodielfilhodeaaGreat
set_option linter.unusedSimpArgs false

theorem list_eq_of_nth {xs ys : List Int} (hl : xs.length = ys.length) (h : ∀ j, j < xs.length → nth xs j = nth ys j) : xs = ys := by
  apply List.ext_getElem hl
  intro i h1 h2
  have := h i h1
  simpa [nth, List.getD, h1, h2] using this
theorem twoB_comm (a b : List Int) : twoB a b = twoB b a := by
  rcases h1 : okB a with _ | _ <;> rcases h2 : okB b with _ | _ <;> simp [twoB, h1, h2, eq_comm]
theorem gapF_comm (a b : List Int) (i : Nat) : gapF a b i = gapF b a i := by unfold gapF; omega
theorem mulF_comm (a b : List Int) (i : Nat) : mulF a b i = mulF b a i := Int.mul_comm _ _
theorem sqF_gap (a b : List Int) (i : Nat) : sqF a b i = gapF a b i * gapF a b i := by
  unfold sqF gapF
  rcases Int.le_total (nth a i - nth b i) (nth b i - nth a i) with h | h
  · rw [Int.max_eq_right h, show nth b i - nth a i = -(nth a i - nth b i) by omega, Int.neg_mul_neg]
  · rw [Int.max_eq_left h]
theorem stepsV_comm (a b : List Int) : stepsV b a = stepsV a b := by
  unfold stepsV
  rw [twoB_comm b a]
  by_cases h : twoB a b = true
  · rw [if_pos h, if_pos h, (twoB_of h).2.2]; exact sumTo_congr _ _ _ (fun i _ => gapF_comm b a i)
  · rw [if_neg h, if_neg h]
theorem reachV_comm (a b : List Int) : reachV b a = reachV a b := by
  unfold reachV
  rw [twoB_comm b a]
  by_cases h : twoB a b = true
  · rw [if_pos h, if_pos h, (twoB_of h).2.2]; exact maxTo_congr _ _ _ (fun i _ => gapF_comm b a i)
  · rw [if_neg h, if_neg h]
theorem dotV_comm (a b : List Int) : dotV b a = dotV a b := by
  unfold dotV
  rw [twoB_comm b a]
  by_cases h : twoB a b = true
  · rw [if_pos h, if_pos h, (twoB_of h).2.2]; exact sumTo_congr _ _ _ (fun i _ => mulF_comm b a i)
  · rw [if_neg h, if_neg h]

theorem sum_third (f g h : Nat → Int) (H : ∀ i, f i ≤ g i + h i) (n : Nat) : sumTo f n ≤ sumTo g n + sumTo h n := by
  induction n with
  | zero => simp [sumTo]
  | succ n ih => have := H n; simp only [sumTo]; omega
theorem max_third (f g h : Nat → Int) (H : ∀ i, f i ≤ g i + h i) (n : Nat) : maxTo f n ≤ maxTo g n + maxTo h n := by
  induction n with
  | zero => simp [maxTo]
  | succ n ih => have := H n; simp only [maxTo]; omega
theorem gap_third (a b c : List Int) (i : Nat) : gapF a b i ≤ gapF a c i + gapF c b i := by unfold gapF; omega

theorem max_le_sum (g : Nat → Int) (h : ∀ i, 0 ≤ g i) (n : Nat) : maxTo g n ≤ sumTo g n := by
  have h0 : ∀ n, 0 ≤ sumTo g n := fun n => by
    induction n with
    | zero => simp [sumTo]
    | succ n ih => have := h n; simp only [sumTo]; omega
  induction n with
  | zero => simp [maxTo, sumTo]
  | succ n ih => have := h n; have := h0 n; simp only [maxTo, sumTo]; omega
theorem sum_le_max (g : Nat → Int) (n : Nat) : sumTo g n ≤ n * maxTo g n := by
  induction n with
  | zero => simp [sumTo]
  | succ n ih =>
    simp only [sumTo, maxTo]
    have h1 : (n : Int) * maxTo g n ≤ n * max (maxTo g n) (g n) := Int.mul_le_mul_of_nonneg_left (by omega) (by omega)
    rw [show ((n + 1 : Nat) : Int) = (n : Int) + 1 by omega, Int.add_mul]
    omega
theorem sumsq_nonneg (g : Nat → Int) (n : Nat) : 0 ≤ sumTo (fun i => g i * g i) n := by
  induction n with
  | zero => simp [sumTo]
  | succ n ih => have := sq_nonneg (g n); simp only [sumTo]; omega
theorem max_sq (g : Nat → Int) (n : Nat) : maxTo g n * maxTo g n ≤ sumTo (fun i => g i * g i) n := by
  induction n with
  | zero => simp [maxTo, sumTo]
  | succ n ih =>
    simp only [maxTo, sumTo]
    have h1 := sq_nonneg (g n)
    have h2 := sumsq_nonneg g n
    rcases Int.le_total (maxTo g n) (g n) with h | h
    · rw [Int.max_eq_right h]; omega
    · rw [Int.max_eq_left h]; omega
theorem sumsq_le (g : Nat → Int) (h : ∀ i, 0 ≤ g i) (n : Nat) : 0 ≤ sumTo g n ∧ sumTo (fun i => g i * g i) n ≤ sumTo g n * sumTo g n := by
  induction n with
  | zero => simp [sumTo]
  | succ n ih =>
    have h1 := h n
    have h2 := Int.mul_nonneg ih.1 h1
    simp only [sumTo]
    refine ⟨by omega, ?_⟩
    rw [Int.mul_add, Int.add_mul, Int.add_mul, Int.mul_comm (g n) (sumTo g n)]
    omega
theorem sum_sq_le (g : Nat → Int) (n : Nat) : sumTo g n * sumTo g n ≤ n * sumTo (fun i => g i * g i) n := by
  induction n with
  | zero => simp [sumTo]
  | succ n ih =>
    simp only [sumTo]
    generalize hs : sumTo g n = s at *
    generalize hq : sumTo (fun i => g i * g i) n = q at *
    generalize hx : g n = x at *
    rcases Nat.eq_zero_or_pos n with h0 | h0
    · subst h0
      have e1 : s = 0 := by rw [← hs]; rfl
      have e2 : q = 0 := by rw [← hq]; rfl
      rw [e1, e2]; simp
    · have hk : (0 : Int) < (n : Int) := by omega
      rw [show ((n + 1 : Nat) : Int) = (n : Int) + 1 by omega]
      generalize (n : Int) = k at *
      have h1 : 0 ≤ k * (q + k * (x * x) - 2 * (s * x)) := by
        have := sq_nonneg (s - k * x)
        have e : (s - k * x) * (s - k * x) = s * s + k * (k * (x * x) - 2 * (s * x)) := by (try simp only [Int.two_mul]); simp only [Int.mul_add, Int.add_mul, Int.mul_sub, Int.sub_mul, Int.one_mul, Int.mul_one, Int.mul_comm, Int.mul_left_comm, Int.mul_assoc]; omega
        have e2 : k * (q + k * (x * x) - 2 * (s * x)) = k * q + k * (k * (x * x) - 2 * (s * x)) := by (try simp only [Int.two_mul]); simp only [Int.mul_add, Int.add_mul, Int.mul_sub, Int.sub_mul, Int.one_mul, Int.mul_one, Int.mul_comm, Int.mul_left_comm, Int.mul_assoc]; omega
        omega
      have h2 : 0 ≤ q + k * (x * x) - 2 * (s * x) := by
        rcases Int.lt_or_le (q + k * (x * x) - 2 * (s * x)) 0 with h | h
        · have := Int.mul_lt_mul_of_pos_left h hk
          omega
        · exact h
      have e3 : (s + x) * (s + x) = s * s + 2 * (s * x) + x * x := by (try simp only [Int.two_mul]); simp only [Int.mul_add, Int.add_mul, Int.mul_sub, Int.sub_mul, Int.one_mul, Int.mul_one, Int.mul_comm, Int.mul_left_comm, Int.mul_assoc]; omega
      have e4 : (k + 1) * (q + x * x) = k * q + q + k * (x * x) + x * x := by (try simp only [Int.two_mul]); simp only [Int.mul_add, Int.add_mul, Int.mul_sub, Int.sub_mul, Int.one_mul, Int.mul_one, Int.mul_comm, Int.mul_left_comm, Int.mul_assoc]; omega
      omega
theorem sum_zero (g : Nat → Int) (h : ∀ i, 0 ≤ g i) (n : Nat) (hz : sumTo g n = 0) : ∀ i, i < n → g i = 0 := by
  induction n with
  | zero => intro i hi; omega
  | succ n ih =>
    have h1 := h n
    have h2 := (sumsq_le g h n).1
    simp only [sumTo] at hz
    intro i hi
    rcases Nat.lt_or_ge i n with h3 | h3
    · exact ih (by omega) i h3
    · rw [show i = n by omega]; omega

/-- What the law of the third side asks, of two points a, b and a third one c. -/
theorem third {a b c : List Int} (hab : twoB a b = true) (hac : twoB a c = true) :
    0 ≤ stepsV a b ∧ stepsV a b ≤ 8000 ∧ 0 ≤ reachV a b ∧ reachV a b ≤ 2000 ∧ 0 ≤ farV a b ∧ farV a b ≤ 16000000 ∧
    0 ≤ stepsV a c ∧ stepsV a c ≤ 8000 ∧ 0 ≤ stepsV c b ∧ stepsV c b ≤ 8000 ∧ 0 ≤ reachV a c ∧ reachV a c ≤ 2000 ∧ 0 ≤ reachV c b ∧ reachV c b ≤ 2000 ∧
    (stepsV a b = 0 ↔ a = b) ∧ stepsV a b ≤ stepsV a c + stepsV c b ∧ reachV a b ≤ reachV a c + reachV c b ∧ reachV a b ≤ stepsV a b ∧
    stepsV a b ≤ a.length * reachV a b ∧ reachV a b * reachV a b ≤ farV a b ∧ farV a b ≤ stepsV a b * stepsV a b ∧ stepsV a b * stepsV a b ≤ a.length * farV a b := by
  obtain ⟨ha, hb, hl⟩ := twoB_of hab
  obtain ⟨_, hc, hl'⟩ := twoB_of hac
  have hcb : twoB c b = true := twoB_true hc hb (by omega)
  have h4 := okB_len ha
  have e1 : stepsV a b = sumTo (gapF a b) a.length := by unfold stepsV; rw [if_pos hab]
  have e2 : reachV a b = maxTo (gapF a b) a.length := by unfold reachV; rw [if_pos hab]
  have e3 : farV a b = sumTo (fun i => gapF a b i * gapF a b i) a.length := by unfold farV; rw [if_pos hab]; exact sumTo_congr _ _ _ (fun i _ => sqF_gap a b i)
  have e4 : stepsV a c = sumTo (gapF a c) a.length := by unfold stepsV; rw [if_pos hac]
  have e5 : stepsV c b = sumTo (gapF c b) a.length := by unfold stepsV; rw [if_pos hcb, hl']
  have e6 : reachV a c = maxTo (gapF a c) a.length := by unfold reachV; rw [if_pos hac]
  have e7 : reachV c b = maxTo (gapF c b) a.length := by unfold reachV; rw [if_pos hcb, hl']
  have e8 : farV a b = sumTo (sqF a b) a.length := by unfold farV; rw [if_pos hab]
  have hab0 := fun i => (gapF_bd ha hb i).1
  have b1 := sumTo_le (gapF a b) 0 2000 (gapF_bd ha hb) a.length
  have b2 := maxTo_le (gapF a b) 2000 (by omega) (fun i => (gapF_bd ha hb i).2) a.length
  have b3 := sumTo_le (sqF a b) 0 4000000 (sqF_bd ha hb) a.length
  have b4 := sumTo_le (gapF a c) 0 2000 (gapF_bd ha hc) a.length
  have b5 := sumTo_le (gapF c b) 0 2000 (gapF_bd hc hb) a.length
  have b6 := maxTo_le (gapF a c) 2000 (by omega) (fun i => (gapF_bd ha hc i).2) a.length
  have b7 := maxTo_le (gapF c b) 2000 (by omega) (fun i => (gapF_bd hc hb i).2) a.length
  refine ⟨by omega, by omega, by omega, by omega, by omega, by omega, by omega, by omega, by omega, by omega, by omega, by omega, by omega, by omega, ?_, ?_, ?_, ?_, ?_, ?_, ?_, ?_⟩
  · rw [e1]
    constructor
    · intro hz
      refine list_eq_of_nth hl (fun j hj => ?_)
      have := sum_zero (gapF a b) hab0 a.length hz j hj
      unfold gapF at this; omega
    · rintro rfl
      have : sumTo (gapF a a) a.length = sumTo (fun _ => 0) a.length := sumTo_congr _ _ _ (fun i _ => by unfold gapF; omega)
      rw [this]
      have := sumTo_le (fun _ => (0 : Int)) 0 0 (fun _ => ⟨Int.le_refl _, Int.le_refl _⟩) a.length
      omega
  · rw [e1, e4, e5]; exact sum_third _ _ _ (gap_third a b c) _
  · rw [e2, e6, e7]; exact max_third _ _ _ (gap_third a b c) _
  · rw [e1, e2]; exact max_le_sum _ hab0 _
  · rw [e1, e2]; exact sum_le_max _ _
  · rw [e2, e3]; exact max_sq _ _
  · rw [e1, e3]; exact (sumsq_le _ hab0 _).2
  · rw [e1, e3]; exact sum_sq_le _ _

end Go.Proofs.YtodielfilhodeaaGreat
namespace Go.Proofs.YtodielfilhodeaaGreat

abbrev Mk := Int × List Int
def mid (ms : List Mk) (i : Nat) : Int := (ms.getD i (0, [])).1
def mat (ms : List Mk) (i : Nat) : List Int := (ms.getD i (0, [])).2
def mOkAt (ms : List Mk) (i : Nat) : Bool :=
  decide (1 ≤ mid ms i) && decide (mid ms i ≤ 1000000) && okB (mat ms i) && decide ((mat ms i).length = (mat ms 0).length) && (decide (i = 0) || decide (mid ms (i - 1) < mid ms i))
def marksB (ms : List Mk) : Bool := decide (ms.length ≤ 60) && (List.range ms.length).all (mOkAt ms)
def kindB (k : Int) : Bool := decide (1 ≤ k) && decide (k ≤ 3)
def betV (a b : List Int) (k : Int) : Int := if k = 1 then farV a b else if k = 2 then stepsV a b else if k = 3 then reachV a b else -1
def betF (ms : List Mk) (p : List Int) (k : Int) (i : Nat) : Int := betV p (mat ms i) k
def mostV (ms : List Mk) (p : List Int) (k : Int) : Int := maxTo (betF ms p k) ms.length
def mostF (ms : List Mk) (k : Int) (i : Nat) : Int := mostV ms (mat ms i) k
def noneB (ms : List Mk) (k : Int) : Bool := decide (ms.length = 0) || !marksB ms || !kindB k
def diaV (ms : List Mk) (k : Int) : Int := if noneB ms k = true then -1 else maxTo (mostF ms k) ms.length
def bestI (ms : List Mk) (k : Int) : Nat → Nat
  | 0 => 0
  | n + 1 => if mostF ms k n < mostF ms k (bestI ms k n) then n else bestI ms k n
def midV (ms : List Mk) (k : Int) : Int := if noneB ms k = true then 0 else mid ms (bestI ms k ms.length)

theorem mOkAt_iff (ms : List Mk) (i : Nat) : mOkAt ms i = true ↔ 1 ≤ mid ms i ∧ mid ms i ≤ 1000000 ∧ okB (mat ms i) = true ∧ (mat ms i).length = (mat ms 0).length ∧ (i = 0 ∨ mid ms (i - 1) < mid ms i) := by
  simp [mOkAt, and_assoc]
theorem marksB_len {ms : List Mk} (h : marksB ms = true) : ms.length ≤ 60 := by simp [marksB] at h; exact h.1
theorem marksB_at {ms : List Mk} (h : marksB ms = true) {i : Nat} (hi : i < ms.length) : mOkAt ms i = true := by
  simp only [marksB, Bool.and_eq_true, List.all_eq_true] at h
  exact h.2 i (List.mem_range.2 hi)
theorem marksB_long {ms : List Mk} (h : 60 < ms.length) : marksB ms = false := by simp [marksB]; omega
theorem marksB_out {ms : List Mk} {i : Nat} (hi : i < ms.length) (h : mOkAt ms i = false) : marksB ms = false := by
  rcases hb : marksB ms with _ | _
  · rfl
  · rw [marksB_at hb hi] at h; cases h
theorem marksB_mk {ms : List Mk} (hl : ms.length ≤ 60) (h : ∀ i, i < ms.length → mOkAt ms i = true) : marksB ms = true := by
  simp only [marksB, Bool.and_eq_true, List.all_eq_true, decide_eq_true_eq]
  exact ⟨hl, fun i hi => h i (List.mem_range.1 hi)⟩
theorem mOkAt_false (ms : List Mk) (i : Nat) (h : ¬ (1 ≤ mid ms i ∧ mid ms i ≤ 1000000 ∧ okB (mat ms i) = true ∧ (mat ms i).length = (mat ms 0).length ∧ (i = 0 ∨ mid ms (i - 1) < mid ms i))) : mOkAt ms i = false := by
  rcases hb : mOkAt ms i with _ | _
  · rfl
  · exact absurd ((mOkAt_iff ms i).1 hb) h
theorem marks_two {ms : List Mk} (h : marksB ms = true) {i j : Nat} (hi : i < ms.length) (hj : j < ms.length) : twoB (mat ms i) (mat ms j) = true := by
  have a := (mOkAt_iff ms i).1 (marksB_at h hi)
  have b := (mOkAt_iff ms j).1 (marksB_at h hj)
  exact twoB_true a.2.2.1 b.2.2.1 (by omega)

theorem betV_le (a b : List Int) (k : Int) : -1 ≤ betV a b k ∧ betV a b k ≤ 16000000 := by
  rcases ht : twoB a b with _ | _
  · have : betV a b k = -1 := by simp [betV, farV, stepsV, reachV, ht]
    omega
  · obtain ⟨ha, hb, hl⟩ := twoB_of ht
    have h4 := okB_len ha
    have h1 := sumTo_le (sqF a b) 0 4000000 (sqF_bd ha hb) a.length
    have h2 := sumTo_le (gapF a b) 0 2000 (gapF_bd ha hb) a.length
    have h3 := maxTo_le (gapF a b) 2000 (by omega) (fun i => (gapF_bd ha hb i).2) a.length
    simp only [betV, farV, stepsV, reachV, ht, if_true]
    split
    · omega
    · split
      · omega
      · split <;> omega
theorem most_le (ms : List Mk) (p : List Int) (k : Int) (n : Nat) : 0 ≤ maxTo (betF ms p k) n ∧ maxTo (betF ms p k) n ≤ 16000000 :=
  maxTo_le _ _ (by omega) (fun i => (betV_le _ _ _).2) n
theorem mostF_le (ms : List Mk) (k : Int) (i : Nat) : 0 ≤ mostF ms k i ∧ mostF ms k i ≤ 16000000 := most_le _ _ _ _
theorem dia_le (ms : List Mk) (k : Int) (n : Nat) : 0 ≤ maxTo (mostF ms k) n ∧ maxTo (mostF ms k) n ≤ 16000000 :=
  maxTo_le _ _ (by omega) (fun i => (mostF_le _ _ _).2) n

theorem maxTo_ge (f : Nat → Int) (n j : Nat) (h : j < n) : f j ≤ maxTo f n := by
  induction n with
  | zero => omega
  | succ n ih =>
    simp only [maxTo]
    rcases Nat.lt_or_ge j n with h1 | h1
    · have := ih h1; omega
    · rw [show j = n by omega]; omega
theorem maxTo_lub (f : Nat → Int) (n : Nat) (c : Int) (h0 : 0 ≤ c) (h : ∀ j, j < n → f j ≤ c) : maxTo f n ≤ c := by
  induction n with
  | zero => exact h0
  | succ n ih => have := ih (fun j hj => h j (by omega)); have := h n (by omega); simp only [maxTo]; omega

theorem bestI_one (ms : List Mk) (k : Int) : bestI ms k 1 = 0 := by simp [bestI]
theorem bestI_lt (ms : List Mk) (k : Int) (n : Nat) (h : 0 < n) : bestI ms k n < n := by
  induction n with
  | zero => omega
  | succ n ih =>
    simp only [bestI]
    split
    · omega
    · rcases Nat.eq_zero_or_pos n with h0 | h0
      · subst h0; simp [bestI]
      · have := ih h0; omega
theorem bestI_least (ms : List Mk) (k : Int) (n j : Nat) (h : j < n) : mostF ms k (bestI ms k n) ≤ mostF ms k j := by
  induction n with
  | zero => omega
  | succ n ih =>
    simp only [bestI]
    rcases Nat.lt_or_ge j n with h1 | h1
    · have := ih h1
      split <;> omega
    · rw [show j = n by omega]
      split <;> omega

theorem noneB_of {ms : List Mk} {k : Int} (h : noneB ms k = false) : 0 < ms.length ∧ marksB ms = true ∧ kindB k = true := by
  simp [noneB] at h
  exact ⟨List.length_pos_iff.2 h.1.1, h.1.2, h.2⟩
theorem noneB_nil {ms : List Mk} {k : Int} (h : ms.length = 0) : noneB ms k = true := by simp [noneB, h]
theorem noneB_bad {ms : List Mk} {k : Int} (h : marksB ms = false) : noneB ms k = true := by simp [noneB, h]
theorem noneB_kind {ms : List Mk} {k : Int} (h : kindB k = false) : noneB ms k = true := by simp [noneB, h]
theorem noneB_false {ms : List Mk} {k : Int} (h0 : ms.length ≠ 0) (hm : marksB ms = true) (hk : kindB k = true) : noneB ms k = false := by simp [noneB, hm, hk]; simpa using h0
theorem kindB_iff (k : Int) : kindB k = true ↔ 1 ≤ k ∧ k ≤ 3 := by simp [kindB]
theorem kindB_false {k : Int} (h : ¬ (1 ≤ k ∧ k ≤ 3)) : kindB k = false := by
  rcases hb : kindB k with _ | _
  · rfl
  · exact absurd ((kindB_iff k).1 hb) h

end Go.Proofs.YtodielfilhodeaaGreat
namespace Go.Proofs.YtodielfilhodeaaGreat

theorem floor_of {n s q : Int} (hs : 0 < s) (h1 : q * s ≤ n) (h2 : n < q * s + s) : n / s = q := by
  have a := (Int.le_ediv_iff_mul_le hs (a := q) (b := n)).2 h1
  have b : n / s < q + 1 := (Int.ediv_lt_iff_lt_mul hs).2 (by rw [Int.add_mul, Int.one_mul]; exact h2)
  omega
theorem floor_in {n s : Int} (hs : 0 < s) : n / s * s ≤ n ∧ n < n / s * s + s := by
  have a := Int.ediv_mul_le n (b := s) (by omega)
  have b := Int.lt_ediv_add_one_mul_self n hs
  rw [Int.add_mul, Int.one_mul] at b
  exact ⟨a, b⟩
theorem tdiv_pos {n s : Int} (hn : 0 ≤ n) : n.tdiv s = n / s := Int.tdiv_eq_ediv_of_nonneg hn
theorem tdiv_neg' {n s : Int} (hn : n < 0) : n.tdiv s = -((-n) / s) := by
  rw [← tdiv_pos (n := -n) (by omega), Int.neg_tdiv, Int.neg_neg]
/-- The given way: towards nought, and one less where that is above. -/
theorem floor_spec_yes {n s : Int} (hs : 0 < s) (h : n.tdiv s * s > n) : n / s = n.tdiv s - 1 := by
  rcases Int.lt_or_le n 0 with hn | hn
  · rw [tdiv_neg' hn] at h ⊢
    have := floor_in (n := -n) hs
    refine floor_of hs ?_ ?_
    · rw [Int.sub_mul, Int.one_mul]
      rw [Int.neg_mul] at h ⊢
      omega
    · rw [Int.sub_mul, Int.one_mul]
      rw [Int.neg_mul] at h ⊢
      omega
  · rw [tdiv_pos hn] at h
    have := floor_in (n := n) hs
    omega
theorem floor_spec_no {n s : Int} (hs : 0 < s) (h : ¬ n.tdiv s * s > n) : n / s = n.tdiv s := by
  rcases Int.lt_or_le n 0 with hn | hn
  · rw [tdiv_neg' hn] at h ⊢
    have := floor_in (n := -n) hs
    refine floor_of hs ?_ ?_
    · rw [Int.neg_mul] at h ⊢
      omega
    · rw [Int.neg_mul] at h ⊢
      omega
  · rw [tdiv_pos hn]
/-- The program's: below nought it begins at the low end. -/
theorem floor_low {n s : Int} (hs : 0 < s) (hn : n < 0) : (n - (s - 1)).tdiv s = n / s := by
  rw [tdiv_neg' (by omega)]
  have h := floor_in (n := -(n - (s - 1))) hs
  generalize -(n - (s - 1)) / s = d at *
  refine (floor_of hs ?_ ?_).symm
  · rw [Int.neg_mul]; omega
  · rw [Int.neg_mul]; omega
theorem floor_bd {n s : Int} (hs : 0 < s) (h1 : -1000 ≤ n) (h2 : n ≤ 1000) : -1000 ≤ n / s ∧ n / s ≤ 1000 := by
  constructor
  · exact (Int.le_ediv_iff_mul_le hs).2 (by
      have : (1000 : Int) * 1 ≤ 1000 * s := Int.mul_le_mul_of_nonneg_left (by omega) (by omega)
      rw [Int.neg_mul]; omega)
  · have := (Int.ediv_lt_iff_lt_mul hs (a := n) (b := 1001)).2 (by
      have : (1001 : Int) * 1 ≤ 1001 * s := Int.mul_le_mul_of_nonneg_left (by omega) (by omega)
      omega)
    omega
theorem tdiv_bd {n s : Int} (hs : 0 < s) (h1 : -1000 ≤ n) (h2 : n ≤ 1000) (h3 : s ≤ 1000) : -1000 ≤ n.tdiv s ∧ n.tdiv s ≤ 1000 ∧ -3000 ≤ n.tdiv s * s ∧ n.tdiv s * s ≤ 3000 := by
  have hb := floor_bd hs h1 h2
  have hi := floor_in (n := n) hs
  by_cases h : n.tdiv s * s > n
  · have e := floor_spec_yes hs h
    have e2 : n.tdiv s = n / s + 1 := by omega
    have e3 : n.tdiv s * s = n / s * s + s := by rw [e2, Int.add_mul, Int.one_mul]
    have hle : n / s + 1 ≤ 1000 := by
      rcases Int.lt_or_le n 0 with hn | hn
      · have := Int.ediv_neg_of_neg_of_pos hn hs
        omega
      · rw [tdiv_pos hn] at h; omega
    omega
  · have e := floor_spec_no hs h
    rw [← e]
    omega
def gsideB (s : Int) : Bool := decide (1 ≤ s) && decide (s ≤ 1000)
theorem gsideB_iff (s : Int) : gsideB s = true ↔ 1 ≤ s ∧ s ≤ 1000 := by simp [gsideB]
def cellF (p : List Int) (s : Int) (i : Nat) : Int := nth p i / s
def cellV (p : List Int) (s : Int) : List Int := tabL (cellF p s) p.length
def cellL (p : List Int) (s : Int) : List Int := if okB p = true ∧ gsideB s = true then cellV p s else []
theorem cellV_length (p : List Int) (s : Int) : (cellV p s).length = p.length := by simp [cellV, tabL_length]
theorem cellL_short (p : List Int) (s : Int) : (cellL p s).length ≤ 4 := by
  unfold cellL
  split
  · rename_i h
    rw [cellV_length]; exact (okB_len h.1).2
  · simp

end Go.Proofs.YtodielfilhodeaaGreat
namespace Go.Proofs.YtodielfilhodeaaGreat

abbrev Grp (α : Type) := List Int × List α
/-- One more, into the group of its key. -/
def addG {α : Type} (key : List Int) (d : α) : List (Grp α) → List (Grp α)
  | [] => [(key, [d])]
  | x :: r => if x.1 = key then (x.1, x.2 ++ [d]) :: r else x :: addG key d r
def grpG {α : Type} (f : α → List Int) (ds : List α) : List (Grp α) := ds.foldl (fun gs d => addG (f d) d gs) []
theorem grpG_snoc {α : Type} (f : α → List Int) (ds : List α) (d : α) : grpG f (ds ++ [d]) = addG (f d) d (grpG f ds) := by simp [grpG, List.foldl_append]
theorem grpG_nil {α : Type} (f : α → List Int) : grpG f ([] : List α) = [] := rfl
/-- Where a key stands, past the end where it does not. -/
def atG {α : Type} (key : List Int) : List (Grp α) → Nat
  | [] => 0
  | x :: r => if x.1 = key then 0 else atG key r + 1
theorem atG_le {α : Type} (key : List Int) (gs : List (Grp α)) : atG key gs ≤ gs.length := by
  induction gs with
  | nil => simp [atG]
  | cons x r ih => simp only [atG]; split <;> simp <;> omega
theorem atG_key {α : Type} (key : List Int) (gs : List (Grp α)) (h : atG key gs < gs.length) : gs[atG key gs].1 = key := by
  induction gs with
  | nil => simp at h
  | cons x r ih =>
    simp only [atG] at h ⊢
    by_cases hx : x.1 = key
    · simp [hx]
    · simp only [if_neg hx, List.length_cons] at h ⊢
      simp only [List.getElem_cons_succ]
      exact ih (by omega)
theorem atG_not {α : Type} (key : List Int) (gs : List (Grp α)) (h : atG key gs = gs.length) : ∀ x ∈ gs, x.1 ≠ key := by
  induction gs with
  | nil => simp
  | cons x r ih =>
    simp only [atG] at h
    by_cases hx : x.1 = key
    · simp [if_pos hx] at h
    · rw [if_neg hx] at h
      simp at h
      intro y hy
      rcases List.mem_cons.1 hy with rfl | hy
      · exact hx
      · exact ih h y hy
theorem addG_new {α : Type} (key : List Int) (d : α) (gs : List (Grp α)) (h : atG key gs = gs.length) : addG key d gs = gs ++ [(key, [d])] := by
  induction gs with
  | nil => rfl
  | cons x r ih =>
    simp only [atG] at h
    by_cases hx : x.1 = key
    · simp [if_pos hx] at h
    · rw [if_neg hx] at h
      simp at h
      simp only [addG, if_neg hx, List.cons_append]
      rw [ih h]
theorem addG_old {α : Type} (key : List Int) (d : α) (gs : List (Grp α)) (h : atG key gs < gs.length) : addG key d gs = gs.set (atG key gs) (key, (gs[atG key gs]).2 ++ [d]) := by
  induction gs with
  | nil => simp at h
  | cons x r ih =>
    simp only [atG] at h ⊢
    by_cases hx : x.1 = key
    · simp [addG, hx]
    · simp only [if_neg hx, List.length_cons] at h ⊢
      simp only [addG, if_neg hx, List.set_cons_succ, List.getElem_cons_succ]
      rw [ih (by omega)]
/-- What stands under a key. -/
def lookG {α : Type} (key : List Int) (gs : List (Grp α)) : List α := if h : atG key gs < gs.length then gs[atG key gs].2 else []
theorem lookG_cons {α : Type} (key : List Int) (x : Grp α) (r : List (Grp α)) : lookG key (x :: r) = if x.1 = key then x.2 else lookG key r := by
  unfold lookG
  by_cases hx : x.1 = key
  · simp [atG, hx]
  · simp only [atG, if_neg hx, List.length_cons]
    by_cases h : atG key r < r.length
    · rw [dif_pos (by omega), dif_pos h]; rfl
    · rw [dif_neg (by omega), dif_neg h]
theorem lookG_add {α : Type} (key k2 : List Int) (d : α) (gs : List (Grp α)) : lookG key (addG k2 d gs) = if k2 = key then lookG key gs ++ [d] else lookG key gs := by
  induction gs with
  | nil =>
    simp only [addG]
    rw [lookG_cons]
    have e : lookG key ([] : List (Grp α)) = [] := rfl
    rw [e]; rfl
  | cons x r ih =>
    simp only [addG]
    by_cases hx : x.1 = k2
    · rw [if_pos hx, lookG_cons, lookG_cons]
      by_cases hk : k2 = key
      · simp [hx, hk]
      · simp [hx, hk]
    · rw [if_neg hx, lookG_cons, lookG_cons, ih]
      by_cases hk : k2 = key
      · have : x.1 ≠ key := by rw [← hk]; exact hx
        simp [hk, this]
      · simp [hk]
theorem lookG_grp {α : Type} (f : α → List Int) (key : List Int) (ds : List α) : lookG key (grpG f ds) = ds.filter (fun d => decide (f d = key)) := by
  have H : ∀ (l : List α) (pre : List α), ds = pre ++ l → lookG key (grpG f pre) = pre.filter (fun d => decide (f d = key)) → lookG key (grpG f ds) = ds.filter (fun d => decide (f d = key)) := by
    intro l
    induction l with
    | nil => intro pre e h; rw [List.append_nil] at e; rw [e]; exact h
    | cons d l ih =>
      intro pre e h
      refine ih (pre ++ [d]) (by rw [e]; simp) ?_
      rw [grpG_snoc, lookG_add, h, List.filter_append]
      by_cases hk : f d = key
      · simp [hk]
      · simp [hk]
  exact H ds [] rfl rfl
/-- No group is empty, no key stands twice. -/
theorem addG_some {α : Type} (key : List Int) (d : α) (gs : List (Grp α)) (h : ∀ x ∈ gs, x.2 ≠ []) : ∀ x ∈ addG key d gs, x.2 ≠ [] := by
  induction gs with
  | nil => simp [addG]
  | cons x r ih =>
    simp only [addG]
    by_cases hx : x.1 = key
    · rw [if_pos hx]
      intro y hy
      rcases List.mem_cons.1 hy with rfl | hy
      · simp
      · exact h y (List.mem_cons_of_mem _ hy)
    · rw [if_neg hx]
      intro y hy
      rcases List.mem_cons.1 hy with rfl | hy
      · exact h y (List.mem_cons_self ..)
      · exact ih (fun z hz => h z (List.mem_cons_of_mem _ hz)) y hy
theorem addG_keys {α : Type} (key : List Int) (d : α) (gs : List (Grp α)) : (addG key d gs).map (·.1) = if key ∈ gs.map (·.1) then gs.map (·.1) else gs.map (·.1) ++ [key] := by
  induction gs with
  | nil => simp [addG]
  | cons x r ih =>
    simp only [addG]
    by_cases hx : x.1 = key
    · rw [if_pos hx]; simp [hx]
    · rw [if_neg hx, List.map_cons, ih]
      have e : (key ∈ List.map (·.1) (x :: r)) ↔ key ∈ r.map (·.1) := by
        rw [List.map_cons, List.mem_cons]
        exact ⟨fun h => h.resolve_left (fun e => hx e.symm), Or.inr⟩
      by_cases hk : key ∈ r.map (·.1)
      · rw [if_pos hk, if_pos (e.2 hk)]; rfl
      · rw [if_neg hk, if_neg (fun h => hk (e.1 h))]; rfl
/-- The keys, each once, in the order of their first ones. -/
def keysG {α : Type} (f : α → List Int) (ds : List α) : List (List Int) := ds.foldl (fun out d => if f d ∈ out then out else out ++ [f d]) []
theorem keysG_snoc {α : Type} (f : α → List Int) (ds : List α) (d : α) : keysG f (ds ++ [d]) = if f d ∈ keysG f ds then keysG f ds else keysG f ds ++ [f d] := by unfold keysG; rw [List.foldl_append]; rfl
theorem snocInd {α : Type} {P : List α → Prop} (h0 : P []) (h1 : ∀ l x, P l → P (l ++ [x])) (ds : List α) : P ds := by
  have H : ∀ (l pre : List α), P pre → P (pre ++ l) := by
    intro l
    induction l with
    | nil => intro pre h; rwa [List.append_nil]
    | cons d l ih => intro pre h; have := ih (pre ++ [d]) (h1 pre d h); simpa using this
  have := H ds [] h0
  simpa using this
theorem grpG_keys {α : Type} (f : α → List Int) (ds : List α) : (grpG f ds).map (·.1) = keysG f ds := by
  refine snocInd (P := fun ds => (grpG f ds).map (·.1) = keysG f ds) rfl (fun l x h => ?_) ds
  rw [grpG_snoc, addG_keys, h, keysG_snoc]
theorem grpG_some {α : Type} (f : α → List Int) (ds : List α) : ∀ x ∈ grpG f ds, x.2 ≠ [] := by
  refine snocInd (P := fun ds => ∀ x ∈ grpG f ds, x.2 ≠ []) (by simp [grpG_nil]) (fun l x h => ?_) ds
  rw [grpG_snoc]
  exact addG_some _ _ _ h
theorem keysG_nodup {α : Type} (f : α → List Int) (ds : List α) : (keysG f ds).Nodup := by
  refine snocInd (P := fun ds => (keysG f ds).Nodup) (by simp [keysG]) (fun l x h => ?_) ds
  rw [keysG_snoc]
  split
  · exact h
  · rename_i hx
    exact List.nodup_append.2 ⟨h, by simp, fun a ha b hb => by rw [List.mem_singleton.1 hb]; intro e; exact hx (e ▸ ha)⟩
theorem keysG_mem {α : Type} (f : α → List Int) (ds : List α) (k : List Int) : k ∈ keysG f ds ↔ ∃ d ∈ ds, f d = k := by
  refine snocInd (P := fun ds => k ∈ keysG f ds ↔ ∃ d ∈ ds, f d = k) (by simp [keysG]) (fun l x h => ?_) ds
  rw [keysG_snoc]
  by_cases hx : f x ∈ keysG f l
  · rw [if_pos hx, h]
    constructor
    · rintro ⟨d, hd, e⟩; exact ⟨d, List.mem_append_left _ hd, e⟩
    · rintro ⟨d, hd, e⟩
      rcases List.mem_append.1 hd with hd | hd
      · exact ⟨d, hd, e⟩
      · rw [List.mem_singleton.1 hd] at e
        exact h.1 (e ▸ hx)
  · rw [if_neg hx, List.mem_append, h, List.mem_singleton]
    constructor
    · rintro (⟨d, hd, e⟩ | e)
      · exact ⟨d, List.mem_append_left _ hd, e⟩
      · exact ⟨x, by simp, e.symm⟩
    · rintro ⟨d, hd, e⟩
      rcases List.mem_append.1 hd with hd | hd
      · exact Or.inl ⟨d, hd, e⟩
      · rw [List.mem_singleton.1 hd] at e
        exact Or.inr e.symm
theorem keysG_length {α : Type} (f : α → List Int) (ds : List α) : (keysG f ds).length ≤ ds.length := by
  refine snocInd (P := fun ds => (keysG f ds).length ≤ ds.length) (by simp [keysG]) (fun l x h => ?_) ds
  rw [keysG_snoc]
  split <;> simp <;> omega
theorem atG_unique {α : Type} {gs : List (Grp α)} (hn : (gs.map (·.1)).Nodup) (i : Nat) (hi : i < gs.length) : atG gs[i].1 gs = i := by
  have h1 : atG gs[i].1 gs < gs.length := by
    rcases Nat.lt_or_ge (atG gs[i].1 gs) gs.length with h | h
    · exact h
    · exact absurd rfl (atG_not gs[i].1 gs (Nat.le_antisymm (atG_le _ _) h) gs[i] (List.getElem_mem hi))
  have h2 := atG_key gs[i].1 gs h1
  have a1 : atG gs[i].1 gs < (gs.map (·.1)).length := by simpa using h1
  have a2 : i < (gs.map (·.1)).length := by simpa using hi
  have h4 : (gs.map (·.1))[atG gs[i].1 gs] = (gs.map (·.1))[i] := by simpa using h2
  exact (List.getElem_inj hn).1 h4
theorem lookG_at {α : Type} {gs : List (Grp α)} (hn : (gs.map (·.1)).Nodup) (i : Nat) (hi : i < gs.length) : lookG gs[i].1 gs = gs[i].2 := by
  unfold lookG
  have e := atG_unique hn i hi
  rw [dif_pos (by omega)]
  congr 1
  exact getElem_congr_idx e

end Go.Proofs.YtodielfilhodeaaGreat
namespace Go.Proofs.YtodielfilhodeaaGreat

/-- A hit: its number, and how far. -/
abbrev Ht := Int × Int
def aheadB (a b : Ht) : Bool := decide (a.2 < b.2) || (decide (a.2 = b.2) && decide (a.1 < b.1))
/-- In order, or alike. -/
def leH (a b : Ht) : Prop := a.2 < b.2 ∨ (a.2 = b.2 ∧ a.1 ≤ b.1)
def hnth (hs : List Ht) (i : Nat) : Ht := hs.getD i (0, 0)
def putL : List Ht → Ht → List Ht
  | [], h => [h]
  | x :: xs, h => if aheadB h x = true then h :: x :: xs else x :: putL xs h
def sortL (l : List Ht) : List Ht := l.foldl putL []
def SortedH (l : List Ht) : Prop := l.Pairwise leH

theorem aheadB_iff (a b : Ht) : aheadB a b = true ↔ a.2 < b.2 ∨ (a.2 = b.2 ∧ a.1 < b.1) := by simp [aheadB]
theorem aheadB_false (a b : Ht) : aheadB a b = false ↔ leH b a := by
  unfold leH
  rcases h : aheadB a b with _ | _
  · have : ¬ (a.2 < b.2 ∨ (a.2 = b.2 ∧ a.1 < b.1)) := fun hh => by rw [(aheadB_iff a b).2 hh] at h; cases h
    constructor
    · intro _; omega
    · intro _; rfl
  · have := (aheadB_iff a b).1 h
    constructor
    · intro hh; cases hh
    · intro hh; omega
theorem leH_refl (a : Ht) : leH a a := by unfold leH; omega
theorem leH_trans {a b c : Ht} (h : leH a b) (k : leH b c) : leH a c := by unfold leH at *; omega
theorem leH_antisymm {a b : Ht} (h : leH a b) (k : leH b a) : a = b := by
  unfold leH at *
  exact Prod.ext (by omega) (by omega)
theorem leH_total (a b : Ht) : leH a b ∨ leH b a := by unfold leH; omega
theorem leH_of_ahead {a b : Ht} (h : aheadB a b = true) : leH a b := by rw [aheadB_iff] at h; unfold leH; omega

theorem putL_perm (l : List Ht) (h : Ht) : (putL l h).Perm (h :: l) := by
  induction l with
  | nil => exact List.Perm.refl _
  | cons x xs ih =>
    unfold putL
    split
    · exact List.Perm.refl _
    · exact (List.Perm.cons x ih).trans (List.Perm.swap h x xs)
theorem putL_length (l : List Ht) (h : Ht) : (putL l h).length = l.length + 1 := by rw [(putL_perm l h).length_eq]; rfl
theorem putL_sorted {l : List Ht} (hl : SortedH l) (h : Ht) : SortedH (putL l h) := by
  unfold SortedH at *
  induction l with
  | nil => simp [putL]
  | cons x xs ih =>
    rw [List.pairwise_cons] at hl
    unfold putL
    split
    · rename_i ha
      have hx := leH_of_ahead ha
      exact List.pairwise_cons.2 ⟨fun y hy => by
        rcases List.mem_cons.1 hy with rfl | hy
        · exact hx
        · exact leH_trans hx (hl.1 y hy), List.pairwise_cons.2 hl⟩
    · rename_i ha
      have hx : leH x h := (aheadB_false h x).1 (by simpa using ha)
      refine List.pairwise_cons.2 ⟨fun y hy => ?_, ih hl.2⟩
      rcases List.mem_cons.1 ((putL_perm xs h).mem_iff.1 hy) with rfl | hy
      · exact hx
      · exact hl.1 y hy
theorem fold_perm (l acc : List Ht) : (l.foldl putL acc).Perm (acc ++ l) := by
  induction l generalizing acc with
  | nil => simp
  | cons x xs ih =>
    refine (ih (putL acc x)).trans ?_
    refine ((putL_perm acc x).append_right xs).trans ?_
    exact (List.perm_middle (a := x) (l₁ := acc) (l₂ := xs)).symm
theorem fold_sorted (l acc : List Ht) (h : SortedH acc) : SortedH (l.foldl putL acc) := by
  induction l generalizing acc with
  | nil => exact h
  | cons x xs ih => exact ih _ (putL_sorted h x)
theorem sortL_perm (l : List Ht) : (sortL l).Perm l := by simpa [sortL] using fold_perm l []
theorem sortL_sorted (l : List Ht) : SortedH (sortL l) := fold_sorted l [] List.Pairwise.nil
theorem sortL_length (l : List Ht) : (sortL l).length = l.length := (sortL_perm l).length_eq
theorem sortL_snoc (l : List Ht) (h : Ht) : sortL (l ++ [h]) = putL (sortL l) h := by simp [sortL, List.foldl_append]
/-- Two sorted lists of the same hits are one. -/
theorem sorted_unique {l m : List Ht} (hl : SortedH l) (hm : SortedH m) (hp : l.Perm m) : l = m := by
  unfold SortedH at *
  induction l generalizing m with
  | nil => exact (List.nil_perm.1 hp).symm
  | cons x xs ih =>
    cases m with
    | nil => exact absurd hp.length_eq (by simp)
    | cons y ys =>
      rw [List.pairwise_cons] at hl hm
      have hxy : leH x y := by
        rcases List.mem_cons.1 (hp.mem_iff.2 (List.mem_cons_self ..) : y ∈ x :: xs) with h | h
        · rw [h]; exact leH_refl x
        · exact hl.1 y h
      have hyx : leH y x := by
        rcases List.mem_cons.1 (hp.mem_iff.1 (List.mem_cons_self ..) : x ∈ y :: ys) with h | h
        · rw [h]; exact leH_refl y
        · exact hm.1 x h
      obtain rfl := leH_antisymm hxy hyx
      rw [ih hl.2 hm.2 (List.Perm.cons_inv hp)]
theorem sortL_unique {l m : List Ht} (hm : SortedH m) (hp : m.Perm l) : m = sortL l := sorted_unique hm (sortL_sorted l) (hp.trans (sortL_perm l).symm)
theorem sortL_congr {l m : List Ht} (hp : l.Perm m) : sortL l = sortL m := sorted_unique (sortL_sorted l) (sortL_sorted m) ((sortL_perm l).trans (hp.trans (sortL_perm m).symm))

def hasB (ids : List Int) (x : Int) : Bool := ids.contains x
/-- Each number once, its first. -/
def onceG (ids : List Int) : List Ht → List Ht
  | [] => []
  | x :: xs => if hasB ids x.1 = true then onceG ids xs else x :: onceG (ids ++ [x.1]) xs
def onceL (l : List Ht) : List Ht := onceG [] l

def hitOkAt (hs : List Ht) (i : Nat) : Bool := decide (1 ≤ (hnth hs i).1) && decide (0 ≤ (hnth hs i).2) && (decide (i = 0) || aheadB (hnth hs (i - 1)) (hnth hs i))
def hitsB (hs : List Ht) : Bool := (List.range hs.length).all (hitOkAt hs)
theorem hitsB_at {hs : List Ht} (h : hitsB hs = true) {i : Nat} (hi : i < hs.length) : hitOkAt hs i = true := by
  simp only [hitsB, List.all_eq_true] at h
  exact h i (List.mem_range.2 hi)
theorem hitsB_out {hs : List Ht} {i : Nat} (hi : i < hs.length) (h : hitOkAt hs i = false) : hitsB hs = false := by
  rcases hb : hitsB hs with _ | _
  · rfl
  · rw [hitsB_at hb hi] at h; cases h
theorem hitsB_mk {hs : List Ht} (h : ∀ i, i < hs.length → hitOkAt hs i = true) : hitsB hs = true := by
  simp only [hitsB, List.all_eq_true]
  exact fun i hi => h i (List.mem_range.1 hi)

/-- Are marks and a place as told. -/
def toldB (ms : List Mk) (q : List Int) : Bool := marksB ms && okB q && (decide (ms.length = 0) || decide ((mat ms 0).length = q.length))
def hitF (q : List Int) (m : Mk) : Ht := (m.1, farV m.2 q)
def hitsL (ms : List Mk) (q : List Int) : List Ht := ms.map (hitF q)
def countB (k : Int) : Bool := decide (1 ≤ k) && decide (k ≤ 60)
def nearL (ms : List Mk) (q : List Int) (k : Int) : List Ht := if toldB ms q = true ∧ countB k = true then (sortL (hitsL ms q)).take k.toNat else []
def withinL (ms : List Mk) (q : List Int) (most : Int) : List Ht := if toldB ms q = true ∧ 0 ≤ most then (sortL (hitsL ms q)).filter (fun h => decide (h.2 ≤ most)) else []
def mergedL (a b : List Ht) (k : Int) : List Ht := if countB k = true then (onceL (sortL (a ++ b))).take k.toNat else []

theorem mergedL_comm (a b : List Ht) (k : Int) : mergedL b a k = mergedL a b k := by
  unfold mergedL
  rw [sortL_congr (List.perm_append_comm : (b ++ a).Perm (a ++ b))]

end Go.Proofs.YtodielfilhodeaaGreat
namespace Go.Proofs.YtodielfilhodeaaGreat

/-- Put ahead of the first one that is not ahead of it. -/
def insBy {α : Type} (lt : α → α → Bool) (x : α) : List α → List α
  | [] => [x]
  | y :: ys => if lt y x = true then y :: insBy lt x ys else x :: y :: ys
def posBy {α : Type} (lt : α → α → Bool) (x : α) : List α → Nat
  | [] => 0
  | y :: ys => if lt y x = true then posBy lt x ys + 1 else 0
def sortBy {α : Type} (lt : α → α → Bool) (l : List α) : List α := l.foldl (fun acc x => insBy lt x acc) []
/-- An order in which two that are neither ahead of the other are one, on those of a list. -/
structure Parts {α : Type} (lt : α → α → Bool) (P : α → Prop) : Prop where
  trans : ∀ a b c, P a → P b → P c → lt a b = true → lt b c = true → lt a c = true
  one : ∀ a b, P a → P b → lt a b = false → lt b a = false → a = b
  asym : ∀ a b, P a → P b → lt a b = true → lt b a = false

theorem posBy_le {α : Type} (lt : α → α → Bool) (x : α) (l : List α) : posBy lt x l ≤ l.length := by
  induction l with
  | nil => simp [posBy]
  | cons y ys ih => unfold posBy; split <;> simp <;> omega
theorem insBy_eq {α : Type} (lt : α → α → Bool) (x : α) (l : List α) : insBy lt x l = l.take (posBy lt x l) ++ x :: l.drop (posBy lt x l) := by
  induction l with
  | nil => rfl
  | cons y ys ih =>
    unfold insBy posBy
    split
    · rw [ih]; rfl
    · rfl
theorem posBy_lt {α : Type} (lt : α → α → Bool) (x : α) (l : List α) (i : Nat) (h : i < l.length) (hi : i < posBy lt x l) : lt l[i] x = true := by
  induction l generalizing i with
  | nil => simp at h
  | cons y ys ih =>
    unfold posBy at hi
    split at hi
    · rename_i hy
      match i with
      | 0 => exact hy
      | k + 1 => exact ih k (by simpa using h) (by omega)
    · omega
theorem posBy_at {α : Type} (lt : α → α → Bool) (x : α) (l : List α) (h : posBy lt x l < l.length) : lt l[posBy lt x l] x = false := by
  induction l with
  | nil => simp at h
  | cons y ys ih =>
    by_cases hy : lt y x = true
    · have e : posBy lt x (y :: ys) = posBy lt x ys + 1 := by simp [posBy, hy]
      simp only [e] at h ⊢
      exact ih (by simpa using h)
    · have e : posBy lt x (y :: ys) = 0 := by simp [posBy, hy]
      simp only [e]
      simpa using hy
/-- The place found by going on while those there are ahead. -/
theorem posBy_uniq {α : Type} (lt : α → α → Bool) (x : α) (l : List α) (k : Nat) (hk : k ≤ l.length) (h1 : ∀ i (h : i < l.length), i < k → lt l[i] x = true) (h2 : ∀ h : k < l.length, lt l[k] x = false) : posBy lt x l = k := by
  rcases Nat.lt_trichotomy (posBy lt x l) k with h | h | h
  · have := h1 (posBy lt x l) (by omega) h
    rw [posBy_at lt x l (by omega)] at this; cases this
  · exact h
  · have hl := posBy_le lt x l
    have := posBy_lt lt x l k (by omega) h
    rw [h2 (by omega)] at this; cases this
theorem insBy_perm {α : Type} (lt : α → α → Bool) (x : α) (l : List α) : (insBy lt x l).Perm (x :: l) := by
  induction l with
  | nil => exact List.Perm.refl _
  | cons y ys ih =>
    unfold insBy
    split
    · exact (List.Perm.cons y ih).trans (List.Perm.swap x y ys)
    · exact List.Perm.refl _
theorem insBy_length {α : Type} (lt : α → α → Bool) (x : α) (l : List α) : (insBy lt x l).length = l.length + 1 := by rw [(insBy_perm lt x l).length_eq]; rfl
theorem foldBy_perm {α : Type} (lt : α → α → Bool) (l acc : List α) : (l.foldl (fun acc x => insBy lt x acc) acc).Perm (acc ++ l) := by
  induction l generalizing acc with
  | nil => simp
  | cons x xs ih =>
    refine (ih (insBy lt x acc)).trans ?_
    refine ((insBy_perm lt x acc).append_right xs).trans ?_
    exact (List.perm_middle (a := x) (l₁ := acc) (l₂ := xs)).symm
theorem sortBy_perm {α : Type} (lt : α → α → Bool) (l : List α) : (sortBy lt l).Perm l := by simpa [sortBy] using foldBy_perm lt l []
theorem sortBy_length {α : Type} (lt : α → α → Bool) (l : List α) : (sortBy lt l).length = l.length := (sortBy_perm lt l).length_eq
theorem sortBy_snoc {α : Type} (lt : α → α → Bool) (l : List α) (x : α) : sortBy lt (l ++ [x]) = insBy lt x (sortBy lt l) := by simp [sortBy, List.foldl_append]
theorem sortBy_take {α : Type} (lt : α → α → Bool) (l : List α) (i : Nat) (h : i < l.length) : sortBy lt (l.take (i + 1)) = insBy lt l[i] (sortBy lt (l.take i)) := by
  rw [← sortBy_snoc, List.take_add_one, List.getElem?_eq_getElem h]; rfl

/-- Not behind the next ones. -/
def SortedBy {α : Type} (lt : α → α → Bool) (l : List α) : Prop := l.Pairwise fun a b => lt b a = false
theorem insBy_sorted {α : Type} {lt : α → α → Bool} {P : α → Prop} (hp : Parts lt P) (x : α) (l : List α) (hx : P x) (hl : ∀ y ∈ l, P y) (hs : SortedBy lt l) : SortedBy lt (insBy lt x l) := by
  unfold SortedBy at *
  induction l with
  | nil => simp [insBy]
  | cons y ys ih =>
    rw [List.pairwise_cons] at hs
    have hy := hl y (List.mem_cons_self ..)
    unfold insBy
    split
    · rename_i h
      refine List.pairwise_cons.2 ⟨fun z hz => ?_, ih (fun z hz => hl z (List.mem_cons_of_mem _ hz)) hs.2⟩
      rcases List.mem_cons.1 ((insBy_perm lt x ys).mem_iff.1 hz) with rfl | hz
      · exact hp.asym _ _ hy hx h
      · exact hs.1 z hz
    · rename_i h
      have h : lt y x = false := by simpa using h
      refine List.pairwise_cons.2 ⟨fun z hz => ?_, List.pairwise_cons.2 hs⟩
      rcases List.mem_cons.1 hz with rfl | hz
      · exact h
      · have hz' := hl z (List.mem_cons_of_mem _ hz)
        rcases hzx : lt z x with _ | _
        · rfl
        · have h2 := hs.1 z hz
          rcases hyz : lt y z with _ | _
          · have := hp.one _ _ hy hz' hyz h2
            subst this; rw [h] at hzx; cases hzx
          · rw [hp.trans _ _ _ hy hz' hx hyz hzx] at h; cases h
theorem foldBy_sorted {α : Type} {lt : α → α → Bool} {P : α → Prop} (hp : Parts lt P) (l acc : List α) (hl : ∀ y ∈ l, P y) (ha : ∀ y ∈ acc, P y) (hs : SortedBy lt acc) : SortedBy lt (l.foldl (fun acc x => insBy lt x acc) acc) := by
  induction l generalizing acc with
  | nil => exact hs
  | cons x xs ih =>
    refine ih _ (fun y hy => hl y (List.mem_cons_of_mem _ hy)) (fun y hy => ?_) (insBy_sorted hp x acc (hl x (List.mem_cons_self ..)) ha hs)
    rcases List.mem_cons.1 ((insBy_perm lt x acc).mem_iff.1 hy) with rfl | hy
    · exact hl _ (List.mem_cons_self ..)
    · exact ha y hy
theorem sortBy_sorted {α : Type} {lt : α → α → Bool} {P : α → Prop} (hp : Parts lt P) (l : List α) (hl : ∀ y ∈ l, P y) : SortedBy lt (sortBy lt l) :=
  foldBy_sorted hp l [] hl (fun y hy => by cases hy) List.Pairwise.nil
/-- There is one list in order of those of a list. -/
theorem sorted_one {α : Type} {lt : α → α → Bool} {P : α → Prop} (hp : Parts lt P) : ∀ (l m : List α), (∀ y ∈ l, P y) → l.Perm m → SortedBy lt l → SortedBy lt m → l = m
  | [], m, _, hperm, _, _ => (List.Perm.nil_eq hperm)
  | a :: l, m, hl, hperm, h1, h2 => by
    match m, hperm with
    | [], hperm => exact absurd hperm.length_eq (by simp)
    | b :: m, hperm =>
      unfold SortedBy at h1 h2
      have h1' := List.pairwise_cons.1 h1
      have h2' := List.pairwise_cons.1 h2
      have ha : P a := hl a (List.mem_cons_self ..)
      have hb : P b := hl b (hperm.mem_iff.2 (List.mem_cons_self ..))
      have hab : a = b := by
        rcases List.mem_cons.1 (hperm.mem_iff.1 (List.mem_cons_self ..) : a ∈ b :: m) with e | e
        · exact e
        · rcases List.mem_cons.1 (hperm.mem_iff.2 (List.mem_cons_self ..) : b ∈ a :: l) with f | f
          · exact f.symm
          · exact hp.one _ _ ha hb (h2'.1 a e) (h1'.1 b f)
      subst hab
      rw [sorted_one hp l m (fun y hy => hl y (List.mem_cons_of_mem _ hy)) (List.Perm.cons_inv hperm) h1'.2 h2'.2]
theorem sortBy_one {α : Type} {lt : α → α → Bool} {P : α → Prop} (hp : Parts lt P) (l m : List α) (hl : ∀ y ∈ l, P y) (hperm : m.Perm l) (hs : SortedBy lt m) : m = sortBy lt l :=
  sorted_one hp m (sortBy lt l) (fun y hy => hl y (hperm.mem_iff.1 hy)) (hperm.trans (sortBy_perm lt l).symm) hs (sortBy_sorted hp l hl)

/-- By a number of theirs, of alike ones by number. -/
def axlt (ax : Nat) (a b : Mk) : Bool := decide (nth a.2 ax < nth b.2 ax) || (decide (nth a.2 ax = nth b.2 ax) && decide (a.1 < b.1))
def idlt (a b : Mk) : Bool := decide (a.1 < b.1)
theorem axlt_iff (ax : Nat) (a b : Mk) : axlt ax a b = true ↔ nth a.2 ax < nth b.2 ax ∨ (nth a.2 ax = nth b.2 ax ∧ a.1 < b.1) := by simp [axlt]
theorem axlt_not (ax : Nat) (a b : Mk) : axlt ax a b = false ↔ nth b.2 ax < nth a.2 ax ∨ (nth a.2 ax = nth b.2 ax ∧ b.1 ≤ a.1) := by
  rcases h : axlt ax a b with _ | _
  · have : ¬ (nth a.2 ax < nth b.2 ax ∨ (nth a.2 ax = nth b.2 ax ∧ a.1 < b.1)) := fun hh => by rw [(axlt_iff ax a b).2 hh] at h; cases h
    constructor
    · intro _; omega
    · intro _; rfl
  · have := (axlt_iff ax a b).1 h
    constructor
    · intro hh; cases hh
    · intro hh; omega
/-- No two of one number. -/
def Sole (ms : List Mk) : Prop := ∀ a ∈ ms, ∀ b ∈ ms, a.1 = b.1 → a = b
theorem parts_axlt (ax : Nat) {ms : List Mk} (h : Sole ms) : Parts (axlt ax) (· ∈ ms) where
  trans a b c _ _ _ h1 h2 := by rw [axlt_iff] at *; omega
  one a b ha hb h1 h2 := by rw [axlt_not] at *; exact h a ha b hb (by omega)
  asym a b _ _ h1 := by rw [axlt_iff] at h1; rw [axlt_not]; omega
theorem parts_idlt {ms : List Mk} (h : Sole ms) : Parts idlt (· ∈ ms) where
  trans a b c _ _ _ h1 h2 := by simp [idlt] at *; omega
  one a b ha hb h1 h2 := by simp [idlt] at *; exact h a ha b hb (by omega)
  asym a b _ _ h1 := by simp [idlt] at *; omega
theorem Sole.sub {ms ns : List Mk} (h : Sole ms) (hs : ∀ a ∈ ns, a ∈ ms) : Sole ns := fun a ha b hb e => h a (hs a ha) b (hs b hb) e
theorem Sole.of_rise {ms : List Mk} (h : ms.Pairwise fun a b => a.1 < b.1) : Sole ms := by
  induction ms with
  | nil => intro a ha; cases ha
  | cons x xs ih =>
    rw [List.pairwise_cons] at h
    intro a ha b hb e
    rcases List.mem_cons.1 ha with e1 | ha1
    · rcases List.mem_cons.1 hb with e2 | hb1
      · rw [e1, e2]
      · have := h.1 b hb1; subst e1; omega
    · rcases List.mem_cons.1 hb with e2 | hb1
      · have := h.1 a ha1; subst e2; omega
      · exact ih h.2 a ha1 b hb1 e

/-- The tree of halves. -/
inductive Tr where
  | leaf : Tr
  | node (m : Mk) (ax : Nat) (l r : Tr) : Tr
/-- A knot: its mark, its axis, less, more. -/
abbrev Kn := Mk × Int × Int × Int
def Tr.size : Tr → Nat
  | .leaf => 0
  | .node _ _ l r => l.size + r.size + 1
def Tr.place : Tr → Nat → Int
  | .leaf, _ => -1
  | .node .., p => (p : Int)
def Tr.flat : Tr → Nat → List Kn
  | .leaf, _ => []
  | .node m ax l r, p => (m, (ax : Int), l.place (p + 1), r.place (p + 1 + l.size)) :: (l.flat (p + 1) ++ r.flat (p + 1 + l.size))
def Tr.marks : Tr → List Mk
  | .leaf => []
  | .node m _ l r => m :: (l.marks ++ r.marks)
def Tr.tall : Tr → Nat
  | .leaf => 0
  | .node _ _ l r => 1 + max l.tall r.tall
theorem Tr.flat_length (t : Tr) (p : Nat) : (t.flat p).length = t.size := by
  induction t generalizing p with
  | leaf => rfl
  | node m ax l r ihl ihr => simp [Tr.flat, Tr.size, ihl, ihr]
theorem Tr.marks_length (t : Tr) : t.marks.length = t.size := by
  induction t with
  | leaf => rfl
  | node m ax l r ihl ihr => simp [Tr.marks, Tr.size, ihl, ihr]
theorem Tr.flat_marks (t : Tr) (p : Nat) : (t.flat p).map (·.1) = t.marks := by
  induction t generalizing p with
  | leaf => rfl
  | node m ax l r ihl ihr => simp [Tr.flat, Tr.marks, ihl, ihr]
/-- The tree of some marks by an axis; f: no less than there are. -/
def treeF : Nat → List Mk → Nat → Tr
  | 0, _, _ => .leaf
  | f + 1, ms, ax =>
    if ms.length = 0 then .leaf else
    .node (mnthT (sortBy (axlt ax) ms) (ms.length / 2)) ax
      (treeF f ((sortBy (axlt ax) ms).take (ms.length / 2)) ((ax + 1) % (mnthT (sortBy (axlt ax) ms) (ms.length / 2)).2.length))
      (treeF f ((sortBy (axlt ax) ms).drop (ms.length / 2 + 1)) ((ax + 1) % (mnthT (sortBy (axlt ax) ms) (ms.length / 2)).2.length))
where mnthT (ms : List Mk) (i : Nat) : Mk := ms.getD i (0, [])
theorem treeF_none (f : Nat) (ax : Nat) : treeF f [] ax = .leaf := by cases f <;> rfl
theorem treeF_node (f : Nat) (ms : List Mk) (ax : Nat) (h : ms.length ≠ 0) : treeF (f + 1) ms ax = .node (treeF.mnthT (sortBy (axlt ax) ms) (ms.length / 2)) ax (treeF f ((sortBy (axlt ax) ms).take (ms.length / 2)) ((ax + 1) % (treeF.mnthT (sortBy (axlt ax) ms) (ms.length / 2)).2.length)) (treeF f ((sortBy (axlt ax) ms).drop (ms.length / 2 + 1)) ((ax + 1) % (treeF.mnthT (sortBy (axlt ax) ms) (ms.length / 2)).2.length)) := by
  rw [treeF, if_neg h]
theorem getD_mid {ms : List Mk} {i : Nat} (h : i < ms.length) : ms = ms.take i ++ ms.getD i (0, []) :: ms.drop (i + 1) := by
  have e : ms.getD i (0, []) = ms[i] := by simp [List.getD, h]
  rw [e, ← List.drop_eq_getElem_cons h, List.take_append_drop]
theorem treeF_marks (f : Nat) (ms : List Mk) (ax : Nat) (h : ms.length ≤ f) : (treeF f ms ax).marks.Perm ms := by
  induction f generalizing ms ax with
  | zero =>
    have : ms = [] := List.length_eq_zero_iff.1 (by omega)
    subst this; exact List.Perm.refl _
  | succ f ih =>
    unfold treeF
    split
    · rename_i h0
      have : ms = [] := List.length_eq_zero_iff.1 h0
      subst this; exact List.Perm.refl _
    · rename_i h0
      have hl := sortBy_length (axlt ax) ms
      have hp := sortBy_perm (axlt ax) ms
      generalize sortBy (axlt ax) ms = s at hl hp ⊢
      simp only [Tr.marks]
      have hm : ms.length / 2 < s.length := by omega
      have e := getD_mid hm
      refine (List.Perm.cons _ ((ih _ _ (by simp; omega)).append (ih _ _ (by simp; omega)))).trans ?_
      refine (List.perm_middle.symm).trans ?_
      unfold treeF.mnthT
      rw [← e]; exact hp
theorem treeF_size (f : Nat) (ms : List Mk) (ax : Nat) (h : ms.length ≤ f) : (treeF f ms ax).size = ms.length := by
  rw [← Tr.marks_length, (treeF_marks f ms ax h).length_eq]
theorem treeF_place (f : Nat) (ms : List Mk) (ax p : Nat) (h : ms.length ≤ f) : (treeF f ms ax).place p = if ms.length = 0 then -1 else (p : Int) := by
  match f with
  | 0 => rw [if_pos (by omega)]; rfl
  | f + 1 => unfold treeF; split <;> rfl

/-- What is halved. -/
def halvedV (ms : List Mk) : List Kn := if marksB ms = true then (treeF 60 ms 0).flat 0 else []
def knotMs (ks : List Kn) : List Mk := sortBy idlt (ks.map (·.1))
def knotsB (ks : List Kn) : Bool := marksB (knotMs ks) && decide (halvedV (knotMs ks) = ks)

theorem marks_rise {ms : List Mk} (h : marksB ms = true) : ms.Pairwise fun a b => a.1 < b.1 := by
  have hstep : ∀ i, i + 1 < ms.length → mid ms i < mid ms (i + 1) := fun i hi => by
    have := ((mOkAt_iff ms (i + 1)).1 (marksB_at h hi)).2.2.2.2
    rcases this with h0 | h0
    · omega
    · exact h0
  have hall : ∀ d i, i + d + 1 < ms.length → mid ms i < mid ms (i + d + 1) := by
    intro d
    induction d with
    | zero => intro i hi; exact hstep i hi
    | succ d ih =>
      intro i hi
      have h1 := ih i (by omega)
      have h2 := hstep (i + d + 1) (by omega)
      rw [show i + (d + 1) + 1 = i + d + 1 + 1 by omega]; omega
  rw [List.pairwise_iff_getElem]
  intro i j hi hj hij
  have := hall (j - i - 1) i (by omega)
  rw [show i + (j - i - 1) + 1 = j by omega] at this
  simpa [mid, List.getD, hi, hj] using this
theorem marks_sole {ms : List Mk} (h : marksB ms = true) : Sole ms := Sole.of_rise (marks_rise h)

end Go.Proofs.YtodielfilhodeaaGreat
namespace Go.Proofs.YtodielfilhodeaaGreat

/-- A box: its low end and its high end. -/
abbrev Bx := List Int × List Int
def sideB (b : Bx) (i : Nat) : Bool := decide (nth b.1 i ≤ nth b.2 i)
def boxB (b : Bx) : Bool := twoB b.1 b.2 && (List.range b.1.length).all (sideB b)
def toldX (b : Bx) (p : List Int) : Bool := boxB b && twoB b.1 p
def outF (b : Bx) (p : List Int) (i : Nat) : Int := maxV 0 (maxV (nth b.1 i - nth p i) (nth p i - nth b.2 i))
def outQ (b : Bx) (p : List Int) (i : Nat) : Int := outF b p i * outF b p i
def endF (b : Bx) (p : List Int) (i : Nat) : Int := maxV (absV (nth p i - nth b.1 i)) (absV (nth p i - nth b.2 i))
def endQ (b : Bx) (p : List Int) (i : Nat) : Int := endF b p i * endF b p i
def toBoxV (b : Bx) (p : List Int) : Int := if toldX b p = true then sumTo (outQ b p) p.length else -1
def cornerV (b : Bx) (p : List Int) : Int := if toldX b p = true then sumTo (endQ b p) p.length else -1
def insideB (b : Bx) (p : List Int) : Bool := toldX b p && decide (toBoxV b p = 0)
def lowTo (ms : List Mk) (k : Nat) : Nat → Int
  | 0 => nth (mat ms 0) k
  | j + 1 => min (lowTo ms k j) (nth (mat ms (j + 1)) k)
def highTo (ms : List Mk) (k : Nat) : Nat → Int
  | 0 => nth (mat ms 0) k
  | j + 1 => maxV (highTo ms k j) (nth (mat ms (j + 1)) k)
def lowL (ms : List Mk) (j : Nat) : List Int := tabL (fun k => lowTo ms k j) (mat ms 0).length
def highL (ms : List Mk) (j : Nat) : List Int := tabL (fun k => highTo ms k j) (mat ms 0).length
def aroundV (ms : List Mk) : Bx := if ms.length = 0 ∨ marksB ms = false then ([], []) else (lowL ms (ms.length - 1), highL ms (ms.length - 1))
def shLow (a b : Bx) (i : Nat) : Int := maxV (nth a.1 i) (nth b.1 i)
def shHigh (a b : Bx) (i : Nat) : Int := min (nth a.2 i) (nth b.2 i)
def shBox (a b : Bx) : Bx := (tabL (shLow a b) a.1.length, tabL (shHigh a b) a.1.length)
def shOkB (a b : Bx) : Bool := boxB a && boxB b && decide (a.1.length = b.1.length) && boxB (shBox a b)
def sharedV (a b : Bx) : Bx := if shOkB a b = true then shBox a b else ([], [])

theorem boxB_two {b : Bx} (h : boxB b = true) : twoB b.1 b.2 = true := by simp [boxB] at h; exact h.1
theorem boxB_at {b : Bx} (h : boxB b = true) {i : Nat} (hi : i < b.1.length) : nth b.1 i ≤ nth b.2 i := by
  simp only [boxB, Bool.and_eq_true, List.all_eq_true] at h
  have := h.2 i (List.mem_range.2 hi)
  simpa [sideB] using this
theorem boxB_not {b : Bx} (h : twoB b.1 b.2 = false) : boxB b = false := by simp [boxB, h]
theorem boxB_out {b : Bx} {i : Nat} (hi : i < b.1.length) (h : nth b.1 i > nth b.2 i) : boxB b = false := by
  rcases hb : boxB b with _ | _
  · rfl
  · have := boxB_at hb hi; omega
theorem boxB_mk {b : Bx} (h : twoB b.1 b.2 = true) (hs : ∀ i, i < b.1.length → nth b.1 i ≤ nth b.2 i) : boxB b = true := by
  simp only [boxB, Bool.and_eq_true, List.all_eq_true]
  exact ⟨h, fun i hi => by simp [sideB]; exact hs i (List.mem_range.1 hi)⟩
theorem toldX_of {b : Bx} {p : List Int} (h : toldX b p = true) : boxB b = true ∧ twoB b.1 p = true := by simpa [toldX] using h
theorem outF_bd {b : Bx} {p : List Int} (h : toldX b p = true) (i : Nat) : 0 ≤ outF b p i ∧ outF b p i ≤ 2000 := by
  obtain ⟨h1, h2⟩ := toldX_of h
  obtain ⟨a1, a2, _⟩ := twoB_of (boxB_two h1)
  obtain ⟨_, a3, _⟩ := twoB_of h2
  have x1 := okB_at a1 i
  have x2 := okB_at a2 i
  have x3 := okB_at a3 i
  unfold outF maxV
  omega
theorem endF_bd {b : Bx} {p : List Int} (h : toldX b p = true) (i : Nat) : 0 ≤ endF b p i ∧ endF b p i ≤ 2000 := by
  obtain ⟨h1, h2⟩ := toldX_of h
  obtain ⟨a1, a2, _⟩ := twoB_of (boxB_two h1)
  obtain ⟨_, a3, _⟩ := twoB_of h2
  have x1 := okB_at a1 i
  have x2 := okB_at a2 i
  have x3 := okB_at a3 i
  unfold endF maxV absV
  omega
theorem sq_bd {x : Int} (h : 0 ≤ x ∧ x ≤ 2000) : 0 ≤ x * x ∧ x * x ≤ 4000000 := by
  refine ⟨Int.mul_nonneg h.1 h.1, ?_⟩
  have := Int.mul_le_mul h.2 h.2 h.1 (by omega : (0 : Int) ≤ 2000)
  omega
theorem outQ_bd {b : Bx} {p : List Int} (h : toldX b p = true) (i : Nat) : 0 ≤ outQ b p i ∧ outQ b p i ≤ 4000000 := sq_bd (outF_bd h i)
theorem endQ_bd {b : Bx} {p : List Int} (h : toldX b p = true) (i : Nat) : 0 ≤ endQ b p i ∧ endQ b p i ≤ 4000000 := sq_bd (endF_bd h i)

end Go.Proofs.YtodielfilhodeaaGreat
namespace Go.Proofs.YtodielfilhodeaaGreat

def AheadAll (l : List Ht) : Prop := l.Pairwise (fun a b => aheadB a b = true)
theorem ahead_of_le {a b : Ht} (h : leH a b) (hne : a.1 ≠ b.1) : aheadB a b = true := by rw [aheadB_iff]; unfold leH at h; omega
theorem sorted_ahead {l : List Ht} (hs : SortedH l) (hd : l.Pairwise (fun a b => a.1 ≠ b.1)) : AheadAll l := by
  unfold SortedH at hs; unfold AheadAll
  induction l with
  | nil => exact List.Pairwise.nil
  | cons x xs ih =>
    rw [List.pairwise_cons] at *
    exact ⟨fun y hy => ahead_of_le (hs.1 y hy) (hd.1 y hy), ih hs.2 hd.2⟩
theorem perm_distinct {l m : List Ht} (hp : l.Perm m) (h : l.Pairwise (fun a b => a.1 ≠ b.1)) : m.Pairwise (fun a b => a.1 ≠ b.1) :=
  (hp.pairwise_iff (fun h e => h e.symm)).1 h
theorem marks_distinct {ms : List Mk} (hm : marksB ms = true) (q : List Int) : (hitsL ms q).Pairwise (fun a b => a.1 ≠ b.1) := by
  rw [List.pairwise_iff_getElem]
  intro i j hi hj hij
  simp only [hitsL, List.length_map] at hi hj
  have hr : mid ms i < mid ms j := by
    clear hi
    induction j with
    | zero => omega
    | succ j ih =>
      have h1 := ((mOkAt_iff ms (j + 1)).1 (marksB_at hm hj)).2.2.2.2
      simp at h1
      rcases Nat.lt_or_ge i j with h2 | h2
      · have := ih (by omega) h2; omega
      · rw [show i = j by omega]; exact h1
  simp only [hitsL, List.getElem_map, hitF]
  simp only [mid, List.getD, List.getElem?_eq_getElem hi, List.getElem?_eq_getElem hj, Option.getD_some] at hr
  omega
theorem told_two {ms : List Mk} {q : List Int} (ht : toldB ms q = true) {i : Nat} (hi : i < ms.length) : twoB (mat ms i) q = true := by
  simp [toldB] at ht
  obtain ⟨⟨hm, hq⟩, hl⟩ := ht
  have h1 := (mOkAt_iff ms i).1 (marksB_at hm hi)
  have h0 : (mat ms 0).length = q.length := by
    rcases hl with h | h
    · subst h; simp at hi
    · exact h
  exact twoB_true h1.2.2.1 hq (by omega)
theorem told_marks {ms : List Mk} {q : List Int} (ht : toldB ms q = true) : marksB ms = true := by
  simp [toldB] at ht; exact ht.1.1
theorem farV_nonneg {a b : List Int} (h : twoB a b = true) : 0 ≤ farV a b := by
  have hb := (twoB_of h)
  have := sumTo_le (sqF a b) 0 4000000 (sqF_bd hb.1 hb.2.1) a.length
  simp [farV, h]; omega
theorem hit_good {ms : List Mk} {q : List Int} (ht : toldB ms q = true) {x : Ht} (hx : x ∈ hitsL ms q) : 1 ≤ x.1 ∧ 0 ≤ x.2 ∧ ∃ i, i < ms.length ∧ x = (mid ms i, farV (mat ms i) q) := by
  obtain ⟨m, hm, rfl⟩ := List.mem_map.1 hx
  obtain ⟨i, hi, rfl⟩ := List.getElem_of_mem hm
  have e1 : mid ms i = ms[i].1 := by simp [mid, List.getD, hi]
  have e2 : mat ms i = ms[i].2 := by simp [mat, List.getD, hi]
  have h1 := (mOkAt_iff ms i).1 (marksB_at (told_marks ht) hi)
  refine ⟨by unfold hitF; omega, ?_, i, hi, by unfold hitF; rw [e1, e2]⟩
  have := farV_nonneg (told_two ht hi)
  rw [e2] at this
  exact this
theorem hitsB_of {l : List Ht} (hs : AheadAll l) (hg : ∀ x ∈ l, 1 ≤ x.1 ∧ 0 ≤ x.2) : hitsB l = true := by
  refine hitsB_mk fun i hi => ?_
  have hm : hnth l i ∈ l := by simp [hnth, List.getD, hi]
  have := hg _ hm
  simp only [hitOkAt, Bool.and_eq_true, decide_eq_true_eq, Bool.or_eq_true]
  refine ⟨⟨this.1, this.2⟩, ?_⟩
  rcases Nat.eq_zero_or_pos i with h0 | h0
  · exact Or.inl h0
  · right
    have := (List.pairwise_iff_getElem.1 hs) (i - 1) i (by omega) hi (by omega)
    simpa [hnth, List.getD, hi, show i - 1 < l.length by omega] using this
theorem all_ahead {ms : List Mk} {q : List Int} (ht : toldB ms q = true) : AheadAll (sortL (hitsL ms q)) :=
  sorted_ahead (sortL_sorted _) (perm_distinct (sortL_perm _).symm (marks_distinct (told_marks ht) q))
theorem AheadAll.take {l : List Ht} (h : AheadAll l) (k : Nat) : AheadAll (l.take k) := List.Pairwise.sublist (List.take_sublist k l) h
theorem AheadAll.filter {l : List Ht} (h : AheadAll l) (p : Ht → Bool) : AheadAll (l.filter p) := List.Pairwise.sublist List.filter_sublist h
theorem near_mem {ms : List Mk} {q : List Int} {k : Int} {x : Ht} (h : x ∈ nearL ms q k) : toldB ms q = true ∧ x ∈ hitsL ms q := by
  unfold nearL at h
  split at h
  · rename_i hc; exact ⟨hc.1, (sortL_perm _).mem_iff.1 (List.mem_of_mem_take h)⟩
  · cases h
theorem within_mem {ms : List Mk} {q : List Int} {most : Int} {x : Ht} (h : x ∈ withinL ms q most) : toldB ms q = true ∧ x ∈ hitsL ms q ∧ x.2 ≤ most := by
  unfold withinL at h
  split at h
  · rename_i hc
    have := List.mem_filter.1 h
    exact ⟨hc.1, (sortL_perm _).mem_iff.1 this.1, by simpa using this.2⟩
  · cases h
theorem near_ok (ms : List Mk) (q : List Int) (k : Int) : hitsB (nearL ms q k) = true := by
  refine hitsB_of ?_ (fun x hx => by have h := near_mem hx; have := hit_good h.1 h.2; exact ⟨this.1, this.2.1⟩)
  unfold nearL
  split
  · rename_i hc; exact (all_ahead hc.1).take _
  · exact List.Pairwise.nil
theorem within_ok (ms : List Mk) (q : List Int) (most : Int) : hitsB (withinL ms q most) = true := by
  refine hitsB_of ?_ (fun x hx => by have h := within_mem hx; have := hit_good h.1 h.2.1; exact ⟨this.1, this.2.1⟩)
  unfold withinL
  split
  · rename_i hc; exact (all_ahead hc.1).filter _
  · exact List.Pairwise.nil

/-- At or ahead of the last. -/
def uptoB (l x : Ht) : Bool := decide (x.2 < l.2) || (decide (x.2 = l.2) && decide (x.1 ≤ l.1))
theorem upto_le (l x : Ht) : uptoB l x = true ↔ leH x l := by unfold uptoB leH; simp
theorem count_take {ss : List Ht} (hs : AheadAll ss) (m : Nat) (hm : m < ss.length) : ss.countP (uptoB (hnth ss m)) = m + 1 := by
  have hsplit : ss = ss.take (m + 1) ++ ss.drop (m + 1) := (List.take_append_drop _ _).symm
  have hat : ∀ i, i < ss.length → hnth ss i = ss[i]! := fun i hi => by simp [hnth, List.getD, hi]
  have h1 : (ss.take (m + 1)).countP (uptoB (hnth ss m)) = m + 1 := by
    have : (ss.take (m + 1)).countP (uptoB (hnth ss m)) = (ss.take (m + 1)).length := by
      rw [List.countP_eq_length]
      intro x hx
      obtain ⟨i, hi, rfl⟩ := List.getElem_of_mem hx
      have hi2 : i < m + 1 ∧ i < ss.length := by simp at hi; omega
      rw [upto_le]
      have e : hnth ss m = ss[m] := by simp [hnth, List.getD, hm]
      rw [e, List.getElem_take]
      rcases Nat.lt_or_ge i m with h | h
      · exact leH_of_ahead ((List.pairwise_iff_getElem.1 hs) i m hi2.2 hm h)
      · have : i = m := by omega
        subst this; exact leH_refl _
    rw [this]; simp; omega
  have h2 : (ss.drop (m + 1)).countP (uptoB (hnth ss m)) = 0 := by
    rw [List.countP_eq_zero]
    intro x hx
    obtain ⟨i, hi, rfl⟩ := List.getElem_of_mem hx
    have hi2 : m + 1 + i < ss.length := by simp at hi; omega
    rw [List.getElem_drop]
    intro hc
    rw [upto_le] at hc
    have e : hnth ss m = ss[m] := by simp [hnth, List.getD, hm]
    rw [e] at hc
    have := (List.pairwise_iff_getElem.1 hs) m (m + 1 + i) hm hi2 (by omega)
    rw [aheadB_iff] at this
    unfold leH at hc
    omega
  rw [hsplit, List.countP_append, ← hsplit, h1, h2]

end Go.Proofs.YtodielfilhodeaaGreat
namespace Go.Proofs.YtodielfilhodeaaGreat

/-- Two lists in strict order with the same hits are one. -/
theorem ahead_unique {l m : List Ht} (hl : AheadAll l) (hm : AheadAll m) (h : ∀ x, x ∈ l ↔ x ∈ m) : l = m := by
  unfold AheadAll at *
  induction l generalizing m with
  | nil =>
    cases m with
    | nil => rfl
    | cons y ys => exact absurd ((h y).2 (List.mem_cons_self ..)) (by simp)
  | cons x xs ih =>
    cases m with
    | nil => exact absurd ((h x).1 (List.mem_cons_self ..)) (by simp)
    | cons y ys =>
      rw [List.pairwise_cons] at hl hm
      have irr : ∀ a b : Ht, aheadB a b = true → aheadB b a = true → False := fun a b h1 h2 => by rw [aheadB_iff] at h1 h2; omega
      have hxy : x = y := by
        rcases List.mem_cons.1 ((h x).1 (List.mem_cons_self ..)) with e | e
        · exact e
        · rcases List.mem_cons.1 ((h y).2 (List.mem_cons_self ..)) with e2 | e2
          · exact e2.symm
          · exact absurd (hm.1 x e) (fun h1 => irr _ _ h1 (hl.1 y e2))
      subst hxy
      rw [ih hl.2 hm.2 (fun z => by
        have hz := h z
        simp only [List.mem_cons] at hz
        constructor
        · intro hzx
          rcases hz.1 (Or.inr hzx) with e | e
          · subst e; exact absurd (hl.1 z hzx) (fun h1 => irr _ _ h1 h1)
          · exact e
        · intro hzy
          rcases hz.2 (Or.inr hzy) with e | e
          · subst e; exact absurd (hm.1 z hzy) (fun h1 => irr _ _ h1 h1)
          · exact e)]
theorem onceG_sub (ids : List Int) (l : List Ht) : (onceG ids l).Sublist l := by
  induction l generalizing ids with
  | nil => exact List.Sublist.refl _
  | cons x xs ih =>
    unfold onceG
    split
    · exact (ih ids).cons x
    · exact (ih _).cons_cons x
theorem onceG_new (ids : List Int) (l : List Ht) : ∀ x ∈ onceG ids l, x.1 ∉ ids := by
  induction l generalizing ids with
  | nil => intro x hx; cases hx
  | cons y ys ih =>
    intro x hx
    unfold onceG at hx
    split at hx
    · exact ih ids x hx
    · rename_i hb
      rcases List.mem_cons.1 hx with e | e
      · subst e; intro hc; exact hb (by simpa [hasB] using hc)
      · intro hc; exact ih _ x e (List.mem_append_left _ hc)
theorem onceG_distinct (ids : List Int) (l : List Ht) : (onceG ids l).Pairwise (fun a b => a.1 ≠ b.1) := by
  induction l generalizing ids with
  | nil => exact List.Pairwise.nil
  | cons y ys ih =>
    unfold onceG
    split
    · exact ih ids
    · refine List.pairwise_cons.2 ⟨fun z hz e => ?_, ih _⟩
      exact onceG_new _ ys z hz (by rw [← e]; exact List.mem_append_right _ (List.mem_singleton.2 rfl))
theorem onceG_has (ids : List Int) (l : List Ht) (x : Ht) (hx : x ∈ l) : x.1 ∈ ids ∨ ∃ y ∈ onceG ids l, y.1 = x.1 := by
  induction l generalizing ids with
  | nil => cases hx
  | cons y ys ih =>
    unfold onceG
    split
    · rename_i hb
      rcases List.mem_cons.1 hx with e | e
      · subst e; left; simpa [hasB] using hb
      · exact ih ids e
    · rcases List.mem_cons.1 hx with e | e
      · subst e; exact Or.inr ⟨x, List.mem_cons_self .., rfl⟩
      · rcases ih (ids ++ [y.1]) e with h | ⟨z, hz, ez⟩
        · rcases List.mem_append.1 h with h | h
          · exact Or.inl h
          · exact Or.inr ⟨y, List.mem_cons_self .., (List.mem_singleton.1 h).symm⟩
        · exact Or.inr ⟨z, List.mem_cons_of_mem _ hz, ez⟩
/-- A strict order's part that has its first ones has them first. -/
theorem take_part {S U : List Ht} (hS : AheadAll S) (hU : AheadAll U) (hsub : ∀ x ∈ U, x ∈ S) (k : Nat) (hfst : ∀ x ∈ S.take k, x ∈ U) : U.take k = S.take k := by
  have e : U = S.filter (fun x => decide (x ∈ U)) := ahead_unique hU (hS.filter _) (fun x => by
    simp only [List.mem_filter, decide_eq_true_eq]
    exact ⟨fun h => ⟨hsub x h, h⟩, fun h => h.2⟩)
  have e2 : S.filter (fun x => decide (x ∈ U)) = S.take k ++ (S.drop k).filter (fun x => decide (x ∈ U)) := by
    conv => lhs; rw [← List.take_append_drop k S, List.filter_append]
    congr 1
    rw [List.filter_eq_self]
    intro x hx
    simpa using hfst x hx
  rcases Nat.lt_or_ge S.length k with h | h
  · have eS : S.take k = S := List.take_of_length_le (by omega)
    rw [eS] at hfst
    have : U = S := ahead_unique hU hS (fun x => ⟨hsub x, hfst x⟩)
    rw [this]
  · conv => lhs; rw [e, e2]
    rw [List.take_append_of_le_length (by simp; omega), List.take_of_length_le (by simp; omega)]
theorem merged_part {S P : List Ht} (hS : AheadAll S) (hd : S.Pairwise (fun a b => a.1 ≠ b.1)) (hsub : ∀ x ∈ P, x ∈ S) (k : Nat) (hfst : ∀ x ∈ S.take k, x ∈ P) : (onceL (sortL P)).take k = S.take k := by
  have hsame : ∀ a ∈ S, ∀ b ∈ S, a.1 = b.1 → a = b := fun a ha b hb e => by
    obtain ⟨i, hi, rfl⟩ := List.getElem_of_mem ha
    obtain ⟨j, hj, rfl⟩ := List.getElem_of_mem hb
    rcases Nat.lt_trichotomy i j with h | h | h
    · exact absurd e ((List.pairwise_iff_getElem.1 hd) i j hi hj h)
    · subst h; rfl
    · exact absurd e.symm ((List.pairwise_iff_getElem.1 hd) j i hj hi h)
  have hin : ∀ x ∈ onceL (sortL P), x ∈ P := fun x hx => (sortL_perm P).mem_iff.1 ((onceG_sub [] _).subset hx)
  refine take_part hS ?_ (fun x hx => hsub x (hin x hx)) k (fun x hx => ?_)
  · refine sorted_ahead ?_ (onceG_distinct [] _)
    exact List.Pairwise.sublist (onceG_sub [] _) (sortL_sorted P)
  · have hxP := hfst x hx
    rcases onceG_has [] (sortL P) x ((sortL_perm P).mem_iff.2 hxP) with h | ⟨y, hy, e⟩
    · cases h
    · have : y = x := hsame y (hsub y (hin y hy)) x (hsub x hxP) e
      rw [← this]; exact hy
/-- The first of all that are of a part are among the first of the part. -/
theorem first_part {S T : List Ht} (hS : AheadAll S) (hT : AheadAll T) (hsub : ∀ x ∈ T, x ∈ S) (k : Nat) {x : Ht} (hx : x ∈ S.take k) (hxT : x ∈ T) : x ∈ T.take k := by
  have e : T = S.filter (fun x => decide (x ∈ T)) := ahead_unique hT (hS.filter _) (fun x => by
    simp only [List.mem_filter, decide_eq_true_eq]
    exact ⟨fun h => ⟨hsub x h, h⟩, fun h => h.2⟩)
  have e2 : S.filter (fun x => decide (x ∈ T)) = (S.take k).filter (fun x => decide (x ∈ T)) ++ (S.drop k).filter (fun x => decide (x ∈ T)) := by
    conv => lhs; rw [← List.take_append_drop k S, List.filter_append]
  have hl : ((S.take k).filter (fun x => decide (x ∈ T))).length ≤ k := Nat.le_trans (List.length_filter_le _ _) (by simp; omega)
  have hm : x ∈ (S.take k).filter (fun x => decide (x ∈ T)) := List.mem_filter.2 ⟨hx, by simpa using hxT⟩
  rw [e, e2, List.take_append, List.take_of_length_le hl]
  exact List.mem_append_left _ hm

end Go.Proofs.YtodielfilhodeaaGreat
namespace Go.Proofs.YtodielfilhodeaaGreat

def swapL (l : List Ht) (i j : Nat) : List Ht := (l.set i (hnth l j)).set j (hnth l i)
theorem swapL_length (l : List Ht) (i j : Nat) : (swapL l i j).length = l.length := by simp [swapL]
theorem hnth_set (l : List Ht) (i k : Nat) (x : Ht) (hk : k < l.length) : hnth (l.set i x) k = if k = i then x else hnth l k := by
  unfold hnth
  by_cases h : k = i
  · subst h; simp [List.getD, hk]
  · simp [List.getD, h, Ne.symm h]
theorem swapL_at (l : List Ht) (i j k : Nat) (_hi : i < l.length) (_hj : j < l.length) (hk : k < l.length) : hnth (swapL l i j) k = if k = j then hnth l i else if k = i then hnth l j else hnth l k := by
  unfold swapL
  rw [hnth_set _ _ _ _ (by simp; exact hk)]
  split
  · rfl
  · rw [hnth_set _ _ _ _ hk]
theorem swapL_perm (l : List Ht) (i j : Nat) (hi : i < l.length) (hj : j < l.length) : (swapL l i j).Perm l := by
  have e1 : hnth l j = l[j] := by simp [hnth, List.getD, hj]
  have e2 : hnth l i = l[i] := by simp [hnth, List.getD, hi]
  unfold swapL
  rw [e1, e2]
  exact List.set_set_perm hi hj
def par (c : Nat) : Nat := (c - 1) / 2
/-- The first n are a heap. -/
def HeapN (l : List Ht) (n : Nat) : Prop := ∀ c, 0 < c → c < n → leH (hnth l (par c)) (hnth l c)
/-- A heap but for what stands above j. -/
def UpAt (l : List Ht) (n j : Nat) : Prop := (∀ c, 0 < c → c < n → c ≠ j → leH (hnth l (par c)) (hnth l c)) ∧ ∀ c, 0 < c → c < n → par c = j → 0 < j → leH (hnth l (par j)) (hnth l c)
/-- A heap but for what stands below i. -/
def DownAt (l : List Ht) (n i : Nat) : Prop := (∀ c, 0 < c → c < n → par c ≠ i → leH (hnth l (par c)) (hnth l c)) ∧ ∀ c, 0 < c → c < n → par c = i → 0 < i → leH (hnth l (par i)) (hnth l c)

theorem heap_first {l : List Ht} {n : Nat} (h : HeapN l n) (c : Nat) (hc : c < n) : leH (hnth l 0) (hnth l c) := by
  induction c using Nat.strongRecOn with
  | _ c ih =>
    rcases Nat.eq_zero_or_pos c with h0 | h0
    · subst h0; exact leH_refl _
    · have hp : par c < c := by unfold par; omega
      exact leH_trans (ih (par c) hp (by omega)) (h c h0 hc)
theorem up_done {l : List Ht} {n j : Nat} (h : UpAt l n j) (hj : j = 0 ∨ leH (hnth l (par j)) (hnth l j)) : HeapN l n := fun c h0 hc => by
  by_cases e : c = j
  · subst e
    rcases hj with hj | hj
    · omega
    · exact hj
  · exact h.1 c h0 hc e
theorem up_step {l : List Ht} {n j : Nat} (h : UpAt l n j) (hn : n ≤ l.length) (h0 : 0 < j) (hj : j < n) (ha : aheadB (hnth l j) (hnth l (par j)) = true) : UpAt (swapL l (par j) j) n (par j) := by
  have hp : par j < j := by unfold par; omega
  have hle := leH_of_ahead ha
  have at' : ∀ k, k < n → hnth (swapL l (par j) j) k = if k = j then hnth l (par j) else if k = par j then hnth l j else hnth l k := fun k hk => swapL_at l (par j) j k (by omega) (by omega) (by omega)
  refine ⟨fun c hc0 hc hne => ?_, fun c hc0 hc hpc hp0 => ?_⟩
  · have hpc : par c < c := by unfold par; omega
    rw [at' c hc, at' (par c) (by omega)]
    by_cases e1 : c = j
    · subst e1
      rw [if_pos rfl, if_neg (by omega), if_pos rfl]
      exact hle
    · rw [if_neg e1, if_neg hne]
      by_cases e2 : par c = j
      · rw [if_pos e2]
        exact h.2 c hc0 hc e2 h0
      · rw [if_neg e2]
        by_cases e3 : par c = par j
        · rw [if_pos e3]
          have := h.1 c hc0 hc e1
          rw [e3] at this
          exact leH_trans hle this
        · rw [if_neg e3]
          exact h.1 c hc0 hc e1
  · have hpp : par (par j) < par j := by unfold par at *; omega
    have hpc2 : par c < c := by unfold par; omega
    rw [at' c hc, at' (par (par j)) (by omega), if_neg (by omega), if_neg (by omega)]
    have hgp := h.1 (par j) hp0 (by omega) (by omega)
    by_cases e1 : c = j
    · rw [if_pos e1]; exact hgp
    · rw [if_neg e1, if_neg (by omega)]
      have := h.1 c hc0 hc e1
      rw [hpc] at this
      exact leH_trans hgp this
theorem up_start {l : List Ht} (h : HeapN l l.length) (x : Ht) : UpAt (l ++ [x]) (l.length + 1) l.length := by
  have at' : ∀ k, k < l.length → hnth (l ++ [x]) k = hnth l k := fun k hk => by simp [hnth, List.getD, List.getElem?_append_left hk]
  refine ⟨fun c h0 hc hne => ?_, fun c h0 hc hp h1 => ?_⟩
  · have hp : par c < c := by unfold par; omega
    rw [at' c (by omega), at' (par c) (by omega)]
    exact h c h0 (by omega)
  · exfalso; unfold par at hp; omega
theorem down_done {l : List Ht} {n i : Nat} (h : DownAt l n i) (hc : ∀ c, 0 < c → c < n → par c = i → leH (hnth l i) (hnth l c)) : HeapN l n := fun c h0 h1 => by
  by_cases e : par c = i
  · rw [e]; exact hc c h0 h1 e
  · exact h.1 c h0 h1 e
theorem down_step {l : List Ht} {n i j : Nat} (h : DownAt l n i) (hn : n ≤ l.length) (hj : j < n) (hj0 : 0 < j) (hp : par j = i) (hmin : ∀ c, 0 < c → c < n → par c = i → leH (hnth l j) (hnth l c)) (ha : aheadB (hnth l j) (hnth l i) = true) : DownAt (swapL l i j) n j := by
  have hij : i < j := by rw [← hp]; unfold par; omega
  have hle := leH_of_ahead ha
  have at' : ∀ k, k < n → hnth (swapL l i j) k = if k = j then hnth l i else if k = i then hnth l j else hnth l k := fun k hk => swapL_at l i j k (by omega) (by omega) (by omega)
  refine ⟨fun c hc0 hc hne => ?_, fun c hc0 hc hpc hp0 => ?_⟩
  · have hpc : par c < c := by unfold par; omega
    rw [at' c hc, at' (par c) (by omega), if_neg hne]
    by_cases e1 : c = j
    · rw [if_pos e1, if_pos (by rw [e1]; exact hp)]; exact hle
    · rw [if_neg e1]
      by_cases e2 : c = i
      · rw [if_pos e2]
        have e3 : par c ≠ i := by omega
        rw [if_neg e3]
        have := h.2 j hj0 hj hp (by omega)
        rw [← e2] at this
        exact this
      · rw [if_neg e2]
        by_cases e3 : par c = i
        · rw [if_pos e3]; exact hmin c hc0 hc e3
        · rw [if_neg e3]; exact h.1 c hc0 hc e3
  · have hpc2 : par c < c := by unfold par; omega
    rw [hp, at' c hc, at' i (by omega), if_neg (show ¬ c = j by omega), if_neg (show ¬ c = i by omega), if_neg (show ¬ i = j by omega), if_pos rfl]
    have := h.1 c hc0 hc (by omega)
    rw [hpc] at this
    exact this
theorem down_start {l : List Ht} {n : Nat} (h : HeapN l (n + 1)) (hn : n < l.length) : DownAt (swapL l 0 n) n 0 := by
  have at' : ∀ k, k < n → hnth (swapL l 0 n) k = if k = n then hnth l 0 else if k = 0 then hnth l n else hnth l k := fun k hk => swapL_at l 0 n k (by omega) (by omega) (by omega)
  refine ⟨fun c h0 hc hne => ?_, fun c h0 hc hp h1 => by omega⟩
  have hpc : par c < c := by unfold par; omega
  rw [at' c hc, at' (par c) (by omega), if_neg (show ¬ c = n by omega), if_neg (show ¬ c = 0 by omega), if_neg (show ¬ par c = n by omega), if_neg hne]
  exact h c h0 (by omega)

/-- From s on the first n are a heap. -/
def HeapS (s : Nat) (l : List Ht) (n : Nat) : Prop := ∀ c, 0 < c → c < n → s ≤ par c → leH (hnth l (par c)) (hnth l c)
/-- From s on a heap but for what stands below i. -/
def DownS (s : Nat) (l : List Ht) (n i : Nat) : Prop := (∀ c, 0 < c → c < n → s ≤ par c → par c ≠ i → leH (hnth l (par c)) (hnth l c)) ∧ ∀ c, 0 < c → c < n → par c = i → 0 < i → s ≤ par i → leH (hnth l (par i)) (hnth l c)
theorem heapS_zero {l : List Ht} {n : Nat} (h : HeapS 0 l n) : HeapN l n := fun c h0 hc => h c h0 hc (Nat.zero_le _)
theorem heapS_half (l : List Ht) (n : Nat) : HeapS (n / 2) l n := fun c h0 hc hp => by exfalso; unfold par at hp; omega
theorem downS_init {l : List Ht} {n i : Nat} (h : HeapS (i + 1) l n) : DownS i l n i :=
  ⟨fun c h0 hc hp hne => h c h0 hc (by omega), fun c h0 hc hp hi hs => by exfalso; unfold par at hs; omega⟩
theorem downS_pop {l : List Ht} {n : Nat} (h : HeapN l (n + 1)) (hn : n < l.length) : DownS 0 (swapL l 0 n) n 0 := by
  obtain ⟨h1, h2⟩ := down_start h hn
  exact ⟨fun c h0 hc _ hne => h1 c h0 hc hne, fun c h0 hc hp hi _ => h2 c h0 hc hp hi⟩
theorem downS_done {s : Nat} {l : List Ht} {n i : Nat} (h : DownS s l n i) (hc : ∀ c, 0 < c → c < n → par c = i → leH (hnth l i) (hnth l c)) : HeapS s l n := fun c h0 h1 h2 => by
  by_cases e : par c = i
  · rw [e]; exact hc c h0 h1 e
  · exact h.1 c h0 h1 h2 e
theorem downS_step {s : Nat} {l : List Ht} {n i j : Nat} (h : DownS s l n i) (hs : s ≤ i) (hn : n ≤ l.length) (hj : j < n) (hj0 : 0 < j) (hp : par j = i) (hmin : ∀ c, 0 < c → c < n → par c = i → leH (hnth l j) (hnth l c)) (ha : aheadB (hnth l j) (hnth l i) = true) : DownS s (swapL l i j) n j := by
  have hij : i < j := by rw [← hp]; unfold par; omega
  have hle := leH_of_ahead ha
  have at' : ∀ k, k < n → hnth (swapL l i j) k = if k = j then hnth l i else if k = i then hnth l j else hnth l k := fun k hk => swapL_at l i j k (by omega) (by omega) (by omega)
  refine ⟨fun c hc0 hc hsc hne => ?_, fun c hc0 hc hpc hp0 hsp => ?_⟩
  · have hpc : par c < c := by unfold par; omega
    rw [at' c hc, at' (par c) (by omega), if_neg hne]
    by_cases e1 : c = j
    · rw [if_pos e1, if_pos (by rw [e1]; exact hp)]; exact hle
    · rw [if_neg e1]
      by_cases e2 : c = i
      · rw [if_pos e2]
        have e3 : par c ≠ i := by omega
        rw [if_neg e3]
        have := h.2 j hj0 hj hp (by omega) (by rw [← e2]; exact hsc)
        rw [← e2] at this
        exact this
      · rw [if_neg e2]
        by_cases e3 : par c = i
        · rw [if_pos e3]; exact hmin c hc0 hc e3
        · rw [if_neg e3]; exact h.1 c hc0 hc hsc e3
  · have hpc2 : par c < c := by unfold par; omega
    rw [hp, at' c hc, at' i (by omega), if_neg (show ¬ c = j by omega), if_neg (show ¬ c = i by omega), if_neg (show ¬ i = j by omega), if_pos rfl]
    have := h.1 c hc0 hc (by omega) (by omega)
    rw [hpc] at this
    exact this
/-- The children of i. -/
theorem kids (c i : Nat) (h0 : 0 < c) (hp : par c = i) : c = 2 * i + 1 ∨ c = 2 * i + 2 := by unfold par at hp; omega
theorem par_left (i : Nat) : par (2 * i + 1) = i := by unfold par; omega
theorem par_right (i : Nat) : par (2 * i + 2) = i := by unfold par; omega

end Go.Proofs.YtodielfilhodeaaGreat
