/-
  Plain mathematics for the laws of chapter 1 (no program is named here): what a point is, the sums over two points, and what holds of them.
  Plain mathematics of Steps, Reach, Far and Dot over two and three points (no program is named here).
  Plain mathematics for the laws of chapter 2 (no program is named here): marks, the distance by kind, the diameter and the middle.
-/
namespace Go.Proofs.Ytaaagmgglolibaa

/-- The i-th number, 0 behind the end. -/
def nth (xs : List Int) (i : Nat) : Int := xs.getD i 0
def inB (x : Int) : Bool := decide (-1000 ≤ x) && decide (x ≤ 1000)
def okB (xs : List Int) : Bool := decide (1 ≤ xs.length) && decide (xs.length ≤ 4) && xs.all inB
def twoB (a b : List Int) : Bool := okB a && okB b && decide (a.length = b.length)
def sumTo (f : Nat → Int) : Nat → Int
  | 0 => 0
  | k + 1 => sumTo f k + f k
def maxTo (f : Nat → Int) : Nat → Int
  | 0 => 0
  | k + 1 => max (maxTo f k) (f k)
def sqF (a b : List Int) (i : Nat) : Int := (nth a i - nth b i) * (nth a i - nth b i)
def mulF (a b : List Int) (i : Nat) : Int := nth a i * nth b i
def gapF (a b : List Int) (i : Nat) : Int := max (nth a i - nth b i) (nth b i - nth a i)
def addF (a b : List Int) (i : Nat) : Int := nth a i + nth b i
def farV (a b : List Int) : Int := if twoB a b = true then sumTo (sqF a b) a.length else -1
def dotV (a b : List Int) : Int := if twoB a b = true then sumTo (mulF a b) a.length else 0
def stepsV (a b : List Int) : Int := if twoB a b = true then sumTo (gapF a b) a.length else -1
def reachV (a b : List Int) : Int := if twoB a b = true then maxTo (gapF a b) a.length else -1
def tabL (f : Nat → Int) (n : Nat) : List Int := (List.range n).map f
def movedL (a b : List Int) : List Int := if twoB a b = true then (if okB (tabL (addF a b) a.length) = true then tabL (addF a b) a.length else []) else []

theorem inB_iff (x : Int) : inB x = true ↔ -1000 ≤ x ∧ x ≤ 1000 := by simp [inB]

theorem okB_len {xs : List Int} (h : okB xs = true) : 1 ≤ xs.length ∧ xs.length ≤ 4 := by
  simp [okB] at h; omega

theorem okB_at {xs : List Int} (h : okB xs = true) (i : Nat) : -1000 ≤ nth xs i ∧ nth xs i ≤ 1000 := by
  simp only [okB, Bool.and_eq_true, List.all_eq_true] at h
  by_cases hi : i < xs.length
  · have := h.2 xs[i] (List.getElem_mem hi)
    rw [inB_iff] at this
    simpa [nth, List.getD, hi] using this
  · simp [nth, List.getD, hi]

theorem okB_mk {xs : List Int} (h1 : 1 ≤ xs.length) (h4 : xs.length ≤ 4) (h : ∀ i, i < xs.length → -1000 ≤ nth xs i ∧ nth xs i ≤ 1000) : okB xs = true := by
  simp only [okB, Bool.and_eq_true, List.all_eq_true, decide_eq_true_eq]
  refine ⟨⟨h1, h4⟩, fun x hx => ?_⟩
  obtain ⟨i, hi, rfl⟩ := List.getElem_of_mem hx
  rw [inB_iff]
  have := h i hi
  simpa [nth, List.getD, hi] using this

theorem okB_short {xs : List Int} (h : xs.length < 1) : okB xs = false := by simp [okB]; omega
theorem okB_long {xs : List Int} (h : 4 < xs.length) : okB xs = false := by simp [okB]; omega
theorem okB_out {xs : List Int} (i : Nat) (h : nth xs i < -1000 ∨ 1000 < nth xs i) : okB xs = false := by
  rcases hb : okB xs with _ | _
  · rfl
  · have := okB_at hb i; omega

theorem twoB_of {a b : List Int} (h : twoB a b = true) : okB a = true ∧ okB b = true ∧ a.length = b.length := by
  simp [twoB] at h; exact ⟨h.1.1, h.1.2, h.2⟩

theorem sumTo_le (f : Nat → Int) (lo hi : Int) (h : ∀ i, lo ≤ f i ∧ f i ≤ hi) (k : Nat) : lo * k ≤ sumTo f k ∧ sumTo f k ≤ hi * k := by
  induction k with
  | zero => simp [sumTo]
  | succ k ih =>
    have := h k
    simp only [sumTo]
    rw [show ((k + 1 : Nat) : Int) = (k : Int) + 1 by omega, Int.mul_add, Int.mul_add]
    omega

theorem maxTo_le (f : Nat → Int) (hi : Int) (h0 : 0 ≤ hi) (h : ∀ i, f i ≤ hi) (k : Nat) : 0 ≤ maxTo f k ∧ maxTo f k ≤ hi := by
  induction k with
  | zero => simp [maxTo]; exact h0
  | succ k ih => have := h k; simp only [maxTo]; omega

theorem sq_nonneg (x : Int) : 0 ≤ x * x := by
  rcases Int.le_total 0 x with h | h
  · exact Int.mul_nonneg h h
  · have := Int.mul_nonneg (a := -x) (b := -x) (by omega) (by omega)
    rwa [Int.neg_mul_neg] at this

theorem mul_bd {x y m : Int} (_hm : 0 ≤ m) (hx : -m ≤ x ∧ x ≤ m) (hy : -m ≤ y ∧ y ≤ m) : -(m * m) ≤ x * y ∧ x * y ≤ m * m := by
  have a1 := Int.mul_nonneg (a := m - x) (b := m + y) (by omega) (by omega)
  have a2 := Int.mul_nonneg (a := m + x) (b := m - y) (by omega) (by omega)
  have a3 := Int.mul_nonneg (a := m - x) (b := m - y) (by omega) (by omega)
  have a4 := Int.mul_nonneg (a := m + x) (b := m + y) (by omega) (by omega)
  simp only [Int.mul_add, Int.add_mul, Int.mul_sub, Int.sub_mul] at a1 a2 a3 a4
  rw [Int.mul_comm m y] at *
  generalize x * y = p at *
  generalize x * m = q at *
  generalize y * m = r at *
  generalize m * m = s at *
  omega

theorem sqF_bd {a b : List Int} (ha : okB a = true) (hb : okB b = true) (i : Nat) : 0 ≤ sqF a b i ∧ sqF a b i ≤ 4000000 := by
  have h1 := okB_at ha i; have h2 := okB_at hb i
  refine ⟨sq_nonneg _, ?_⟩
  have := (mul_bd (x := nth a i - nth b i) (y := nth a i - nth b i) (m := 2000) (by omega) (by omega) (by omega)).2
  simpa [sqF] using this

theorem mulF_bd {a b : List Int} (ha : okB a = true) (hb : okB b = true) (i : Nat) : -1000000 ≤ mulF a b i ∧ mulF a b i ≤ 1000000 := by
  have h1 := okB_at ha i; have h2 := okB_at hb i
  have := mul_bd (x := nth a i) (y := nth b i) (m := 1000) (by omega) (by omega) (by omega)
  simpa [mulF] using this

theorem gapF_bd {a b : List Int} (ha : okB a = true) (hb : okB b = true) (i : Nat) : 0 ≤ gapF a b i ∧ gapF a b i ≤ 2000 := by
  have h1 := okB_at ha i; have h2 := okB_at hb i
  unfold gapF; omega

theorem addF_bd {a b : List Int} (ha : okB a = true) (hb : okB b = true) (i : Nat) : -2000 ≤ addF a b i ∧ addF a b i ≤ 2000 := by
  have h1 := okB_at ha i; have h2 := okB_at hb i
  unfold addF; omega

theorem tabL_length (f : Nat → Int) (n : Nat) : (tabL f n).length = n := by simp [tabL]
theorem tabL_getD (f : Nat → Int) (n i : Nat) (h : i < n) : nth (tabL f n) i = f i := by simp [nth, tabL, List.getD, h]
theorem tabL_succ (f : Nat → Int) (n : Nat) : tabL f (n + 1) = tabL f n ++ [f n] := by simp [tabL, List.range_succ]
theorem sumTo_congr (f g : Nat → Int) (n : Nat) (h : ∀ i, i < n → f i = g i) : sumTo f n = sumTo g n := by
  induction n with
  | zero => rfl
  | succ n ih => simp only [sumTo]; rw [ih (fun i hi => h i (by omega)), h n (by omega)]
theorem maxTo_congr (f g : Nat → Int) (n : Nat) (h : ∀ i, i < n → f i = g i) : maxTo f n = maxTo g n := by
  induction n with
  | zero => rfl
  | succ n ih => simp only [maxTo]; rw [ih (fun i hi => h i (by omega)), h n (by omega)]


def absV (x : Int) : Int := max x (-x)
def maxV (x y : Int) : Int := max x y
theorem gapF_abs (a b : List Int) (i : Nat) : gapF a b i = absV (nth a i - nth b i) := by unfold gapF absV; omega
theorem twoB_true {a b : List Int} (ha : okB a = true) (hb : okB b = true) (hl : a.length = b.length) : twoB a b = true := by simp [twoB, ha, hb, hl]
theorem twoB_left {a b : List Int} (ha : okB a = false) : twoB a b = false := by simp [twoB, ha]
theorem twoB_right {a b : List Int} (hb : okB b = false) : twoB a b = false := by simp [twoB, hb]
theorem twoB_len {a b : List Int} (hl : ¬ a.length = b.length) : twoB a b = false := by simp [twoB, hl]

end Go.Proofs.Ytaaagmgglolibaa
namespace Go.Proofs.Ytaaagmgglolibaa
set_option linter.unusedSimpArgs false

theorem list_eq_of_nth {xs ys : List Int} (hl : xs.length = ys.length) (h : ∀ j, j < xs.length → nth xs j = nth ys j) : xs = ys := by
  apply List.ext_getElem hl
  intro i h1 h2
  have := h i h1
  simpa [nth, List.getD, h1, h2] using this
theorem twoB_comm (a b : List Int) : twoB a b = twoB b a := by
  rcases h1 : okB a with _ | _ <;> rcases h2 : okB b with _ | _ <;> simp [twoB, h1, h2, eq_comm]
theorem gapF_comm (a b : List Int) (i : Nat) : gapF a b i = gapF b a i := by unfold gapF; omega
theorem mulF_comm (a b : List Int) (i : Nat) : mulF a b i = mulF b a i := Int.mul_comm _ _
theorem sqF_gap (a b : List Int) (i : Nat) : sqF a b i = gapF a b i * gapF a b i := by
  unfold sqF gapF
  rcases Int.le_total (nth a i - nth b i) (nth b i - nth a i) with h | h
  · rw [Int.max_eq_right h, show nth b i - nth a i = -(nth a i - nth b i) by omega, Int.neg_mul_neg]
  · rw [Int.max_eq_left h]
theorem stepsV_comm (a b : List Int) : stepsV b a = stepsV a b := by
  unfold stepsV
  rw [twoB_comm b a]
  by_cases h : twoB a b = true
  · rw [if_pos h, if_pos h, (twoB_of h).2.2]; exact sumTo_congr _ _ _ (fun i _ => gapF_comm b a i)
  · rw [if_neg h, if_neg h]
theorem reachV_comm (a b : List Int) : reachV b a = reachV a b := by
  unfold reachV
  rw [twoB_comm b a]
  by_cases h : twoB a b = true
  · rw [if_pos h, if_pos h, (twoB_of h).2.2]; exact maxTo_congr _ _ _ (fun i _ => gapF_comm b a i)
  · rw [if_neg h, if_neg h]
theorem dotV_comm (a b : List Int) : dotV b a = dotV a b := by
  unfold dotV
  rw [twoB_comm b a]
  by_cases h : twoB a b = true
  · rw [if_pos h, if_pos h, (twoB_of h).2.2]; exact sumTo_congr _ _ _ (fun i _ => mulF_comm b a i)
  · rw [if_neg h, if_neg h]

theorem sum_third (f g h : Nat → Int) (H : ∀ i, f i ≤ g i + h i) (n : Nat) : sumTo f n ≤ sumTo g n + sumTo h n := by
  induction n with
  | zero => simp [sumTo]
  | succ n ih => have := H n; simp only [sumTo]; omega
theorem max_third (f g h : Nat → Int) (H : ∀ i, f i ≤ g i + h i) (n : Nat) : maxTo f n ≤ maxTo g n + maxTo h n := by
  induction n with
  | zero => simp [maxTo]
  | succ n ih => have := H n; simp only [maxTo]; omega
theorem gap_third (a b c : List Int) (i : Nat) : gapF a b i ≤ gapF a c i + gapF c b i := by unfold gapF; omega

theorem max_le_sum (g : Nat → Int) (h : ∀ i, 0 ≤ g i) (n : Nat) : maxTo g n ≤ sumTo g n := by
  have h0 : ∀ n, 0 ≤ sumTo g n := fun n => by
    induction n with
    | zero => simp [sumTo]
    | succ n ih => have := h n; simp only [sumTo]; omega
  induction n with
  | zero => simp [maxTo, sumTo]
  | succ n ih => have := h n; have := h0 n; simp only [maxTo, sumTo]; omega
theorem sum_le_max (g : Nat → Int) (n : Nat) : sumTo g n ≤ n * maxTo g n := by
  induction n with
  | zero => simp [sumTo]
  | succ n ih =>
    simp only [sumTo, maxTo]
    have h1 : (n : Int) * maxTo g n ≤ n * max (maxTo g n) (g n) := Int.mul_le_mul_of_nonneg_left (by omega) (by omega)
    rw [show ((n + 1 : Nat) : Int) = (n : Int) + 1 by omega, Int.add_mul]
    omega
theorem sumsq_nonneg (g : Nat → Int) (n : Nat) : 0 ≤ sumTo (fun i => g i * g i) n := by
  induction n with
  | zero => simp [sumTo]
  | succ n ih => have := sq_nonneg (g n); simp only [sumTo]; omega
theorem max_sq (g : Nat → Int) (n : Nat) : maxTo g n * maxTo g n ≤ sumTo (fun i => g i * g i) n := by
  induction n with
  | zero => simp [maxTo, sumTo]
  | succ n ih =>
    simp only [maxTo, sumTo]
    have h1 := sq_nonneg (g n)
    have h2 := sumsq_nonneg g n
    rcases Int.le_total (maxTo g n) (g n) with h | h
    · rw [Int.max_eq_right h]; omega
    · rw [Int.max_eq_left h]; omega
theorem sumsq_le (g : Nat → Int) (h : ∀ i, 0 ≤ g i) (n : Nat) : 0 ≤ sumTo g n ∧ sumTo (fun i => g i * g i) n ≤ sumTo g n * sumTo g n := by
  induction n with
  | zero => simp [sumTo]
  | succ n ih =>
    have h1 := h n
    have h2 := Int.mul_nonneg ih.1 h1
    simp only [sumTo]
    refine ⟨by omega, ?_⟩
    rw [Int.mul_add, Int.add_mul, Int.add_mul, Int.mul_comm (g n) (sumTo g n)]
    omega
theorem sum_sq_le (g : Nat → Int) (n : Nat) : sumTo g n * sumTo g n ≤ n * sumTo (fun i => g i * g i) n := by
  induction n with
  | zero => simp [sumTo]
  | succ n ih =>
    simp only [sumTo]
    generalize hs : sumTo g n = s at *
    generalize hq : sumTo (fun i => g i * g i) n = q at *
    generalize hx : g n = x at *
    rcases Nat.eq_zero_or_pos n with h0 | h0
    · subst h0
      have e1 : s = 0 := by rw [← hs]; rfl
      have e2 : q = 0 := by rw [← hq]; rfl
      rw [e1, e2]; simp
    · have hk : (0 : Int) < (n : Int) := by omega
      rw [show ((n + 1 : Nat) : Int) = (n : Int) + 1 by omega]
      generalize (n : Int) = k at *
      have h1 : 0 ≤ k * (q + k * (x * x) - 2 * (s * x)) := by
        have := sq_nonneg (s - k * x)
        have e : (s - k * x) * (s - k * x) = s * s + k * (k * (x * x) - 2 * (s * x)) := by (try simp only [Int.two_mul]); simp only [Int.mul_add, Int.add_mul, Int.mul_sub, Int.sub_mul, Int.one_mul, Int.mul_one, Int.mul_comm, Int.mul_left_comm, Int.mul_assoc]; omega
        have e2 : k * (q + k * (x * x) - 2 * (s * x)) = k * q + k * (k * (x * x) - 2 * (s * x)) := by (try simp only [Int.two_mul]); simp only [Int.mul_add, Int.add_mul, Int.mul_sub, Int.sub_mul, Int.one_mul, Int.mul_one, Int.mul_comm, Int.mul_left_comm, Int.mul_assoc]; omega
        omega
      have h2 : 0 ≤ q + k * (x * x) - 2 * (s * x) := by
        rcases Int.lt_or_le (q + k * (x * x) - 2 * (s * x)) 0 with h | h
        · have := Int.mul_lt_mul_of_pos_left h hk
          omega
        · exact h
      have e3 : (s + x) * (s + x) = s * s + 2 * (s * x) + x * x := by (try simp only [Int.two_mul]); simp only [Int.mul_add, Int.add_mul, Int.mul_sub, Int.sub_mul, Int.one_mul, Int.mul_one, Int.mul_comm, Int.mul_left_comm, Int.mul_assoc]; omega
      have e4 : (k + 1) * (q + x * x) = k * q + q + k * (x * x) + x * x := by (try simp only [Int.two_mul]); simp only [Int.mul_add, Int.add_mul, Int.mul_sub, Int.sub_mul, Int.one_mul, Int.mul_one, Int.mul_comm, Int.mul_left_comm, Int.mul_assoc]; omega
      omega
theorem sum_zero (g : Nat → Int) (h : ∀ i, 0 ≤ g i) (n : Nat) (hz : sumTo g n = 0) : ∀ i, i < n → g i = 0 := by
  induction n with
  | zero => intro i hi; omega
  | succ n ih =>
    have h1 := h n
    have h2 := (sumsq_le g h n).1
    simp only [sumTo] at hz
    intro i hi
    rcases Nat.lt_or_ge i n with h3 | h3
    · exact ih (by omega) i h3
    · rw [show i = n by omega]; omega

/-- What the law of the third side asks, of two points a, b and a third one c. -/
theorem third {a b c : List Int} (hab : twoB a b = true) (hac : twoB a c = true) :
    0 ≤ stepsV a b ∧ stepsV a b ≤ 8000 ∧ 0 ≤ reachV a b ∧ reachV a b ≤ 2000 ∧ 0 ≤ farV a b ∧ farV a b ≤ 16000000 ∧
    0 ≤ stepsV a c ∧ stepsV a c ≤ 8000 ∧ 0 ≤ stepsV c b ∧ stepsV c b ≤ 8000 ∧ 0 ≤ reachV a c ∧ reachV a c ≤ 2000 ∧ 0 ≤ reachV c b ∧ reachV c b ≤ 2000 ∧
    (stepsV a b = 0 ↔ a = b) ∧ stepsV a b ≤ stepsV a c + stepsV c b ∧ reachV a b ≤ reachV a c + reachV c b ∧ reachV a b ≤ stepsV a b ∧
    stepsV a b ≤ a.length * reachV a b ∧ reachV a b * reachV a b ≤ farV a b ∧ farV a b ≤ stepsV a b * stepsV a b ∧ stepsV a b * stepsV a b ≤ a.length * farV a b := by
  obtain ⟨ha, hb, hl⟩ := twoB_of hab
  obtain ⟨_, hc, hl'⟩ := twoB_of hac
  have hcb : twoB c b = true := twoB_true hc hb (by omega)
  have h4 := okB_len ha
  have e1 : stepsV a b = sumTo (gapF a b) a.length := by unfold stepsV; rw [if_pos hab]
  have e2 : reachV a b = maxTo (gapF a b) a.length := by unfold reachV; rw [if_pos hab]
  have e3 : farV a b = sumTo (fun i => gapF a b i * gapF a b i) a.length := by unfold farV; rw [if_pos hab]; exact sumTo_congr _ _ _ (fun i _ => sqF_gap a b i)
  have e4 : stepsV a c = sumTo (gapF a c) a.length := by unfold stepsV; rw [if_pos hac]
  have e5 : stepsV c b = sumTo (gapF c b) a.length := by unfold stepsV; rw [if_pos hcb, hl']
  have e6 : reachV a c = maxTo (gapF a c) a.length := by unfold reachV; rw [if_pos hac]
  have e7 : reachV c b = maxTo (gapF c b) a.length := by unfold reachV; rw [if_pos hcb, hl']
  have e8 : farV a b = sumTo (sqF a b) a.length := by unfold farV; rw [if_pos hab]
  have hab0 := fun i => (gapF_bd ha hb i).1
  have b1 := sumTo_le (gapF a b) 0 2000 (gapF_bd ha hb) a.length
  have b2 := maxTo_le (gapF a b) 2000 (by omega) (fun i => (gapF_bd ha hb i).2) a.length
  have b3 := sumTo_le (sqF a b) 0 4000000 (sqF_bd ha hb) a.length
  have b4 := sumTo_le (gapF a c) 0 2000 (gapF_bd ha hc) a.length
  have b5 := sumTo_le (gapF c b) 0 2000 (gapF_bd hc hb) a.length
  have b6 := maxTo_le (gapF a c) 2000 (by omega) (fun i => (gapF_bd ha hc i).2) a.length
  have b7 := maxTo_le (gapF c b) 2000 (by omega) (fun i => (gapF_bd hc hb i).2) a.length
  refine ⟨by omega, by omega, by omega, by omega, by omega, by omega, by omega, by omega, by omega, by omega, by omega, by omega, by omega, by omega, ?_, ?_, ?_, ?_, ?_, ?_, ?_, ?_⟩
  · rw [e1]
    constructor
    · intro hz
      refine list_eq_of_nth hl (fun j hj => ?_)
      have := sum_zero (gapF a b) hab0 a.length hz j hj
      unfold gapF at this; omega
    · rintro rfl
      have : sumTo (gapF a a) a.length = sumTo (fun _ => 0) a.length := sumTo_congr _ _ _ (fun i _ => by unfold gapF; omega)
      rw [this]
      have := sumTo_le (fun _ => (0 : Int)) 0 0 (fun _ => ⟨Int.le_refl _, Int.le_refl _⟩) a.length
      omega
  · rw [e1, e4, e5]; exact sum_third _ _ _ (gap_third a b c) _
  · rw [e2, e6, e7]; exact max_third _ _ _ (gap_third a b c) _
  · rw [e1, e2]; exact max_le_sum _ hab0 _
  · rw [e1, e2]; exact sum_le_max _ _
  · rw [e2, e3]; exact max_sq _ _
  · rw [e1, e3]; exact (sumsq_le _ hab0 _).2
  · rw [e1, e3]; exact sum_sq_le _ _

end Go.Proofs.Ytaaagmgglolibaa
namespace Go.Proofs.Ytaaagmgglolibaa

abbrev Mk := Int × List Int
def mid (ms : List Mk) (i : Nat) : Int := (ms.getD i (0, [])).1
def mat (ms : List Mk) (i : Nat) : List Int := (ms.getD i (0, [])).2
def mOkAt (ms : List Mk) (i : Nat) : Bool :=
  decide (1 ≤ mid ms i) && decide (mid ms i ≤ 1000000) && okB (mat ms i) && decide ((mat ms i).length = (mat ms 0).length) && (decide (i = 0) || decide (mid ms (i - 1) < mid ms i))
def marksB (ms : List Mk) : Bool := decide (ms.length ≤ 60) && (List.range ms.length).all (mOkAt ms)
def kindB (k : Int) : Bool := decide (1 ≤ k) && decide (k ≤ 3)
def betV (a b : List Int) (k : Int) : Int := if k = 1 then farV a b else if k = 2 then stepsV a b else if k = 3 then reachV a b else -1
def betF (ms : List Mk) (p : List Int) (k : Int) (i : Nat) : Int := betV p (mat ms i) k
def mostV (ms : List Mk) (p : List Int) (k : Int) : Int := maxTo (betF ms p k) ms.length
def mostF (ms : List Mk) (k : Int) (i : Nat) : Int := mostV ms (mat ms i) k
def noneB (ms : List Mk) (k : Int) : Bool := decide (ms.length = 0) || !marksB ms || !kindB k
def diaV (ms : List Mk) (k : Int) : Int := if noneB ms k = true then -1 else maxTo (mostF ms k) ms.length
def bestI (ms : List Mk) (k : Int) : Nat → Nat
  | 0 => 0
  | n + 1 => if mostF ms k n < mostF ms k (bestI ms k n) then n else bestI ms k n
def midV (ms : List Mk) (k : Int) : Int := if noneB ms k = true then 0 else mid ms (bestI ms k ms.length)

theorem mOkAt_iff (ms : List Mk) (i : Nat) : mOkAt ms i = true ↔ 1 ≤ mid ms i ∧ mid ms i ≤ 1000000 ∧ okB (mat ms i) = true ∧ (mat ms i).length = (mat ms 0).length ∧ (i = 0 ∨ mid ms (i - 1) < mid ms i) := by
  simp [mOkAt, and_assoc]
theorem marksB_len {ms : List Mk} (h : marksB ms = true) : ms.length ≤ 60 := by simp [marksB] at h; exact h.1
theorem marksB_at {ms : List Mk} (h : marksB ms = true) {i : Nat} (hi : i < ms.length) : mOkAt ms i = true := by
  simp only [marksB, Bool.and_eq_true, List.all_eq_true] at h
  exact h.2 i (List.mem_range.2 hi)
theorem marksB_long {ms : List Mk} (h : 60 < ms.length) : marksB ms = false := by simp [marksB]; omega
theorem marksB_out {ms : List Mk} {i : Nat} (hi : i < ms.length) (h : mOkAt ms i = false) : marksB ms = false := by
  rcases hb : marksB ms with _ | _
  · rfl
  · rw [marksB_at hb hi] at h; cases h
theorem marksB_mk {ms : List Mk} (hl : ms.length ≤ 60) (h : ∀ i, i < ms.length → mOkAt ms i = true) : marksB ms = true := by
  simp only [marksB, Bool.and_eq_true, List.all_eq_true, decide_eq_true_eq]
  exact ⟨hl, fun i hi => h i (List.mem_range.1 hi)⟩
theorem mOkAt_false (ms : List Mk) (i : Nat) (h : ¬ (1 ≤ mid ms i ∧ mid ms i ≤ 1000000 ∧ okB (mat ms i) = true ∧ (mat ms i).length = (mat ms 0).length ∧ (i = 0 ∨ mid ms (i - 1) < mid ms i))) : mOkAt ms i = false := by
  rcases hb : mOkAt ms i with _ | _
  · rfl
  · exact absurd ((mOkAt_iff ms i).1 hb) h
theorem marks_two {ms : List Mk} (h : marksB ms = true) {i j : Nat} (hi : i < ms.length) (hj : j < ms.length) : twoB (mat ms i) (mat ms j) = true := by
  have a := (mOkAt_iff ms i).1 (marksB_at h hi)
  have b := (mOkAt_iff ms j).1 (marksB_at h hj)
  exact twoB_true a.2.2.1 b.2.2.1 (by omega)

theorem betV_le (a b : List Int) (k : Int) : -1 ≤ betV a b k ∧ betV a b k ≤ 16000000 := by
  rcases ht : twoB a b with _ | _
  · have : betV a b k = -1 := by simp [betV, farV, stepsV, reachV, ht]
    omega
  · obtain ⟨ha, hb, hl⟩ := twoB_of ht
    have h4 := okB_len ha
    have h1 := sumTo_le (sqF a b) 0 4000000 (sqF_bd ha hb) a.length
    have h2 := sumTo_le (gapF a b) 0 2000 (gapF_bd ha hb) a.length
    have h3 := maxTo_le (gapF a b) 2000 (by omega) (fun i => (gapF_bd ha hb i).2) a.length
    simp only [betV, farV, stepsV, reachV, ht, if_true]
    split
    · omega
    · split
      · omega
      · split <;> omega
theorem most_le (ms : List Mk) (p : List Int) (k : Int) (n : Nat) : 0 ≤ maxTo (betF ms p k) n ∧ maxTo (betF ms p k) n ≤ 16000000 :=
  maxTo_le _ _ (by omega) (fun i => (betV_le _ _ _).2) n
theorem mostF_le (ms : List Mk) (k : Int) (i : Nat) : 0 ≤ mostF ms k i ∧ mostF ms k i ≤ 16000000 := most_le _ _ _ _
theorem dia_le (ms : List Mk) (k : Int) (n : Nat) : 0 ≤ maxTo (mostF ms k) n ∧ maxTo (mostF ms k) n ≤ 16000000 :=
  maxTo_le _ _ (by omega) (fun i => (mostF_le _ _ _).2) n

theorem maxTo_ge (f : Nat → Int) (n j : Nat) (h : j < n) : f j ≤ maxTo f n := by
  induction n with
  | zero => omega
  | succ n ih =>
    simp only [maxTo]
    rcases Nat.lt_or_ge j n with h1 | h1
    · have := ih h1; omega
    · rw [show j = n by omega]; omega
theorem maxTo_lub (f : Nat → Int) (n : Nat) (c : Int) (h0 : 0 ≤ c) (h : ∀ j, j < n → f j ≤ c) : maxTo f n ≤ c := by
  induction n with
  | zero => exact h0
  | succ n ih => have := ih (fun j hj => h j (by omega)); have := h n (by omega); simp only [maxTo]; omega

theorem bestI_one (ms : List Mk) (k : Int) : bestI ms k 1 = 0 := by simp [bestI]
theorem bestI_lt (ms : List Mk) (k : Int) (n : Nat) (h : 0 < n) : bestI ms k n < n := by
  induction n with
  | zero => omega
  | succ n ih =>
    simp only [bestI]
    split
    · omega
    · rcases Nat.eq_zero_or_pos n with h0 | h0
      · subst h0; simp [bestI]
      · have := ih h0; omega
theorem bestI_least (ms : List Mk) (k : Int) (n j : Nat) (h : j < n) : mostF ms k (bestI ms k n) ≤ mostF ms k j := by
  induction n with
  | zero => omega
  | succ n ih =>
    simp only [bestI]
    rcases Nat.lt_or_ge j n with h1 | h1
    · have := ih h1
      split <;> omega
    · rw [show j = n by omega]
      split <;> omega

theorem noneB_of {ms : List Mk} {k : Int} (h : noneB ms k = false) : 0 < ms.length ∧ marksB ms = true ∧ kindB k = true := by
  simp [noneB] at h
  exact ⟨List.length_pos_iff.2 h.1.1, h.1.2, h.2⟩
theorem noneB_nil {ms : List Mk} {k : Int} (h : ms.length = 0) : noneB ms k = true := by simp [noneB, h]
theorem noneB_bad {ms : List Mk} {k : Int} (h : marksB ms = false) : noneB ms k = true := by simp [noneB, h]
theorem noneB_kind {ms : List Mk} {k : Int} (h : kindB k = false) : noneB ms k = true := by simp [noneB, h]
theorem noneB_false {ms : List Mk} {k : Int} (h0 : ms.length ≠ 0) (hm : marksB ms = true) (hk : kindB k = true) : noneB ms k = false := by simp [noneB, hm, hk]; simpa using h0
theorem kindB_iff (k : Int) : kindB k = true ↔ 1 ≤ k ∧ k ≤ 3 := by simp [kindB]
theorem kindB_false {k : Int} (h : ¬ (1 ≤ k ∧ k ≤ 3)) : kindB k = false := by
  rcases hb : kindB k with _ | _
  · rfl
  · exact absurd ((kindB_iff k).1 hb) h

end Go.Proofs.Ytaaagmgglolibaa
