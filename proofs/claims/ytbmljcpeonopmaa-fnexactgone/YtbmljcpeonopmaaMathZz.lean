/-
  Plain mathematics for the laws of chapter 1 (no program is named here): what a point is, the sums over two points, and what holds of them.
  Plain mathematics of Steps, Reach, Far and Dot over two and three points (no program is named here).
  Plain mathematics for the laws of chapter 2 (no program is named here): marks, the distance by kind, the diameter and the middle.
  Plain mathematics for the laws of chapter 3 (no program is named here): hits, their order, the sorted list, the first ones, each number once.
  Plain mathematics for the laws of chapter 5 (no program is named here): marks by a number of theirs, the tree of halves, its knots in a list, its height.
  Plain mathematics for the laws of chapter 4 (no program is named here): boxes.
  Plain mathematics for the laws of chapter 11 (no program is named here): the least distance to some, the radius, who is chosen, and Gonzalez' bound.
  Plain mathematics for the laws of chapter 11: the least radius of any k of n.
  Plain mathematics for the laws of chapter 11: the distance of marks by kind, and what the third side allows.
  Plain mathematics for the laws of chapter 11: marks told by their numbers.
  Plain mathematics for the laws of chapter 7 (no program is named here): numbers divided and rounded down, the cell of a point.
  Plain mathematics for the laws of chapter 10 (no program is named here): centers, the nearest of them, groups, means, and what shifting costs.
  Plain mathematics for the laws of chapter 13 (no program is named here): levels, what a number is coded as, what is decoded.
  Plain mathematics for the laws of chapter 14 (no program is named here): webs, walks, beams, islands.
  Plain mathematics for chapter 14: islands.
  Plain mathematics for chapter 14: one more mark, linked to its nearest.
  Plain mathematics for chapter 14: beams.
  Plain mathematics for chapter 14: how the program looks about (no program is named here).
  Plain mathematics for the given l14Linked: the lists of links while the nearest are gone through.
  Plain mathematics for the laws of the nearest (no program is named here).
  Plain mathematics for the law of merging (no program is named here).
  Plain mathematics of a heap of hits in a list (no program is named here): what a step up and a step down keep, and that the first is the least.
  What holds of a walk: each step goes over a link and comes ahead; at its end none that is linked is ahead. Plain.
-/
namespace Go.Proofs.Ytbmljcpeonopmaa

/-- The i-th number, 0 behind the end. -/
def nth (xs : List Int) (i : Nat) : Int := xs.getD i 0
def inB (x : Int) : Bool := decide (-1000 ≤ x) && decide (x ≤ 1000)
def okB (xs : List Int) : Bool := decide (1 ≤ xs.length) && decide (xs.length ≤ 4) && xs.all inB
def twoB (a b : List Int) : Bool := okB a && okB b && decide (a.length = b.length)
def sumTo (f : Nat → Int) : Nat → Int
  | 0 => 0
  | k + 1 => sumTo f k + f k
def maxTo (f : Nat → Int) : Nat → Int
  | 0 => 0
  | k + 1 => max (maxTo f k) (f k)
def sqF (a b : List Int) (i : Nat) : Int := (nth a i - nth b i) * (nth a i - nth b i)
def mulF (a b : List Int) (i : Nat) : Int := nth a i * nth b i
def gapF (a b : List Int) (i : Nat) : Int := max (nth a i - nth b i) (nth b i - nth a i)
def addF (a b : List Int) (i : Nat) : Int := nth a i + nth b i
def farV (a b : List Int) : Int := if twoB a b = true then sumTo (sqF a b) a.length else -1
def dotV (a b : List Int) : Int := if twoB a b = true then sumTo (mulF a b) a.length else 0
def stepsV (a b : List Int) : Int := if twoB a b = true then sumTo (gapF a b) a.length else -1
def reachV (a b : List Int) : Int := if twoB a b = true then maxTo (gapF a b) a.length else -1
def tabL (f : Nat → Int) (n : Nat) : List Int := (List.range n).map f
def movedL (a b : List Int) : List Int := if twoB a b = true then (if okB (tabL (addF a b) a.length) = true then tabL (addF a b) a.length else []) else []

theorem inB_iff (x : Int) : inB x = true ↔ -1000 ≤ x ∧ x ≤ 1000 := by simp [inB]

theorem okB_len {xs : List Int} (h : okB xs = true) : 1 ≤ xs.length ∧ xs.length ≤ 4 := by
  simp [okB] at h; omega

theorem okB_at {xs : List Int} (h : okB xs = true) (i : Nat) : -1000 ≤ nth xs i ∧ nth xs i ≤ 1000 := by
  simp only [okB, Bool.and_eq_true, List.all_eq_true] at h
  by_cases hi : i < xs.length
  · have := h.2 xs[i] (List.getElem_mem hi)
    rw [inB_iff] at this
    simpa [nth, List.getD, hi] using this
  · simp [nth, List.getD, hi]

theorem okB_mk {xs : List Int} (h1 : 1 ≤ xs.length) (h4 : xs.length ≤ 4) (h : ∀ i, i < xs.length → -1000 ≤ nth xs i ∧ nth xs i ≤ 1000) : okB xs = true := by
  simp only [okB, Bool.and_eq_true, List.all_eq_true, decide_eq_true_eq]
  refine ⟨⟨h1, h4⟩, fun x hx => ?_⟩
  obtain ⟨i, hi, rfl⟩ := List.getElem_of_mem hx
  rw [inB_iff]
  have := h i hi
  simpa [nth, List.getD, hi] using this

theorem okB_short {xs : List Int} (h : xs.length < 1) : okB xs = false := by simp [okB]; omega
theorem okB_long {xs : List Int} (h : 4 < xs.length) : okB xs = false := by simp [okB]; omega
theorem okB_out {xs : List Int} (i : Nat) (h : nth xs i < -1000 ∨ 1000 < nth xs i) : okB xs = false := by
  rcases hb : okB xs with _ | _
  · rfl
  · have := okB_at hb i; omega

theorem twoB_of {a b : List Int} (h : twoB a b = true) : okB a = true ∧ okB b = true ∧ a.length = b.length := by
  simp [twoB] at h; exact ⟨h.1.1, h.1.2, h.2⟩

theorem sumTo_le (f : Nat → Int) (lo hi : Int) (h : ∀ i, lo ≤ f i ∧ f i ≤ hi) (k : Nat) : lo * k ≤ sumTo f k ∧ sumTo f k ≤ hi * k := by
  induction k with
  | zero => simp [sumTo]
  | succ k ih =>
    have := h k
    simp only [sumTo]
    rw [show ((k + 1 : Nat) : Int) = (k : Int) + 1 by omega, Int.mul_add, Int.mul_add]
    omega

theorem maxTo_le (f : Nat → Int) (hi : Int) (h0 : 0 ≤ hi) (h : ∀ i, f i ≤ hi) (k : Nat) : 0 ≤ maxTo f k ∧ maxTo f k ≤ hi := by
  induction k with
  | zero => simp [maxTo]; exact h0
  | succ k ih => have := h k; simp only [maxTo]; omega

theorem sq_nonneg (x : Int) : 0 ≤ x * x := by
  rcases Int.le_total 0 x with h | h
  · exact Int.mul_nonneg h h
  · have := Int.mul_nonneg (a := -x) (b := -x) (by omega) (by omega)
    rwa [Int.neg_mul_neg] at this

theorem mul_bd {x y m : Int} (_hm : 0 ≤ m) (hx : -m ≤ x ∧ x ≤ m) (hy : -m ≤ y ∧ y ≤ m) : -(m * m) ≤ x * y ∧ x * y ≤ m * m := by
  have a1 := Int.mul_nonneg (a := m - x) (b := m + y) (by omega) (by omega)
  have a2 := Int.mul_nonneg (a := m + x) (b := m - y) (by omega) (by omega)
  have a3 := Int.mul_nonneg (a := m - x) (b := m - y) (by omega) (by omega)
  have a4 := Int.mul_nonneg (a := m + x) (b := m + y) (by omega) (by omega)
  simp only [Int.mul_add, Int.add_mul, Int.mul_sub, Int.sub_mul] at a1 a2 a3 a4
  rw [Int.mul_comm m y] at *
  generalize x * y = p at *
  generalize x * m = q at *
  generalize y * m = r at *
  generalize m * m = s at *
  omega

theorem sqF_bd {a b : List Int} (ha : okB a = true) (hb : okB b = true) (i : Nat) : 0 ≤ sqF a b i ∧ sqF a b i ≤ 4000000 := by
  have h1 := okB_at ha i; have h2 := okB_at hb i
  refine ⟨sq_nonneg _, ?_⟩
  have := (mul_bd (x := nth a i - nth b i) (y := nth a i - nth b i) (m := 2000) (by omega) (by omega) (by omega)).2
  simpa [sqF] using this

theorem mulF_bd {a b : List Int} (ha : okB a = true) (hb : okB b = true) (i : Nat) : -1000000 ≤ mulF a b i ∧ mulF a b i ≤ 1000000 := by
  have h1 := okB_at ha i; have h2 := okB_at hb i
  have := mul_bd (x := nth a i) (y := nth b i) (m := 1000) (by omega) (by omega) (by omega)
  simpa [mulF] using this

theorem gapF_bd {a b : List Int} (ha : okB a = true) (hb : okB b = true) (i : Nat) : 0 ≤ gapF a b i ∧ gapF a b i ≤ 2000 := by
  have h1 := okB_at ha i; have h2 := okB_at hb i
  unfold gapF; omega

theorem addF_bd {a b : List Int} (ha : okB a = true) (hb : okB b = true) (i : Nat) : -2000 ≤ addF a b i ∧ addF a b i ≤ 2000 := by
  have h1 := okB_at ha i; have h2 := okB_at hb i
  unfold addF; omega

theorem tabL_length (f : Nat → Int) (n : Nat) : (tabL f n).length = n := by simp [tabL]
theorem tabL_getD (f : Nat → Int) (n i : Nat) (h : i < n) : nth (tabL f n) i = f i := by simp [nth, tabL, List.getD, h]
theorem tabL_succ (f : Nat → Int) (n : Nat) : tabL f (n + 1) = tabL f n ++ [f n] := by simp [tabL, List.range_succ]
theorem sumTo_congr (f g : Nat → Int) (n : Nat) (h : ∀ i, i < n → f i = g i) : sumTo f n = sumTo g n := by
  induction n with
  | zero => rfl
  | succ n ih => simp only [sumTo]; rw [ih (fun i hi => h i (by omega)), h n (by omega)]
theorem maxTo_congr (f g : Nat → Int) (n : Nat) (h : ∀ i, i < n → f i = g i) : maxTo f n = maxTo g n := by
  induction n with
  | zero => rfl
  | succ n ih => simp only [maxTo]; rw [ih (fun i hi => h i (by omega)), h n (by omega)]


def absV (x : Int) : Int := max x (-x)
def maxV (x y : Int) : Int := max x y
theorem gapF_abs (a b : List Int) (i : Nat) : gapF a b i = absV (nth a i - nth b i) := by unfold gapF absV; omega
theorem twoB_true {a b : List Int} (ha : okB a = true) (hb : okB b = true) (hl : a.length = b.length) : twoB a b = true := by simp [twoB, ha, hb, hl]
theorem twoB_left {a b : List Int} (ha : okB a = false) : twoB a b = false := by simp [twoB, ha]
theorem twoB_right {a b : List Int} (hb : okB b = false) : twoB a b = false := by simp [twoB, hb]
theorem twoB_len {a b : List Int} (hl : ¬ a.length = b.length) : twoB a b = false := by simp [twoB, hl]

end Go.Proofs.Ytbmljcpeonopmaa
namespace Go.Proofs.Ytbmljcpeonopmaa
set_option linter.unusedSimpArgs false

theorem list_eq_of_nth {xs ys : List Int} (hl : xs.length = ys.length) (h : ∀ j, j < xs.length → nth xs j = nth ys j) : xs = ys := by
  apply List.ext_getElem hl
  intro i h1 h2
  have := h i h1
  simpa [nth, List.getD, h1, h2] using this
theorem twoB_comm (a b : List Int) : twoB a b = twoB b a := by
  rcases h1 : okB a with _ | _ <;> rcases h2 : okB b with _ | _ <;> simp [twoB, h1, h2, eq_comm]
theorem gapF_comm (a b : List Int) (i : Nat) : gapF a b i = gapF b a i := by unfold gapF; omega
theorem mulF_comm (a b : List Int) (i : Nat) : mulF a b i = mulF b a i := Int.mul_comm _ _
theorem sqF_gap (a b : List Int) (i : Nat) : sqF a b i = gapF a b i * gapF a b i := by
  unfold sqF gapF
  rcases Int.le_total (nth a i - nth b i) (nth b i - nth a i) with h | h
  · rw [Int.max_eq_right h, show nth b i - nth a i = -(nth a i - nth b i) by omega, Int.neg_mul_neg]
  · rw [Int.max_eq_left h]
theorem stepsV_comm (a b : List Int) : stepsV b a = stepsV a b := by
  unfold stepsV
  rw [twoB_comm b a]
  by_cases h : twoB a b = true
  · rw [if_pos h, if_pos h, (twoB_of h).2.2]; exact sumTo_congr _ _ _ (fun i _ => gapF_comm b a i)
  · rw [if_neg h, if_neg h]
theorem reachV_comm (a b : List Int) : reachV b a = reachV a b := by
  unfold reachV
  rw [twoB_comm b a]
  by_cases h : twoB a b = true
  · rw [if_pos h, if_pos h, (twoB_of h).2.2]; exact maxTo_congr _ _ _ (fun i _ => gapF_comm b a i)
  · rw [if_neg h, if_neg h]
theorem dotV_comm (a b : List Int) : dotV b a = dotV a b := by
  unfold dotV
  rw [twoB_comm b a]
  by_cases h : twoB a b = true
  · rw [if_pos h, if_pos h, (twoB_of h).2.2]; exact sumTo_congr _ _ _ (fun i _ => mulF_comm b a i)
  · rw [if_neg h, if_neg h]

theorem sum_third (f g h : Nat → Int) (H : ∀ i, f i ≤ g i + h i) (n : Nat) : sumTo f n ≤ sumTo g n + sumTo h n := by
  induction n with
  | zero => simp [sumTo]
  | succ n ih => have := H n; simp only [sumTo]; omega
theorem max_third (f g h : Nat → Int) (H : ∀ i, f i ≤ g i + h i) (n : Nat) : maxTo f n ≤ maxTo g n + maxTo h n := by
  induction n with
  | zero => simp [maxTo]
  | succ n ih => have := H n; simp only [maxTo]; omega
theorem gap_third (a b c : List Int) (i : Nat) : gapF a b i ≤ gapF a c i + gapF c b i := by unfold gapF; omega

theorem max_le_sum (g : Nat → Int) (h : ∀ i, 0 ≤ g i) (n : Nat) : maxTo g n ≤ sumTo g n := by
  have h0 : ∀ n, 0 ≤ sumTo g n := fun n => by
    induction n with
    | zero => simp [sumTo]
    | succ n ih => have := h n; simp only [sumTo]; omega
  induction n with
  | zero => simp [maxTo, sumTo]
  | succ n ih => have := h n; have := h0 n; simp only [maxTo, sumTo]; omega
theorem sum_le_max (g : Nat → Int) (n : Nat) : sumTo g n ≤ n * maxTo g n := by
  induction n with
  | zero => simp [sumTo]
  | succ n ih =>
    simp only [sumTo, maxTo]
    have h1 : (n : Int) * maxTo g n ≤ n * max (maxTo g n) (g n) := Int.mul_le_mul_of_nonneg_left (by omega) (by omega)
    rw [show ((n + 1 : Nat) : Int) = (n : Int) + 1 by omega, Int.add_mul]
    omega
theorem sumsq_nonneg (g : Nat → Int) (n : Nat) : 0 ≤ sumTo (fun i => g i * g i) n := by
  induction n with
  | zero => simp [sumTo]
  | succ n ih => have := sq_nonneg (g n); simp only [sumTo]; omega
theorem max_sq (g : Nat → Int) (n : Nat) : maxTo g n * maxTo g n ≤ sumTo (fun i => g i * g i) n := by
  induction n with
  | zero => simp [maxTo, sumTo]
  | succ n ih =>
    simp only [maxTo, sumTo]
    have h1 := sq_nonneg (g n)
    have h2 := sumsq_nonneg g n
    rcases Int.le_total (maxTo g n) (g n) with h | h
    · rw [Int.max_eq_right h]; omega
    · rw [Int.max_eq_left h]; omega
theorem sumsq_le (g : Nat → Int) (h : ∀ i, 0 ≤ g i) (n : Nat) : 0 ≤ sumTo g n ∧ sumTo (fun i => g i * g i) n ≤ sumTo g n * sumTo g n := by
  induction n with
  | zero => simp [sumTo]
  | succ n ih =>
    have h1 := h n
    have h2 := Int.mul_nonneg ih.1 h1
    simp only [sumTo]
    refine ⟨by omega, ?_⟩
    rw [Int.mul_add, Int.add_mul, Int.add_mul, Int.mul_comm (g n) (sumTo g n)]
    omega
theorem sum_sq_le (g : Nat → Int) (n : Nat) : sumTo g n * sumTo g n ≤ n * sumTo (fun i => g i * g i) n := by
  induction n with
  | zero => simp [sumTo]
  | succ n ih =>
    simp only [sumTo]
    generalize hs : sumTo g n = s at *
    generalize hq : sumTo (fun i => g i * g i) n = q at *
    generalize hx : g n = x at *
    rcases Nat.eq_zero_or_pos n with h0 | h0
    · subst h0
      have e1 : s = 0 := by rw [← hs]; rfl
      have e2 : q = 0 := by rw [← hq]; rfl
      rw [e1, e2]; simp
    · have hk : (0 : Int) < (n : Int) := by omega
      rw [show ((n + 1 : Nat) : Int) = (n : Int) + 1 by omega]
      generalize (n : Int) = k at *
      have h1 : 0 ≤ k * (q + k * (x * x) - 2 * (s * x)) := by
        have := sq_nonneg (s - k * x)
        have e : (s - k * x) * (s - k * x) = s * s + k * (k * (x * x) - 2 * (s * x)) := by (try simp only [Int.two_mul]); simp only [Int.mul_add, Int.add_mul, Int.mul_sub, Int.sub_mul, Int.one_mul, Int.mul_one, Int.mul_comm, Int.mul_left_comm, Int.mul_assoc]; omega
        have e2 : k * (q + k * (x * x) - 2 * (s * x)) = k * q + k * (k * (x * x) - 2 * (s * x)) := by (try simp only [Int.two_mul]); simp only [Int.mul_add, Int.add_mul, Int.mul_sub, Int.sub_mul, Int.one_mul, Int.mul_one, Int.mul_comm, Int.mul_left_comm, Int.mul_assoc]; omega
        omega
      have h2 : 0 ≤ q + k * (x * x) - 2 * (s * x) := by
        rcases Int.lt_or_le (q + k * (x * x) - 2 * (s * x)) 0 with h | h
        · have := Int.mul_lt_mul_of_pos_left h hk
          omega
        · exact h
      have e3 : (s + x) * (s + x) = s * s + 2 * (s * x) + x * x := by (try simp only [Int.two_mul]); simp only [Int.mul_add, Int.add_mul, Int.mul_sub, Int.sub_mul, Int.one_mul, Int.mul_one, Int.mul_comm, Int.mul_left_comm, Int.mul_assoc]; omega
      have e4 : (k + 1) * (q + x * x) = k * q + q + k * (x * x) + x * x := by (try simp only [Int.two_mul]); simp only [Int.mul_add, Int.add_mul, Int.mul_sub, Int.sub_mul, Int.one_mul, Int.mul_one, Int.mul_comm, Int.mul_left_comm, Int.mul_assoc]; omega
      omega
theorem sum_zero (g : Nat → Int) (h : ∀ i, 0 ≤ g i) (n : Nat) (hz : sumTo g n = 0) : ∀ i, i < n → g i = 0 := by
  induction n with
  | zero => intro i hi; omega
  | succ n ih =>
    have h1 := h n
    have h2 := (sumsq_le g h n).1
    simp only [sumTo] at hz
    intro i hi
    rcases Nat.lt_or_ge i n with h3 | h3
    · exact ih (by omega) i h3
    · rw [show i = n by omega]; omega

/-- What the law of the third side asks, of two points a, b and a third one c. -/
theorem third {a b c : List Int} (hab : twoB a b = true) (hac : twoB a c = true) :
    0 ≤ stepsV a b ∧ stepsV a b ≤ 8000 ∧ 0 ≤ reachV a b ∧ reachV a b ≤ 2000 ∧ 0 ≤ farV a b ∧ farV a b ≤ 16000000 ∧
    0 ≤ stepsV a c ∧ stepsV a c ≤ 8000 ∧ 0 ≤ stepsV c b ∧ stepsV c b ≤ 8000 ∧ 0 ≤ reachV a c ∧ reachV a c ≤ 2000 ∧ 0 ≤ reachV c b ∧ reachV c b ≤ 2000 ∧
    (stepsV a b = 0 ↔ a = b) ∧ stepsV a b ≤ stepsV a c + stepsV c b ∧ reachV a b ≤ reachV a c + reachV c b ∧ reachV a b ≤ stepsV a b ∧
    stepsV a b ≤ a.length * reachV a b ∧ reachV a b * reachV a b ≤ farV a b ∧ farV a b ≤ stepsV a b * stepsV a b ∧ stepsV a b * stepsV a b ≤ a.length * farV a b := by
  obtain ⟨ha, hb, hl⟩ := twoB_of hab
  obtain ⟨_, hc, hl'⟩ := twoB_of hac
  have hcb : twoB c b = true := twoB_true hc hb (by omega)
  have h4 := okB_len ha
  have e1 : stepsV a b = sumTo (gapF a b) a.length := by unfold stepsV; rw [if_pos hab]
  have e2 : reachV a b = maxTo (gapF a b) a.length := by unfold reachV; rw [if_pos hab]
  have e3 : farV a b = sumTo (fun i => gapF a b i * gapF a b i) a.length := by unfold farV; rw [if_pos hab]; exact sumTo_congr _ _ _ (fun i _ => sqF_gap a b i)
  have e4 : stepsV a c = sumTo (gapF a c) a.length := by unfold stepsV; rw [if_pos hac]
  have e5 : stepsV c b = sumTo (gapF c b) a.length := by unfold stepsV; rw [if_pos hcb, hl']
  have e6 : reachV a c = maxTo (gapF a c) a.length := by unfold reachV; rw [if_pos hac]
  have e7 : reachV c b = maxTo (gapF c b) a.length := by unfold reachV; rw [if_pos hcb, hl']
  have e8 : farV a b = sumTo (sqF a b) a.length := by unfold farV; rw [if_pos hab]
  have hab0 := fun i => (gapF_bd ha hb i).1
  have b1 := sumTo_le (gapF a b) 0 2000 (gapF_bd ha hb) a.length
  have b2 := maxTo_le (gapF a b) 2000 (by omega) (fun i => (gapF_bd ha hb i).2) a.length
  have b3 := sumTo_le (sqF a b) 0 4000000 (sqF_bd ha hb) a.length
  have b4 := sumTo_le (gapF a c) 0 2000 (gapF_bd ha hc) a.length
  have b5 := sumTo_le (gapF c b) 0 2000 (gapF_bd hc hb) a.length
  have b6 := maxTo_le (gapF a c) 2000 (by omega) (fun i => (gapF_bd ha hc i).2) a.length
  have b7 := maxTo_le (gapF c b) 2000 (by omega) (fun i => (gapF_bd hc hb i).2) a.length
  refine ⟨by omega, by omega, by omega, by omega, by omega, by omega, by omega, by omega, by omega, by omega, by omega, by omega, by omega, by omega, ?_, ?_, ?_, ?_, ?_, ?_, ?_, ?_⟩
  · rw [e1]
    constructor
    · intro hz
      refine list_eq_of_nth hl (fun j hj => ?_)
      have := sum_zero (gapF a b) hab0 a.length hz j hj
      unfold gapF at this; omega
    · rintro rfl
      have : sumTo (gapF a a) a.length = sumTo (fun _ => 0) a.length := sumTo_congr _ _ _ (fun i _ => by unfold gapF; omega)
      rw [this]
      have := sumTo_le (fun _ => (0 : Int)) 0 0 (fun _ => ⟨Int.le_refl _, Int.le_refl _⟩) a.length
      omega
  · rw [e1, e4, e5]; exact sum_third _ _ _ (gap_third a b c) _
  · rw [e2, e6, e7]; exact max_third _ _ _ (gap_third a b c) _
  · rw [e1, e2]; exact max_le_sum _ hab0 _
  · rw [e1, e2]; exact sum_le_max _ _
  · rw [e2, e3]; exact max_sq _ _
  · rw [e1, e3]; exact (sumsq_le _ hab0 _).2
  · rw [e1, e3]; exact sum_sq_le _ _

end Go.Proofs.Ytbmljcpeonopmaa
namespace Go.Proofs.Ytbmljcpeonopmaa

abbrev Mk := Int × List Int
def mid (ms : List Mk) (i : Nat) : Int := (ms.getD i (0, [])).1
def mat (ms : List Mk) (i : Nat) : List Int := (ms.getD i (0, [])).2
def mOkAt (ms : List Mk) (i : Nat) : Bool :=
  decide (1 ≤ mid ms i) && decide (mid ms i ≤ 1000000) && okB (mat ms i) && decide ((mat ms i).length = (mat ms 0).length) && (decide (i = 0) || decide (mid ms (i - 1) < mid ms i))
def marksB (ms : List Mk) : Bool := decide (ms.length ≤ 60) && (List.range ms.length).all (mOkAt ms)
def kindB (k : Int) : Bool := decide (1 ≤ k) && decide (k ≤ 3)
def betV (a b : List Int) (k : Int) : Int := if k = 1 then farV a b else if k = 2 then stepsV a b else if k = 3 then reachV a b else -1
def betF (ms : List Mk) (p : List Int) (k : Int) (i : Nat) : Int := betV p (mat ms i) k
def mostV (ms : List Mk) (p : List Int) (k : Int) : Int := maxTo (betF ms p k) ms.length
def mostF (ms : List Mk) (k : Int) (i : Nat) : Int := mostV ms (mat ms i) k
def noneB (ms : List Mk) (k : Int) : Bool := decide (ms.length = 0) || !marksB ms || !kindB k
def diaV (ms : List Mk) (k : Int) : Int := if noneB ms k = true then -1 else maxTo (mostF ms k) ms.length
def bestI (ms : List Mk) (k : Int) : Nat → Nat
  | 0 => 0
  | n + 1 => if mostF ms k n < mostF ms k (bestI ms k n) then n else bestI ms k n
def midV (ms : List Mk) (k : Int) : Int := if noneB ms k = true then 0 else mid ms (bestI ms k ms.length)

theorem mOkAt_iff (ms : List Mk) (i : Nat) : mOkAt ms i = true ↔ 1 ≤ mid ms i ∧ mid ms i ≤ 1000000 ∧ okB (mat ms i) = true ∧ (mat ms i).length = (mat ms 0).length ∧ (i = 0 ∨ mid ms (i - 1) < mid ms i) := by
  simp [mOkAt, and_assoc]
theorem marksB_len {ms : List Mk} (h : marksB ms = true) : ms.length ≤ 60 := by simp [marksB] at h; exact h.1
theorem marksB_at {ms : List Mk} (h : marksB ms = true) {i : Nat} (hi : i < ms.length) : mOkAt ms i = true := by
  simp only [marksB, Bool.and_eq_true, List.all_eq_true] at h
  exact h.2 i (List.mem_range.2 hi)
theorem marksB_long {ms : List Mk} (h : 60 < ms.length) : marksB ms = false := by simp [marksB]; omega
theorem marksB_out {ms : List Mk} {i : Nat} (hi : i < ms.length) (h : mOkAt ms i = false) : marksB ms = false := by
  rcases hb : marksB ms with _ | _
  · rfl
  · rw [marksB_at hb hi] at h; cases h
theorem marksB_mk {ms : List Mk} (hl : ms.length ≤ 60) (h : ∀ i, i < ms.length → mOkAt ms i = true) : marksB ms = true := by
  simp only [marksB, Bool.and_eq_true, List.all_eq_true, decide_eq_true_eq]
  exact ⟨hl, fun i hi => h i (List.mem_range.1 hi)⟩
theorem mOkAt_false (ms : List Mk) (i : Nat) (h : ¬ (1 ≤ mid ms i ∧ mid ms i ≤ 1000000 ∧ okB (mat ms i) = true ∧ (mat ms i).length = (mat ms 0).length ∧ (i = 0 ∨ mid ms (i - 1) < mid ms i))) : mOkAt ms i = false := by
  rcases hb : mOkAt ms i with _ | _
  · rfl
  · exact absurd ((mOkAt_iff ms i).1 hb) h
theorem marks_two {ms : List Mk} (h : marksB ms = true) {i j : Nat} (hi : i < ms.length) (hj : j < ms.length) : twoB (mat ms i) (mat ms j) = true := by
  have a := (mOkAt_iff ms i).1 (marksB_at h hi)
  have b := (mOkAt_iff ms j).1 (marksB_at h hj)
  exact twoB_true a.2.2.1 b.2.2.1 (by omega)

theorem betV_le (a b : List Int) (k : Int) : -1 ≤ betV a b k ∧ betV a b k ≤ 16000000 := by
  rcases ht : twoB a b with _ | _
  · have : betV a b k = -1 := by simp [betV, farV, stepsV, reachV, ht]
    omega
  · obtain ⟨ha, hb, hl⟩ := twoB_of ht
    have h4 := okB_len ha
    have h1 := sumTo_le (sqF a b) 0 4000000 (sqF_bd ha hb) a.length
    have h2 := sumTo_le (gapF a b) 0 2000 (gapF_bd ha hb) a.length
    have h3 := maxTo_le (gapF a b) 2000 (by omega) (fun i => (gapF_bd ha hb i).2) a.length
    simp only [betV, farV, stepsV, reachV, ht, if_true]
    split
    · omega
    · split
      · omega
      · split <;> omega
theorem most_le (ms : List Mk) (p : List Int) (k : Int) (n : Nat) : 0 ≤ maxTo (betF ms p k) n ∧ maxTo (betF ms p k) n ≤ 16000000 :=
  maxTo_le _ _ (by omega) (fun i => (betV_le _ _ _).2) n
theorem mostF_le (ms : List Mk) (k : Int) (i : Nat) : 0 ≤ mostF ms k i ∧ mostF ms k i ≤ 16000000 := most_le _ _ _ _
theorem dia_le (ms : List Mk) (k : Int) (n : Nat) : 0 ≤ maxTo (mostF ms k) n ∧ maxTo (mostF ms k) n ≤ 16000000 :=
  maxTo_le _ _ (by omega) (fun i => (mostF_le _ _ _).2) n

theorem maxTo_ge (f : Nat → Int) (n j : Nat) (h : j < n) : f j ≤ maxTo f n := by
  induction n with
  | zero => omega
  | succ n ih =>
    simp only [maxTo]
    rcases Nat.lt_or_ge j n with h1 | h1
    · have := ih h1; omega
    · rw [show j = n by omega]; omega
theorem maxTo_lub (f : Nat → Int) (n : Nat) (c : Int) (h0 : 0 ≤ c) (h : ∀ j, j < n → f j ≤ c) : maxTo f n ≤ c := by
  induction n with
  | zero => exact h0
  | succ n ih => have := ih (fun j hj => h j (by omega)); have := h n (by omega); simp only [maxTo]; omega

theorem bestI_one (ms : List Mk) (k : Int) : bestI ms k 1 = 0 := by simp [bestI]
theorem bestI_lt (ms : List Mk) (k : Int) (n : Nat) (h : 0 < n) : bestI ms k n < n := by
  induction n with
  | zero => omega
  | succ n ih =>
    simp only [bestI]
    split
    · omega
    · rcases Nat.eq_zero_or_pos n with h0 | h0
      · subst h0; simp [bestI]
      · have := ih h0; omega
theorem bestI_least (ms : List Mk) (k : Int) (n j : Nat) (h : j < n) : mostF ms k (bestI ms k n) ≤ mostF ms k j := by
  induction n with
  | zero => omega
  | succ n ih =>
    simp only [bestI]
    rcases Nat.lt_or_ge j n with h1 | h1
    · have := ih h1
      split <;> omega
    · rw [show j = n by omega]
      split <;> omega

theorem noneB_of {ms : List Mk} {k : Int} (h : noneB ms k = false) : 0 < ms.length ∧ marksB ms = true ∧ kindB k = true := by
  simp [noneB] at h
  exact ⟨List.length_pos_iff.2 h.1.1, h.1.2, h.2⟩
theorem noneB_nil {ms : List Mk} {k : Int} (h : ms.length = 0) : noneB ms k = true := by simp [noneB, h]
theorem noneB_bad {ms : List Mk} {k : Int} (h : marksB ms = false) : noneB ms k = true := by simp [noneB, h]
theorem noneB_kind {ms : List Mk} {k : Int} (h : kindB k = false) : noneB ms k = true := by simp [noneB, h]
theorem noneB_false {ms : List Mk} {k : Int} (h0 : ms.length ≠ 0) (hm : marksB ms = true) (hk : kindB k = true) : noneB ms k = false := by simp [noneB, hm, hk]; simpa using h0
theorem kindB_iff (k : Int) : kindB k = true ↔ 1 ≤ k ∧ k ≤ 3 := by simp [kindB]
theorem kindB_false {k : Int} (h : ¬ (1 ≤ k ∧ k ≤ 3)) : kindB k = false := by
  rcases hb : kindB k with _ | _
  · rfl
  · exact absurd ((kindB_iff k).1 hb) h

end Go.Proofs.Ytbmljcpeonopmaa
namespace Go.Proofs.Ytbmljcpeonopmaa

/-- A hit: its number, and how far. -/
abbrev Ht := Int × Int
def aheadB (a b : Ht) : Bool := decide (a.2 < b.2) || (decide (a.2 = b.2) && decide (a.1 < b.1))
/-- In order, or alike. -/
def leH (a b : Ht) : Prop := a.2 < b.2 ∨ (a.2 = b.2 ∧ a.1 ≤ b.1)
def hnth (hs : List Ht) (i : Nat) : Ht := hs.getD i (0, 0)
def putL : List Ht → Ht → List Ht
  | [], h => [h]
  | x :: xs, h => if aheadB h x = true then h :: x :: xs else x :: putL xs h
def sortL (l : List Ht) : List Ht := l.foldl putL []
def SortedH (l : List Ht) : Prop := l.Pairwise leH

theorem aheadB_iff (a b : Ht) : aheadB a b = true ↔ a.2 < b.2 ∨ (a.2 = b.2 ∧ a.1 < b.1) := by simp [aheadB]
theorem aheadB_false (a b : Ht) : aheadB a b = false ↔ leH b a := by
  unfold leH
  rcases h : aheadB a b with _ | _
  · have : ¬ (a.2 < b.2 ∨ (a.2 = b.2 ∧ a.1 < b.1)) := fun hh => by rw [(aheadB_iff a b).2 hh] at h; cases h
    constructor
    · intro _; omega
    · intro _; rfl
  · have := (aheadB_iff a b).1 h
    constructor
    · intro hh; cases hh
    · intro hh; omega
theorem leH_refl (a : Ht) : leH a a := by unfold leH; omega
theorem leH_trans {a b c : Ht} (h : leH a b) (k : leH b c) : leH a c := by unfold leH at *; omega
theorem leH_antisymm {a b : Ht} (h : leH a b) (k : leH b a) : a = b := by
  unfold leH at *
  exact Prod.ext (by omega) (by omega)
theorem leH_total (a b : Ht) : leH a b ∨ leH b a := by unfold leH; omega
theorem leH_of_ahead {a b : Ht} (h : aheadB a b = true) : leH a b := by rw [aheadB_iff] at h; unfold leH; omega

theorem putL_perm (l : List Ht) (h : Ht) : (putL l h).Perm (h :: l) := by
  induction l with
  | nil => exact List.Perm.refl _
  | cons x xs ih =>
    unfold putL
    split
    · exact List.Perm.refl _
    · exact (List.Perm.cons x ih).trans (List.Perm.swap h x xs)
theorem putL_length (l : List Ht) (h : Ht) : (putL l h).length = l.length + 1 := by rw [(putL_perm l h).length_eq]; rfl
theorem putL_sorted {l : List Ht} (hl : SortedH l) (h : Ht) : SortedH (putL l h) := by
  unfold SortedH at *
  induction l with
  | nil => simp [putL]
  | cons x xs ih =>
    rw [List.pairwise_cons] at hl
    unfold putL
    split
    · rename_i ha
      have hx := leH_of_ahead ha
      exact List.pairwise_cons.2 ⟨fun y hy => by
        rcases List.mem_cons.1 hy with rfl | hy
        · exact hx
        · exact leH_trans hx (hl.1 y hy), List.pairwise_cons.2 hl⟩
    · rename_i ha
      have hx : leH x h := (aheadB_false h x).1 (by simpa using ha)
      refine List.pairwise_cons.2 ⟨fun y hy => ?_, ih hl.2⟩
      rcases List.mem_cons.1 ((putL_perm xs h).mem_iff.1 hy) with rfl | hy
      · exact hx
      · exact hl.1 y hy
theorem fold_perm (l acc : List Ht) : (l.foldl putL acc).Perm (acc ++ l) := by
  induction l generalizing acc with
  | nil => simp
  | cons x xs ih =>
    refine (ih (putL acc x)).trans ?_
    refine ((putL_perm acc x).append_right xs).trans ?_
    exact (List.perm_middle (a := x) (l₁ := acc) (l₂ := xs)).symm
theorem fold_sorted (l acc : List Ht) (h : SortedH acc) : SortedH (l.foldl putL acc) := by
  induction l generalizing acc with
  | nil => exact h
  | cons x xs ih => exact ih _ (putL_sorted h x)
theorem sortL_perm (l : List Ht) : (sortL l).Perm l := by simpa [sortL] using fold_perm l []
theorem sortL_sorted (l : List Ht) : SortedH (sortL l) := fold_sorted l [] List.Pairwise.nil
theorem sortL_length (l : List Ht) : (sortL l).length = l.length := (sortL_perm l).length_eq
theorem sortL_snoc (l : List Ht) (h : Ht) : sortL (l ++ [h]) = putL (sortL l) h := by simp [sortL, List.foldl_append]
/-- Two sorted lists of the same hits are one. -/
theorem sorted_unique {l m : List Ht} (hl : SortedH l) (hm : SortedH m) (hp : l.Perm m) : l = m := by
  unfold SortedH at *
  induction l generalizing m with
  | nil => exact (List.nil_perm.1 hp).symm
  | cons x xs ih =>
    cases m with
    | nil => exact absurd hp.length_eq (by simp)
    | cons y ys =>
      rw [List.pairwise_cons] at hl hm
      have hxy : leH x y := by
        rcases List.mem_cons.1 (hp.mem_iff.2 (List.mem_cons_self ..) : y ∈ x :: xs) with h | h
        · rw [h]; exact leH_refl x
        · exact hl.1 y h
      have hyx : leH y x := by
        rcases List.mem_cons.1 (hp.mem_iff.1 (List.mem_cons_self ..) : x ∈ y :: ys) with h | h
        · rw [h]; exact leH_refl y
        · exact hm.1 x h
      obtain rfl := leH_antisymm hxy hyx
      rw [ih hl.2 hm.2 (List.Perm.cons_inv hp)]
theorem sortL_unique {l m : List Ht} (hm : SortedH m) (hp : m.Perm l) : m = sortL l := sorted_unique hm (sortL_sorted l) (hp.trans (sortL_perm l).symm)
theorem sortL_congr {l m : List Ht} (hp : l.Perm m) : sortL l = sortL m := sorted_unique (sortL_sorted l) (sortL_sorted m) ((sortL_perm l).trans (hp.trans (sortL_perm m).symm))

def hasB (ids : List Int) (x : Int) : Bool := ids.contains x
/-- Each number once, its first. -/
def onceG (ids : List Int) : List Ht → List Ht
  | [] => []
  | x :: xs => if hasB ids x.1 = true then onceG ids xs else x :: onceG (ids ++ [x.1]) xs
def onceL (l : List Ht) : List Ht := onceG [] l

def hitOkAt (hs : List Ht) (i : Nat) : Bool := decide (1 ≤ (hnth hs i).1) && decide (0 ≤ (hnth hs i).2) && (decide (i = 0) || aheadB (hnth hs (i - 1)) (hnth hs i))
def hitsB (hs : List Ht) : Bool := (List.range hs.length).all (hitOkAt hs)
theorem hitsB_at {hs : List Ht} (h : hitsB hs = true) {i : Nat} (hi : i < hs.length) : hitOkAt hs i = true := by
  simp only [hitsB, List.all_eq_true] at h
  exact h i (List.mem_range.2 hi)
theorem hitsB_out {hs : List Ht} {i : Nat} (hi : i < hs.length) (h : hitOkAt hs i = false) : hitsB hs = false := by
  rcases hb : hitsB hs with _ | _
  · rfl
  · rw [hitsB_at hb hi] at h; cases h
theorem hitsB_mk {hs : List Ht} (h : ∀ i, i < hs.length → hitOkAt hs i = true) : hitsB hs = true := by
  simp only [hitsB, List.all_eq_true]
  exact fun i hi => h i (List.mem_range.1 hi)

/-- Are marks and a place as told. -/
def toldB (ms : List Mk) (q : List Int) : Bool := marksB ms && okB q && (decide (ms.length = 0) || decide ((mat ms 0).length = q.length))
def hitF (q : List Int) (m : Mk) : Ht := (m.1, farV m.2 q)
def hitsL (ms : List Mk) (q : List Int) : List Ht := ms.map (hitF q)
def countB (k : Int) : Bool := decide (1 ≤ k) && decide (k ≤ 60)
def nearL (ms : List Mk) (q : List Int) (k : Int) : List Ht := if toldB ms q = true ∧ countB k = true then (sortL (hitsL ms q)).take k.toNat else []
def withinL (ms : List Mk) (q : List Int) (most : Int) : List Ht := if toldB ms q = true ∧ 0 ≤ most then (sortL (hitsL ms q)).filter (fun h => decide (h.2 ≤ most)) else []
def mergedL (a b : List Ht) (k : Int) : List Ht := if countB k = true then (onceL (sortL (a ++ b))).take k.toNat else []

theorem mergedL_comm (a b : List Ht) (k : Int) : mergedL b a k = mergedL a b k := by
  unfold mergedL
  rw [sortL_congr (List.perm_append_comm : (b ++ a).Perm (a ++ b))]

theorem toldB_bad {ms : List Mk} {q : List Int} (h : marksB ms = false) : toldB ms q = false := by simp [toldB, h]
theorem toldB_no {ms : List Mk} {q : List Int} (h : okB q = false) : toldB ms q = false := by simp [toldB, h]

end Go.Proofs.Ytbmljcpeonopmaa
namespace Go.Proofs.Ytbmljcpeonopmaa

/-- Put ahead of the first one that is not ahead of it. -/
def insBy {α : Type} (lt : α → α → Bool) (x : α) : List α → List α
  | [] => [x]
  | y :: ys => if lt y x = true then y :: insBy lt x ys else x :: y :: ys
def posBy {α : Type} (lt : α → α → Bool) (x : α) : List α → Nat
  | [] => 0
  | y :: ys => if lt y x = true then posBy lt x ys + 1 else 0
def sortBy {α : Type} (lt : α → α → Bool) (l : List α) : List α := l.foldl (fun acc x => insBy lt x acc) []
/-- An order in which two that are neither ahead of the other are one, on those of a list. -/
structure Parts {α : Type} (lt : α → α → Bool) (P : α → Prop) : Prop where
  trans : ∀ a b c, P a → P b → P c → lt a b = true → lt b c = true → lt a c = true
  one : ∀ a b, P a → P b → lt a b = false → lt b a = false → a = b
  asym : ∀ a b, P a → P b → lt a b = true → lt b a = false

theorem posBy_le {α : Type} (lt : α → α → Bool) (x : α) (l : List α) : posBy lt x l ≤ l.length := by
  induction l with
  | nil => simp [posBy]
  | cons y ys ih => unfold posBy; split <;> simp <;> omega
theorem insBy_eq {α : Type} (lt : α → α → Bool) (x : α) (l : List α) : insBy lt x l = l.take (posBy lt x l) ++ x :: l.drop (posBy lt x l) := by
  induction l with
  | nil => rfl
  | cons y ys ih =>
    unfold insBy posBy
    split
    · rw [ih]; rfl
    · rfl
theorem posBy_lt {α : Type} (lt : α → α → Bool) (x : α) (l : List α) (i : Nat) (h : i < l.length) (hi : i < posBy lt x l) : lt l[i] x = true := by
  induction l generalizing i with
  | nil => simp at h
  | cons y ys ih =>
    unfold posBy at hi
    split at hi
    · rename_i hy
      match i with
      | 0 => exact hy
      | k + 1 => exact ih k (by simpa using h) (by omega)
    · omega
theorem posBy_at {α : Type} (lt : α → α → Bool) (x : α) (l : List α) (h : posBy lt x l < l.length) : lt l[posBy lt x l] x = false := by
  induction l with
  | nil => simp at h
  | cons y ys ih =>
    by_cases hy : lt y x = true
    · have e : posBy lt x (y :: ys) = posBy lt x ys + 1 := by simp [posBy, hy]
      simp only [e] at h ⊢
      exact ih (by simpa using h)
    · have e : posBy lt x (y :: ys) = 0 := by simp [posBy, hy]
      simp only [e]
      simpa using hy
/-- The place found by going on while those there are ahead. -/
theorem posBy_uniq {α : Type} (lt : α → α → Bool) (x : α) (l : List α) (k : Nat) (hk : k ≤ l.length) (h1 : ∀ i (h : i < l.length), i < k → lt l[i] x = true) (h2 : ∀ h : k < l.length, lt l[k] x = false) : posBy lt x l = k := by
  rcases Nat.lt_trichotomy (posBy lt x l) k with h | h | h
  · have := h1 (posBy lt x l) (by omega) h
    rw [posBy_at lt x l (by omega)] at this; cases this
  · exact h
  · have hl := posBy_le lt x l
    have := posBy_lt lt x l k (by omega) h
    rw [h2 (by omega)] at this; cases this
theorem insBy_perm {α : Type} (lt : α → α → Bool) (x : α) (l : List α) : (insBy lt x l).Perm (x :: l) := by
  induction l with
  | nil => exact List.Perm.refl _
  | cons y ys ih =>
    unfold insBy
    split
    · exact (List.Perm.cons y ih).trans (List.Perm.swap x y ys)
    · exact List.Perm.refl _
theorem insBy_length {α : Type} (lt : α → α → Bool) (x : α) (l : List α) : (insBy lt x l).length = l.length + 1 := by rw [(insBy_perm lt x l).length_eq]; rfl
theorem foldBy_perm {α : Type} (lt : α → α → Bool) (l acc : List α) : (l.foldl (fun acc x => insBy lt x acc) acc).Perm (acc ++ l) := by
  induction l generalizing acc with
  | nil => simp
  | cons x xs ih =>
    refine (ih (insBy lt x acc)).trans ?_
    refine ((insBy_perm lt x acc).append_right xs).trans ?_
    exact (List.perm_middle (a := x) (l₁ := acc) (l₂ := xs)).symm
theorem sortBy_perm {α : Type} (lt : α → α → Bool) (l : List α) : (sortBy lt l).Perm l := by simpa [sortBy] using foldBy_perm lt l []
theorem sortBy_length {α : Type} (lt : α → α → Bool) (l : List α) : (sortBy lt l).length = l.length := (sortBy_perm lt l).length_eq
theorem sortBy_snoc {α : Type} (lt : α → α → Bool) (l : List α) (x : α) : sortBy lt (l ++ [x]) = insBy lt x (sortBy lt l) := by simp [sortBy, List.foldl_append]
theorem sortBy_take {α : Type} (lt : α → α → Bool) (l : List α) (i : Nat) (h : i < l.length) : sortBy lt (l.take (i + 1)) = insBy lt l[i] (sortBy lt (l.take i)) := by
  rw [← sortBy_snoc, List.take_add_one, List.getElem?_eq_getElem h]; rfl

/-- Not behind the next ones. -/
def SortedBy {α : Type} (lt : α → α → Bool) (l : List α) : Prop := l.Pairwise fun a b => lt b a = false
theorem insBy_sorted {α : Type} {lt : α → α → Bool} {P : α → Prop} (hp : Parts lt P) (x : α) (l : List α) (hx : P x) (hl : ∀ y ∈ l, P y) (hs : SortedBy lt l) : SortedBy lt (insBy lt x l) := by
  unfold SortedBy at *
  induction l with
  | nil => simp [insBy]
  | cons y ys ih =>
    rw [List.pairwise_cons] at hs
    have hy := hl y (List.mem_cons_self ..)
    unfold insBy
    split
    · rename_i h
      refine List.pairwise_cons.2 ⟨fun z hz => ?_, ih (fun z hz => hl z (List.mem_cons_of_mem _ hz)) hs.2⟩
      rcases List.mem_cons.1 ((insBy_perm lt x ys).mem_iff.1 hz) with rfl | hz
      · exact hp.asym _ _ hy hx h
      · exact hs.1 z hz
    · rename_i h
      have h : lt y x = false := by simpa using h
      refine List.pairwise_cons.2 ⟨fun z hz => ?_, List.pairwise_cons.2 hs⟩
      rcases List.mem_cons.1 hz with rfl | hz
      · exact h
      · have hz' := hl z (List.mem_cons_of_mem _ hz)
        rcases hzx : lt z x with _ | _
        · rfl
        · have h2 := hs.1 z hz
          rcases hyz : lt y z with _ | _
          · have := hp.one _ _ hy hz' hyz h2
            subst this; rw [h] at hzx; cases hzx
          · rw [hp.trans _ _ _ hy hz' hx hyz hzx] at h; cases h
theorem foldBy_sorted {α : Type} {lt : α → α → Bool} {P : α → Prop} (hp : Parts lt P) (l acc : List α) (hl : ∀ y ∈ l, P y) (ha : ∀ y ∈ acc, P y) (hs : SortedBy lt acc) : SortedBy lt (l.foldl (fun acc x => insBy lt x acc) acc) := by
  induction l generalizing acc with
  | nil => exact hs
  | cons x xs ih =>
    refine ih _ (fun y hy => hl y (List.mem_cons_of_mem _ hy)) (fun y hy => ?_) (insBy_sorted hp x acc (hl x (List.mem_cons_self ..)) ha hs)
    rcases List.mem_cons.1 ((insBy_perm lt x acc).mem_iff.1 hy) with rfl | hy
    · exact hl _ (List.mem_cons_self ..)
    · exact ha y hy
theorem sortBy_sorted {α : Type} {lt : α → α → Bool} {P : α → Prop} (hp : Parts lt P) (l : List α) (hl : ∀ y ∈ l, P y) : SortedBy lt (sortBy lt l) :=
  foldBy_sorted hp l [] hl (fun y hy => by cases hy) List.Pairwise.nil
/-- There is one list in order of those of a list. -/
theorem sorted_one {α : Type} {lt : α → α → Bool} {P : α → Prop} (hp : Parts lt P) : ∀ (l m : List α), (∀ y ∈ l, P y) → l.Perm m → SortedBy lt l → SortedBy lt m → l = m
  | [], m, _, hperm, _, _ => (List.Perm.nil_eq hperm)
  | a :: l, m, hl, hperm, h1, h2 => by
    match m, hperm with
    | [], hperm => exact absurd hperm.length_eq (by simp)
    | b :: m, hperm =>
      unfold SortedBy at h1 h2
      have h1' := List.pairwise_cons.1 h1
      have h2' := List.pairwise_cons.1 h2
      have ha : P a := hl a (List.mem_cons_self ..)
      have hb : P b := hl b (hperm.mem_iff.2 (List.mem_cons_self ..))
      have hab : a = b := by
        rcases List.mem_cons.1 (hperm.mem_iff.1 (List.mem_cons_self ..) : a ∈ b :: m) with e | e
        · exact e
        · rcases List.mem_cons.1 (hperm.mem_iff.2 (List.mem_cons_self ..) : b ∈ a :: l) with f | f
          · exact f.symm
          · exact hp.one _ _ ha hb (h2'.1 a e) (h1'.1 b f)
      subst hab
      rw [sorted_one hp l m (fun y hy => hl y (List.mem_cons_of_mem _ hy)) (List.Perm.cons_inv hperm) h1'.2 h2'.2]
theorem sortBy_one {α : Type} {lt : α → α → Bool} {P : α → Prop} (hp : Parts lt P) (l m : List α) (hl : ∀ y ∈ l, P y) (hperm : m.Perm l) (hs : SortedBy lt m) : m = sortBy lt l :=
  sorted_one hp m (sortBy lt l) (fun y hy => hl y (hperm.mem_iff.1 hy)) (hperm.trans (sortBy_perm lt l).symm) hs (sortBy_sorted hp l hl)

/-- By a number of theirs, of alike ones by number. -/
def axlt (ax : Nat) (a b : Mk) : Bool := decide (nth a.2 ax < nth b.2 ax) || (decide (nth a.2 ax = nth b.2 ax) && decide (a.1 < b.1))
def idlt (a b : Mk) : Bool := decide (a.1 < b.1)
theorem axlt_iff (ax : Nat) (a b : Mk) : axlt ax a b = true ↔ nth a.2 ax < nth b.2 ax ∨ (nth a.2 ax = nth b.2 ax ∧ a.1 < b.1) := by simp [axlt]
theorem axlt_not (ax : Nat) (a b : Mk) : axlt ax a b = false ↔ nth b.2 ax < nth a.2 ax ∨ (nth a.2 ax = nth b.2 ax ∧ b.1 ≤ a.1) := by
  rcases h : axlt ax a b with _ | _
  · have : ¬ (nth a.2 ax < nth b.2 ax ∨ (nth a.2 ax = nth b.2 ax ∧ a.1 < b.1)) := fun hh => by rw [(axlt_iff ax a b).2 hh] at h; cases h
    constructor
    · intro _; omega
    · intro _; rfl
  · have := (axlt_iff ax a b).1 h
    constructor
    · intro hh; cases hh
    · intro hh; omega
/-- No two of one number. -/
def Sole (ms : List Mk) : Prop := ∀ a ∈ ms, ∀ b ∈ ms, a.1 = b.1 → a = b
theorem parts_axlt (ax : Nat) {ms : List Mk} (h : Sole ms) : Parts (axlt ax) (· ∈ ms) where
  trans a b c _ _ _ h1 h2 := by rw [axlt_iff] at *; omega
  one a b ha hb h1 h2 := by rw [axlt_not] at *; exact h a ha b hb (by omega)
  asym a b _ _ h1 := by rw [axlt_iff] at h1; rw [axlt_not]; omega
theorem parts_idlt {ms : List Mk} (h : Sole ms) : Parts idlt (· ∈ ms) where
  trans a b c _ _ _ h1 h2 := by simp [idlt] at *; omega
  one a b ha hb h1 h2 := by simp [idlt] at *; exact h a ha b hb (by omega)
  asym a b _ _ h1 := by simp [idlt] at *; omega
theorem Sole.sub {ms ns : List Mk} (h : Sole ms) (hs : ∀ a ∈ ns, a ∈ ms) : Sole ns := fun a ha b hb e => h a (hs a ha) b (hs b hb) e
theorem Sole.of_rise {ms : List Mk} (h : ms.Pairwise fun a b => a.1 < b.1) : Sole ms := by
  induction ms with
  | nil => intro a ha; cases ha
  | cons x xs ih =>
    rw [List.pairwise_cons] at h
    intro a ha b hb e
    rcases List.mem_cons.1 ha with e1 | ha1
    · rcases List.mem_cons.1 hb with e2 | hb1
      · rw [e1, e2]
      · have := h.1 b hb1; subst e1; omega
    · rcases List.mem_cons.1 hb with e2 | hb1
      · have := h.1 a ha1; subst e2; omega
      · exact ih h.2 a ha1 b hb1 e

/-- The tree of halves. -/
inductive Tr where
  | leaf : Tr
  | node (m : Mk) (ax : Nat) (l r : Tr) : Tr
/-- A knot: its mark, its axis, less, more. -/
abbrev Kn := Mk × Int × Int × Int
def Tr.size : Tr → Nat
  | .leaf => 0
  | .node _ _ l r => l.size + r.size + 1
def Tr.place : Tr → Nat → Int
  | .leaf, _ => -1
  | .node .., p => (p : Int)
def Tr.flat : Tr → Nat → List Kn
  | .leaf, _ => []
  | .node m ax l r, p => (m, (ax : Int), l.place (p + 1), r.place (p + 1 + l.size)) :: (l.flat (p + 1) ++ r.flat (p + 1 + l.size))
def Tr.marks : Tr → List Mk
  | .leaf => []
  | .node m _ l r => m :: (l.marks ++ r.marks)
def Tr.tall : Tr → Nat
  | .leaf => 0
  | .node _ _ l r => 1 + max l.tall r.tall
theorem Tr.flat_length (t : Tr) (p : Nat) : (t.flat p).length = t.size := by
  induction t generalizing p with
  | leaf => rfl
  | node m ax l r ihl ihr => simp [Tr.flat, Tr.size, ihl, ihr]
theorem Tr.marks_length (t : Tr) : t.marks.length = t.size := by
  induction t with
  | leaf => rfl
  | node m ax l r ihl ihr => simp [Tr.marks, Tr.size, ihl, ihr]
theorem Tr.flat_marks (t : Tr) (p : Nat) : (t.flat p).map (·.1) = t.marks := by
  induction t generalizing p with
  | leaf => rfl
  | node m ax l r ihl ihr => simp [Tr.flat, Tr.marks, ihl, ihr]
/-- The tree of some marks by an axis; f: no less than there are. -/
def treeF : Nat → List Mk → Nat → Tr
  | 0, _, _ => .leaf
  | f + 1, ms, ax =>
    if ms.length = 0 then .leaf else
    .node (mnthT (sortBy (axlt ax) ms) (ms.length / 2)) ax
      (treeF f ((sortBy (axlt ax) ms).take (ms.length / 2)) ((ax + 1) % (mnthT (sortBy (axlt ax) ms) (ms.length / 2)).2.length))
      (treeF f ((sortBy (axlt ax) ms).drop (ms.length / 2 + 1)) ((ax + 1) % (mnthT (sortBy (axlt ax) ms) (ms.length / 2)).2.length))
where mnthT (ms : List Mk) (i : Nat) : Mk := ms.getD i (0, [])
theorem treeF_none (f : Nat) (ax : Nat) : treeF f [] ax = .leaf := by cases f <;> rfl
theorem treeF_node (f : Nat) (ms : List Mk) (ax : Nat) (h : ms.length ≠ 0) : treeF (f + 1) ms ax = .node (treeF.mnthT (sortBy (axlt ax) ms) (ms.length / 2)) ax (treeF f ((sortBy (axlt ax) ms).take (ms.length / 2)) ((ax + 1) % (treeF.mnthT (sortBy (axlt ax) ms) (ms.length / 2)).2.length)) (treeF f ((sortBy (axlt ax) ms).drop (ms.length / 2 + 1)) ((ax + 1) % (treeF.mnthT (sortBy (axlt ax) ms) (ms.length / 2)).2.length)) := by
  rw [treeF, if_neg h]
theorem getD_mid {ms : List Mk} {i : Nat} (h : i < ms.length) : ms = ms.take i ++ ms.getD i (0, []) :: ms.drop (i + 1) := by
  have e : ms.getD i (0, []) = ms[i] := by simp [List.getD, h]
  rw [e, ← List.drop_eq_getElem_cons h, List.take_append_drop]
theorem treeF_marks (f : Nat) (ms : List Mk) (ax : Nat) (h : ms.length ≤ f) : (treeF f ms ax).marks.Perm ms := by
  induction f generalizing ms ax with
  | zero =>
    have : ms = [] := List.length_eq_zero_iff.1 (by omega)
    subst this; exact List.Perm.refl _
  | succ f ih =>
    unfold treeF
    split
    · rename_i h0
      have : ms = [] := List.length_eq_zero_iff.1 h0
      subst this; exact List.Perm.refl _
    · rename_i h0
      have hl := sortBy_length (axlt ax) ms
      have hp := sortBy_perm (axlt ax) ms
      generalize sortBy (axlt ax) ms = s at hl hp ⊢
      simp only [Tr.marks]
      have hm : ms.length / 2 < s.length := by omega
      have e := getD_mid hm
      refine (List.Perm.cons _ ((ih _ _ (by simp; omega)).append (ih _ _ (by simp; omega)))).trans ?_
      refine (List.perm_middle.symm).trans ?_
      unfold treeF.mnthT
      rw [← e]; exact hp
theorem treeF_size (f : Nat) (ms : List Mk) (ax : Nat) (h : ms.length ≤ f) : (treeF f ms ax).size = ms.length := by
  rw [← Tr.marks_length, (treeF_marks f ms ax h).length_eq]
theorem treeF_place (f : Nat) (ms : List Mk) (ax p : Nat) (h : ms.length ≤ f) : (treeF f ms ax).place p = if ms.length = 0 then -1 else (p : Int) := by
  match f with
  | 0 => rw [if_pos (by omega)]; rfl
  | f + 1 => unfold treeF; split <;> rfl

/-- What is halved. -/
def halvedV (ms : List Mk) : List Kn := if marksB ms = true then (treeF 60 ms 0).flat 0 else []
def knotMs (ks : List Kn) : List Mk := sortBy idlt (ks.map (·.1))
def knotsB (ks : List Kn) : Bool := marksB (knotMs ks) && decide (halvedV (knotMs ks) = ks)

theorem marks_rise {ms : List Mk} (h : marksB ms = true) : ms.Pairwise fun a b => a.1 < b.1 := by
  have hstep : ∀ i, i + 1 < ms.length → mid ms i < mid ms (i + 1) := fun i hi => by
    have := ((mOkAt_iff ms (i + 1)).1 (marksB_at h hi)).2.2.2.2
    rcases this with h0 | h0
    · omega
    · exact h0
  have hall : ∀ d i, i + d + 1 < ms.length → mid ms i < mid ms (i + d + 1) := by
    intro d
    induction d with
    | zero => intro i hi; exact hstep i hi
    | succ d ih =>
      intro i hi
      have h1 := ih i (by omega)
      have h2 := hstep (i + d + 1) (by omega)
      rw [show i + (d + 1) + 1 = i + d + 1 + 1 by omega]; omega
  rw [List.pairwise_iff_getElem]
  intro i j hi hj hij
  have := hall (j - i - 1) i (by omega)
  rw [show i + (j - i - 1) + 1 = j by omega] at this
  simpa [mid, List.getD, hi, hj] using this
theorem marks_sole {ms : List Mk} (h : marksB ms = true) : Sole ms := Sole.of_rise (marks_rise h)

end Go.Proofs.Ytbmljcpeonopmaa
namespace Go.Proofs.Ytbmljcpeonopmaa

/-- A box: its low end and its high end. -/
abbrev Bx := List Int × List Int
def sideB (b : Bx) (i : Nat) : Bool := decide (nth b.1 i ≤ nth b.2 i)
def boxB (b : Bx) : Bool := twoB b.1 b.2 && (List.range b.1.length).all (sideB b)
def toldX (b : Bx) (p : List Int) : Bool := boxB b && twoB b.1 p
def outF (b : Bx) (p : List Int) (i : Nat) : Int := maxV 0 (maxV (nth b.1 i - nth p i) (nth p i - nth b.2 i))
def outQ (b : Bx) (p : List Int) (i : Nat) : Int := outF b p i * outF b p i
def endF (b : Bx) (p : List Int) (i : Nat) : Int := maxV (absV (nth p i - nth b.1 i)) (absV (nth p i - nth b.2 i))
def endQ (b : Bx) (p : List Int) (i : Nat) : Int := endF b p i * endF b p i
def toBoxV (b : Bx) (p : List Int) : Int := if toldX b p = true then sumTo (outQ b p) p.length else -1
def cornerV (b : Bx) (p : List Int) : Int := if toldX b p = true then sumTo (endQ b p) p.length else -1
def insideB (b : Bx) (p : List Int) : Bool := toldX b p && decide (toBoxV b p = 0)
def lowTo (ms : List Mk) (k : Nat) : Nat → Int
  | 0 => nth (mat ms 0) k
  | j + 1 => min (lowTo ms k j) (nth (mat ms (j + 1)) k)
def highTo (ms : List Mk) (k : Nat) : Nat → Int
  | 0 => nth (mat ms 0) k
  | j + 1 => maxV (highTo ms k j) (nth (mat ms (j + 1)) k)
def lowL (ms : List Mk) (j : Nat) : List Int := tabL (fun k => lowTo ms k j) (mat ms 0).length
def highL (ms : List Mk) (j : Nat) : List Int := tabL (fun k => highTo ms k j) (mat ms 0).length
def aroundV (ms : List Mk) : Bx := if ms.length = 0 ∨ marksB ms = false then ([], []) else (lowL ms (ms.length - 1), highL ms (ms.length - 1))
def shLow (a b : Bx) (i : Nat) : Int := maxV (nth a.1 i) (nth b.1 i)
def shHigh (a b : Bx) (i : Nat) : Int := min (nth a.2 i) (nth b.2 i)
def shBox (a b : Bx) : Bx := (tabL (shLow a b) a.1.length, tabL (shHigh a b) a.1.length)
def shOkB (a b : Bx) : Bool := boxB a && boxB b && decide (a.1.length = b.1.length) && boxB (shBox a b)
def sharedV (a b : Bx) : Bx := if shOkB a b = true then shBox a b else ([], [])

theorem boxB_two {b : Bx} (h : boxB b = true) : twoB b.1 b.2 = true := by simp [boxB] at h; exact h.1
theorem boxB_at {b : Bx} (h : boxB b = true) {i : Nat} (hi : i < b.1.length) : nth b.1 i ≤ nth b.2 i := by
  simp only [boxB, Bool.and_eq_true, List.all_eq_true] at h
  have := h.2 i (List.mem_range.2 hi)
  simpa [sideB] using this
theorem boxB_not {b : Bx} (h : twoB b.1 b.2 = false) : boxB b = false := by simp [boxB, h]
theorem boxB_out {b : Bx} {i : Nat} (hi : i < b.1.length) (h : nth b.1 i > nth b.2 i) : boxB b = false := by
  rcases hb : boxB b with _ | _
  · rfl
  · have := boxB_at hb hi; omega
theorem boxB_mk {b : Bx} (h : twoB b.1 b.2 = true) (hs : ∀ i, i < b.1.length → nth b.1 i ≤ nth b.2 i) : boxB b = true := by
  simp only [boxB, Bool.and_eq_true, List.all_eq_true]
  exact ⟨h, fun i hi => by simp [sideB]; exact hs i (List.mem_range.1 hi)⟩
theorem toldX_of {b : Bx} {p : List Int} (h : toldX b p = true) : boxB b = true ∧ twoB b.1 p = true := by simpa [toldX] using h
theorem outF_bd {b : Bx} {p : List Int} (h : toldX b p = true) (i : Nat) : 0 ≤ outF b p i ∧ outF b p i ≤ 2000 := by
  obtain ⟨h1, h2⟩ := toldX_of h
  obtain ⟨a1, a2, _⟩ := twoB_of (boxB_two h1)
  obtain ⟨_, a3, _⟩ := twoB_of h2
  have x1 := okB_at a1 i
  have x2 := okB_at a2 i
  have x3 := okB_at a3 i
  unfold outF maxV
  omega
theorem endF_bd {b : Bx} {p : List Int} (h : toldX b p = true) (i : Nat) : 0 ≤ endF b p i ∧ endF b p i ≤ 2000 := by
  obtain ⟨h1, h2⟩ := toldX_of h
  obtain ⟨a1, a2, _⟩ := twoB_of (boxB_two h1)
  obtain ⟨_, a3, _⟩ := twoB_of h2
  have x1 := okB_at a1 i
  have x2 := okB_at a2 i
  have x3 := okB_at a3 i
  unfold endF maxV absV
  omega
theorem sq_bd {x : Int} (h : 0 ≤ x ∧ x ≤ 2000) : 0 ≤ x * x ∧ x * x ≤ 4000000 := by
  refine ⟨Int.mul_nonneg h.1 h.1, ?_⟩
  have := Int.mul_le_mul h.2 h.2 h.1 (by omega : (0 : Int) ≤ 2000)
  omega
theorem outQ_bd {b : Bx} {p : List Int} (h : toldX b p = true) (i : Nat) : 0 ≤ outQ b p i ∧ outQ b p i ≤ 4000000 := sq_bd (outF_bd h i)
theorem endQ_bd {b : Bx} {p : List Int} (h : toldX b p = true) (i : Nat) : 0 ≤ endQ b p i ∧ endQ b p i ≤ 4000000 := sq_bd (endF_bd h i)

end Go.Proofs.Ytbmljcpeonopmaa
namespace Go.Proofs.Ytbmljcpeonopmaa

/-- The least so far (none: below 0), and one more. -/
def zStep (n d : Int) : Int := if n < 0 ∨ d < n then d else n
/-- The least D of i to those of C; -1 of none. -/
def zNear (D : Nat → Nat → Int) (i : Nat) (C : List Nat) : Int := C.foldl (fun n c => zStep n (D i c)) (-1)
def zRad (D : Nat → Nat → Int) (n : Nat) (C : List Nat) : Int := maxTo (fun i => zNear D i C) n
/-- Of the first m the one not in C whose least is greatest, the first of alike ones. -/
def zArg (D : Nat → Nat → Int) (C : List Nat) : Nat → Option Nat
  | 0 => none
  | m + 1 => if m ∈ C then zArg D C m else match zArg D C m with
    | none => some m
    | some b => if zNear D b C < zNear D m C then some m else some b
def zCho (D : Nat → Nat → Int) (n : Nat) : Nat → List Nat
  | 0 => []
  | t + 1 => if t = 0 then [0] else zCho D n t ++ [(zArg D (zCho D n t) n).getD 0]

theorem zNear_fold (D : Nat → Nat → Int) (i : Nat) (h : ∀ c, 0 ≤ D i c) (C : List Nat) (a : Int) :
    (0 ≤ a → C.foldl (fun n c => zStep n (D i c)) a ≤ a) ∧ (∀ c ∈ C, C.foldl (fun n c => zStep n (D i c)) a ≤ D i c) ∧ (C.foldl (fun n c => zStep n (D i c)) a = a ∨ ∃ c ∈ C, C.foldl (fun n c => zStep n (D i c)) a = D i c) ∧ (a < 0 → C ≠ [] → 0 ≤ C.foldl (fun n c => zStep n (D i c)) a) ∧ (0 ≤ a → 0 ≤ C.foldl (fun n c => zStep n (D i c)) a) := by
  induction C generalizing a with
  | nil => exact ⟨fun _ => Int.le_refl _, fun c hc => by simp at hc, Or.inl rfl, fun _ h => absurd rfl h, fun h => h⟩
  | cons x C ih =>
    simp only [List.foldl_cons]
    have hx := h x
    obtain ⟨i1, i2, i3, i4, i5⟩ := ih (zStep a (D i x))
    have hs0 : 0 ≤ zStep a (D i x) := by unfold zStep; split <;> omega
    have hs1 : zStep a (D i x) ≤ D i x := by unfold zStep; split <;> omega
    have hs2 : 0 ≤ a → zStep a (D i x) ≤ a := fun ha => by unfold zStep; split <;> omega
    have i1' := i1 hs0
    refine ⟨fun ha => Int.le_trans i1' (hs2 ha), fun c hc => ?_, ?_, fun _ _ => i5 hs0, fun _ => i5 hs0⟩
    · rcases List.mem_cons.1 hc with e | e
      · rw [e]; exact Int.le_trans i1' hs1
      · exact i2 c e
    · rcases i3 with e | ⟨c, hc, e⟩
      · rw [e]
        unfold zStep
        split
        · exact Or.inr ⟨x, List.mem_cons_self .., rfl⟩
        · exact Or.inl rfl
      · exact Or.inr ⟨c, List.mem_cons_of_mem _ hc, e⟩
theorem zNear_le {D : Nat → Nat → Int} {i : Nat} (h : ∀ c, 0 ≤ D i c) {C : List Nat} {c : Nat} (hc : c ∈ C) : zNear D i C ≤ D i c := (zNear_fold D i h C (-1)).2.1 c hc
theorem zNear_pos {D : Nat → Nat → Int} {i : Nat} (h : ∀ c, 0 ≤ D i c) {C : List Nat} (hC : C ≠ []) : 0 ≤ zNear D i C := (zNear_fold D i h C (-1)).2.2.2.1 (by omega) hC
theorem zNear_at {D : Nat → Nat → Int} {i : Nat} (h : ∀ c, 0 ≤ D i c) {C : List Nat} (hC : C ≠ []) : ∃ c ∈ C, zNear D i C = D i c := by
  rcases (zNear_fold D i h C (-1)).2.2.1 with e | e
  · have := zNear_pos h hC
    unfold zNear at this
    omega
  · exact e
theorem zNear_more {D : Nat → Nat → Int} {i : Nat} (h : ∀ c, 0 ≤ D i c) {C E : List Nat} (hC : C ≠ []) (hs : ∀ c ∈ C, c ∈ E) : zNear D i E ≤ zNear D i C := by
  obtain ⟨c, hc, e⟩ := zNear_at h hC
  rw [e]
  exact zNear_le h (hs c hc)
theorem zNear_self {D : Nat → Nat → Int} {i : Nat} (h : ∀ c, 0 ≤ D i c) (h0 : D i i = 0) {C : List Nat} (hi : i ∈ C) : zNear D i C = 0 := by
  have h1 := zNear_le h hi
  have h2 := zNear_pos h (C := C) (fun e => by rw [e] at hi; simp at hi)
  omega
theorem zRad_ge {D : Nat → Nat → Int} {n i : Nat} (hi : i < n) (C : List Nat) : zNear D i C ≤ zRad D n C := maxTo_ge (fun i => zNear D i C) n i hi
theorem zRad_nn (D : Nat → Nat → Int) (n : Nat) (C : List Nat) : 0 ≤ zRad D n C := by
  unfold zRad
  induction n with
  | zero => simp [maxTo]
  | succ n ih => simp only [maxTo]; omega
theorem maxTo_at (f : Nat → Int) (n : Nat) (h : 0 < maxTo f n) : ∃ i, i < n ∧ f i = maxTo f n := by
  induction n with
  | zero => simp [maxTo] at h
  | succ n ih =>
    simp only [maxTo] at h ⊢
    by_cases e : maxTo f n ≤ f n
    · exact ⟨n, by omega, by omega⟩
    · obtain ⟨i, hi, e2⟩ := ih (by omega)
      exact ⟨i, by omega, by omega⟩
/-- More of them reach no farther. -/
theorem zRad_more {D : Nat → Nat → Int} (h : ∀ i c, 0 ≤ D i c) (n : Nat) {C E : List Nat} (hC : C ≠ []) (hs : ∀ c ∈ C, c ∈ E) : zRad D n E ≤ zRad D n C :=
  maxTo_lub _ n _ (zRad_nn D n C) (fun i hi => Int.le_trans (zNear_more (h i) hC hs) (zRad_ge hi C))
/-- All of them: nothing is apart. -/
theorem zRad_all {D : Nat → Nat → Int} (h : ∀ i c, 0 ≤ D i c) (h0 : ∀ i, D i i = 0) (n : Nat) {C : List Nat} (hs : ∀ i, i < n → i ∈ C) : zRad D n C = 0 := by
  have h1 := zRad_nn D n C
  have h2 : zRad D n C ≤ 0 := maxTo_lub _ n _ (by omega) (fun i hi => by rw [zNear_self (h i) (h0 i) (hs i hi)]; omega)
  omega

theorem zArg_spec (D : Nat → Nat → Int) (C : List Nat) (m : Nat) :
    match zArg D C m with
    | none => ∀ j, j < m → j ∈ C
    | some b => b < m ∧ b ∉ C ∧ (∀ j, j < m → j ∉ C → zNear D j C ≤ zNear D b C) ∧ (∀ j, j < b → j ∉ C → zNear D j C < zNear D b C) := by
  induction m with
  | zero => simp [zArg]
  | succ m ih =>
    simp only [zArg]
    by_cases hm : m ∈ C
    · rw [if_pos hm]
      rcases hz : zArg D C m with _ | b
      · rw [hz] at ih
        intro j hj
        rcases Nat.lt_or_ge j m with h | h
        · exact ih j h
        · rw [show j = m by omega]; exact hm
      · rw [hz] at ih
        obtain ⟨a1, a2, a3, a4⟩ := ih
        refine ⟨by omega, a2, fun j hj hn => ?_, a4⟩
        rcases Nat.lt_or_ge j m with h | h
        · exact a3 j h hn
        · exact absurd (by rw [show j = m by omega]; exact hm) hn
    · rw [if_neg hm]
      rcases hz : zArg D C m with _ | b
      · rw [hz] at ih
        refine ⟨by omega, hm, fun j hj hn => ?_, fun j hj hn => absurd (ih j hj) hn⟩
        rcases Nat.lt_or_ge j m with h | h
        · exact absurd (ih j h) hn
        · rw [show j = m by omega]; exact Int.le_refl _
      · rw [hz] at ih
        obtain ⟨a1, a2, a3, a4⟩ := ih
        by_cases hlt : zNear D b C < zNear D m C
        · simp only [hlt, if_true]
          refine ⟨by omega, hm, fun j hj hn => ?_, fun j hj hn => ?_⟩
          · rcases Nat.lt_or_ge j m with h | h
            · have := a3 j h hn; omega
            · rw [show j = m by omega]; exact Int.le_refl _
          · have := a3 j hj hn; omega
        · simp only [hlt, if_false]
          refine ⟨by omega, a2, fun j hj hn => ?_, a4⟩
          rcases Nat.lt_or_ge j m with h | h
          · exact a3 j h hn
          · rw [show j = m by omega]; omega
theorem zArg_some {D : Nat → Nat → Int} {C : List Nat} {m j : Nat} (hj : j < m) (hn : j ∉ C) : ∃ b, zArg D C m = some b := by
  have := zArg_spec D C m
  rcases hz : zArg D C m with _ | b
  · rw [hz] at this; exact absurd (this j hj) hn
  · exact ⟨b, rfl⟩
/-- Fewer than n are not all. -/
theorem zOut {C : List Nat} {n : Nat} (h : C.length < n) : ∃ j, j < n ∧ j ∉ C := by
  induction n generalizing C with
  | zero => omega
  | succ n ih =>
    by_cases hm : n ∈ C
    · obtain ⟨j, hj, hn⟩ := ih (C := C.erase n) (by rw [List.length_erase_of_mem hm]; have : 0 < C.length := List.length_pos_of_mem hm; omega)
      refine ⟨j, by omega, fun hc => hn ?_⟩
      exact (List.mem_erase_of_ne (by omega)).2 hc
    · exact ⟨n, by omega, hm⟩

theorem zCho_succ {D : Nat → Nat → Int} {n t : Nat} (ht : 0 < t) : zCho D n (t + 1) = zCho D n t ++ [(zArg D (zCho D n t) n).getD 0] := by
  simp only [zCho]
  rw [if_neg (by omega)]
theorem zCho_ok {D : Nat → Nat → Int} {n : Nat} (t : Nat) (ht : t ≤ n) : (zCho D n t).length = t ∧ (zCho D n t).Nodup ∧ ∀ c ∈ zCho D n t, c < n := by
  induction t with
  | zero => simp [zCho]
  | succ t ih =>
    obtain ⟨i1, i2, i3⟩ := ih (by omega)
    rcases Nat.eq_zero_or_pos t with h0 | h0
    · subst h0
      simp only [zCho, if_true]
      exact ⟨rfl, by simp, fun c hc => by simp at hc; omega⟩
    · rw [zCho_succ h0]
      obtain ⟨j, hj, hn⟩ := zOut (C := zCho D n t) (n := n) (by omega)
      obtain ⟨b, hb⟩ := zArg_some (D := D) hj hn
      have hs := zArg_spec D (zCho D n t) n
      rw [hb] at hs
      rw [hb]
      refine ⟨by simp [i1], ?_, fun c hc => ?_⟩
      · rw [List.nodup_append]
        refine ⟨i2, by simp, fun a ha c hc => ?_⟩
        simp at hc
        rw [hc]
        exact fun e => hs.2.1 (by rw [← e]; exact ha)
      · rcases List.mem_append.1 hc with h | h
        · exact i3 c h
        · simp at h; rw [h]; exact hs.1
/-- What was chosen stays chosen. -/
theorem zCho_pre {D : Nat → Nat → Int} {n t k : Nat} (htk : t ≤ k) : ∃ r, zCho D n k = zCho D n t ++ r := by
  induction k with
  | zero => exact ⟨[], by rw [show t = 0 by omega]; simp⟩
  | succ k ih =>
    rcases Nat.lt_or_ge t (k + 1) with h | h
    · obtain ⟨r, hr⟩ := ih (by omega)
      rcases Nat.eq_zero_or_pos k with h0 | h0
      · subst h0
        obtain rfl : t = 0 := by omega
        exact ⟨zCho D n 1, by simp [zCho]⟩
      · rw [zCho_succ h0, hr]
        exact ⟨r ++ [(zArg D (zCho D n t ++ r) n).getD 0], by simp⟩
    · exact ⟨[], by rw [show t = k + 1 by omega]; simp⟩
theorem zCho_take {D : Nat → Nat → Int} {n t k : Nat} (htk : t ≤ k) (hk : k ≤ n) : (zCho D n k).take t = zCho D n t := by
  obtain ⟨r, hr⟩ := zCho_pre (D := D) (n := n) htk
  have hl := (zCho_ok (D := D) (n := n) t (by omega)).1
  rw [hr, List.take_append_of_le_length (by omega), List.take_of_length_le (by omega)]
/-- Two of more than there are places have one place. -/
theorem zPigeon (f : Nat → Nat) (m : Nat) : ∀ (B : List Nat), B.length < m → (∀ s, s < m → f s ∈ B) → ∃ s t, s < t ∧ t < m ∧ f s = f t := by
  induction m with
  | zero => intro B h; omega
  | succ m ih =>
    intro B hB h
    by_cases hx : ∃ s, s < m ∧ f s = f m
    · obtain ⟨s, hs, e⟩ := hx
      exact ⟨s, m, hs, by omega, e⟩
    · have hm := h m (by omega)
      obtain ⟨s, t, h1, h2, h3⟩ := ih (B.erase (f m)) (by rw [List.length_erase_of_mem hm]; have : 0 < B.length := List.length_pos_of_mem hm; omega) (fun s hs => (List.mem_erase_of_ne (fun e => hx ⟨s, hs, e⟩)).2 (h s (by omega)))
      exact ⟨s, t, h1, by omega, h3⟩
theorem zCho_at {D : Nat → Nat → Int} {n k t : Nat} (h0 : 0 < t) (ht : t < k) (hk : k ≤ n) : (zCho D n k).getD t 0 = (zArg D (zCho D n t) n).getD 0 := by
  have h1 := zCho_take (D := D) (t := t + 1) (k := k) (n := n) (by omega) hk
  have hl := (zCho_ok (D := D) (n := n) t (by omega)).1
  have hk' := (zCho_ok (D := D) (n := n) k hk).1
  have e : (zCho D n k).getD t 0 = ((zCho D n k).take (t + 1)).getD t 0 := by simp [List.getD]
  rw [e, h1, zCho_succ h0]
  simp [List.getD, hl]
theorem zCho_mem {D : Nat → Nat → Int} {n k s t : Nat} (hs : s < t) (ht : t ≤ k) (hk : k ≤ n) : (zCho D n k).getD s 0 ∈ zCho D n t := by
  have h1 := zCho_take (D := D) (t := t) (k := k) (n := n) ht hk
  have hl := (zCho_ok (D := D) (n := n) t (by omega)).1
  have e : (zCho D n k).getD s 0 = ((zCho D n k).take t).getD s 0 := by simp [List.getD, hs]
  rw [e, h1]
  have : (zCho D n t).getD s 0 = (zCho D n t)[s]'(by omega) := by simp [List.getD, show s < (zCho D n t).length by omega]
  rw [this]
  exact List.getElem_mem _
theorem zCho_ne {D : Nat → Nat → Int} {n t : Nat} (h0 : 0 < t) (ht : t ≤ n) : zCho D n t ≠ [] := fun e => by
  have := (zCho_ok (D := D) (n := n) t ht).1
  rw [e] at this
  simp at this
  omega
/-- Gonzalez: who is chosen reaches at most twice as far as any other ones, as many (by the constant of the third side). -/
theorem zGonz {D : Nat → Nat → Int} {n k : Nat} {a : Int} (hnn : ∀ i c, 0 ≤ D i c) (h0 : ∀ i, D i i = 0) (ha : 0 ≤ a)
    (htri : ∀ i j b, i < n → j < n → b < n → D i j ≤ a * (D i b + D j b)) (hk : 1 ≤ k) (hkn : k ≤ n) (B : List Nat) (hBl : B.length ≤ k) (hB0 : B ≠ []) (hBn : ∀ b ∈ B, b < n) :
    zRad D n (zCho D n k) ≤ 2 * a * zRad D n B := by
  have hrB := zRad_nn D n B
  have hab : 0 ≤ 2 * a * zRad D n B := Int.mul_nonneg (by omega) hrB
  rcases Int.lt_or_le (2 * a * zRad D n B) (zRad D n (zCho D n k)) with hlt | hle
  · exfalso
    obtain ⟨x, hx, hR⟩ := maxTo_at (fun i => zNear D i (zCho D n k)) n (by have : zRad D n (zCho D n k) = maxTo (fun i => zNear D i (zCho D n k)) n := rfl; omega)
    have hR' : zNear D x (zCho D n k) = zRad D n (zCho D n k) := hR
    have hxC : x ∉ zCho D n k := fun hm => by
      have := zNear_self (hnn x) (h0 x) hm
      omega
    have hCn := (zCho_ok (D := D) (n := n) k hkn).2.2
    have hCl := (zCho_ok (D := D) (n := n) k hkn).1
    let p : Nat → Nat := fun s => if s < k then (zCho D n k).getD s 0 else x
    have hpn : ∀ s, p s < n := fun s => by
      show (if s < k then (zCho D n k).getD s 0 else x) < n
      split
      · rename_i h
        exact hCn _ (zCho_mem h (Nat.le_refl _) hkn)
      · exact hx
    have hfar : ∀ s t, s < t → t ≤ k → zRad D n (zCho D n k) ≤ D (p t) (p s) := fun s t hst htk => by
      have hps : p s = (zCho D n k).getD s 0 := if_pos (by omega)
      rcases Nat.lt_or_ge t k with h | h
      · have hpt : p t = (zArg D (zCho D n t) n).getD 0 := by
          show (if t < k then (zCho D n k).getD t 0 else x) = _
          rw [if_pos h]
          exact zCho_at (by omega) h hkn
        have hsub : ∀ c ∈ zCho D n t, c ∈ zCho D n k := fun c hc => by
          obtain ⟨r, hr⟩ := zCho_pre (D := D) (n := n) (t := t) (k := k) (by omega)
          rw [hr]
          exact List.mem_append_left _ hc
        have hxt : x ∉ zCho D n t := fun hm => hxC (hsub x hm)
        obtain ⟨b, hb⟩ := zArg_some (D := D) hx hxt
        have hsp := zArg_spec D (zCho D n t) n
        rw [hb] at hsp hpt
        simp at hpt
        rw [hpt, hps, ← hR']
        have q1 := zNear_more (hnn x) (zCho_ne (D := D) (n := n) (t := t) (by omega) (by omega)) hsub
        have q2 := hsp.2.2.1 x hx hxt
        have q3 := zNear_le (hnn b) (zCho_mem (D := D) (n := n) (k := k) hst (by omega) hkn)
        omega
      · obtain rfl : t = k := by omega
        have hpt : p t = x := if_neg (by omega)
        rw [hpt, hps, ← hR']
        exact zNear_le (hnn x) (zCho_mem hst (Nat.le_refl _) hkn)
    have hb : ∀ s, ∃ b, b ∈ B ∧ zNear D (p s) B = D (p s) b := fun s => by
      obtain ⟨b, h1, h2⟩ := zNear_at (hnn (p s)) hB0
      exact ⟨b, h1, h2⟩
    obtain ⟨s, t, hst, htk, hst2⟩ := zPigeon (fun s => Classical.choose (hb s)) (k + 1) B (by omega) (fun s _ => (Classical.choose_spec (hb s)).1)
    have hs := (Classical.choose_spec (hb s)).2
    have ht := (Classical.choose_spec (hb t)).2
    have hbB := (Classical.choose_spec (hb t)).1
    have hst3 : Classical.choose (hb s) = Classical.choose (hb t) := hst2
    rw [hst3] at hs
    clear hst2 hst3
    generalize Classical.choose (hb t) = b at *
    have r1 := zRad_ge (D := D) (hpn s) B
    have r2 := zRad_ge (D := D) (hpn t) B
    have q := hfar s t hst (by omega)
    have q2 := htri (p t) (p s) b (hpn t) (hpn s) (hBn b hbB)
    have q3 : a * (D (p t) b + D (p s) b) ≤ a * (2 * zRad D n B) := Int.mul_le_mul_of_nonneg_left (by omega) ha
    have e : a * (2 * zRad D n B) = 2 * a * zRad D n B := by rw [Int.mul_left_comm, ← Int.mul_assoc]
    omega
  · exact hle

end Go.Proofs.Ytbmljcpeonopmaa
namespace Go.Proofs.Ytbmljcpeonopmaa

def zLess (b r : Int) : Int := if 0 ≤ r ∧ (b < 0 ∨ r < b) then r else b
/-- The least radius of these and any k more behind them. -/
def zBest (D : Nat → Nat → Int) (n : Nat) : Nat → List Nat → Nat → Int
  | 0, ids, _ => zRad D n ids
  | k + 1, ids, fr => (List.range' fr (n - fr)).foldl (fun b i => zLess b (zBest D n k (ids ++ [i]) (i + 1))) (-1)
/-- k rising ones from fr on, ahead of n. -/
def zRise (n fr : Nat) (E : List Nat) : Prop := E.Pairwise (· < ·) ∧ ∀ e ∈ E, fr ≤ e ∧ e < n

theorem zLess_fold (g : Nat → Int) (L : List Nat) (b : Int) :
    (0 ≤ b → 0 ≤ L.foldl (fun b i => zLess b (g i)) b ∧ L.foldl (fun b i => zLess b (g i)) b ≤ b) ∧
    (∀ i ∈ L, 0 ≤ g i → 0 ≤ L.foldl (fun b i => zLess b (g i)) b ∧ L.foldl (fun b i => zLess b (g i)) b ≤ g i) ∧
    (L.foldl (fun b i => zLess b (g i)) b = b ∨ ∃ i ∈ L, 0 ≤ g i ∧ L.foldl (fun b i => zLess b (g i)) b = g i) := by
  induction L generalizing b with
  | nil => exact ⟨fun h => ⟨h, Int.le_refl _⟩, fun i hi => by simp at hi, Or.inl rfl⟩
  | cons x L ih =>
    simp only [List.foldl_cons]
    obtain ⟨i1, i2, i3⟩ := ih (zLess b (g x))
    have hb : 0 ≤ b → 0 ≤ zLess b (g x) ∧ zLess b (g x) ≤ b := fun h => by unfold zLess; split <;> omega
    have hx : 0 ≤ g x → 0 ≤ zLess b (g x) ∧ zLess b (g x) ≤ g x := fun h => by unfold zLess; split <;> omega
    refine ⟨fun h => ?_, fun i hi hg => ?_, ?_⟩
    · have h1 := hb h
      have h2 := i1 h1.1
      omega
    · rcases List.mem_cons.1 hi with e | e
      · subst e
        have h1 := hx hg
        have h2 := i1 h1.1
        omega
      · exact i2 i e hg
    · rcases i3 with e | ⟨i, hi, h1, h2⟩
      · rw [e]
        unfold zLess
        split
        · rename_i h
          exact Or.inr ⟨x, List.mem_cons_self .., h.1, rfl⟩
        · exact Or.inl rfl
      · exact Or.inr ⟨i, List.mem_cons_of_mem _ hi, h1, h2⟩
/-- It is no more than any one's, and some one's. -/
theorem zBest_spec (D : Nat → Nat → Int) (n k : Nat) : ∀ (ids : List Nat) (fr : Nat),
    (∀ E, zRise n fr E → E.length = k → 0 ≤ zBest D n k ids fr ∧ zBest D n k ids fr ≤ zRad D n (ids ++ E)) ∧
    (0 ≤ zBest D n k ids fr → ∃ E, zRise n fr E ∧ E.length = k ∧ zBest D n k ids fr = zRad D n (ids ++ E)) ∧ -1 ≤ zBest D n k ids fr := by
  induction k with
  | zero =>
    intro ids fr
    refine ⟨fun E _ hl => ?_, fun _ => ⟨[], ⟨List.Pairwise.nil, by simp⟩, rfl, by simp [zBest]⟩, by have := zRad_nn D n ids; show -1 ≤ zRad D n ids; omega⟩
    have : E = [] := List.eq_nil_of_length_eq_zero hl
    subst this
    have := zRad_nn D n ids
    simp [zBest]
    exact this
  | succ k ih =>
    intro ids fr
    have hf := zLess_fold (fun i => zBest D n k (ids ++ [i]) (i + 1)) (List.range' fr (n - fr)) (-1)
    have hdef : zBest D n (k + 1) ids fr = (List.range' fr (n - fr)).foldl (fun b i => zLess b (zBest D n k (ids ++ [i]) (i + 1))) (-1) := rfl
    rw [← hdef] at hf
    refine ⟨fun E hE hl => ?_, fun h => ?_, ?_⟩
    · cases E with
      | nil => simp at hl
      | cons x E =>
        obtain ⟨hp, hr⟩ := hE
        have hx := hr x (List.mem_cons_self ..)
        have hp' := List.pairwise_cons.1 hp
        have hE' : zRise n (x + 1) E := ⟨hp'.2, fun e he => ⟨hp'.1 e he, (hr e (List.mem_cons_of_mem _ he)).2⟩⟩
        have h1 := (ih (ids ++ [x]) (x + 1)).1 E hE' (by simpa using hl)
        have h2 := hf.2.1 x (List.mem_range'_1.2 ⟨hx.1, by omega⟩) h1.1
        have e : ids ++ [x] ++ E = ids ++ x :: E := by simp
        rw [e] at h1
        exact ⟨h2.1, Int.le_trans h2.2 h1.2⟩
    · rcases hf.2.2 with e | ⟨i, hi, h1, h2⟩
      · omega
      · obtain ⟨E, hE, hl, he⟩ := (ih (ids ++ [i]) (i + 1)).2.1 h1
        have hi' := List.mem_range'_1.1 hi
        refine ⟨i :: E, ⟨List.pairwise_cons.2 ⟨fun e he => (hE.2 e he).1, hE.1⟩, fun e he => ?_⟩, by simp [hl], ?_⟩
        · rcases List.mem_cons.1 he with h | h
          · subst h; exact ⟨hi'.1, by omega⟩
          · have := hE.2 e h; omega
        · rw [h2, he]
          simp
    · rcases hf.2.2 with e | ⟨i, hi, h1, h2⟩ <;> omega
theorem zRad_same {D : Nat → Nat → Int} (h : ∀ i c, 0 ≤ D i c) (n : Nat) {C E : List Nat} (hC : C ≠ []) (hs : ∀ c, c ∈ C ↔ c ∈ E) : zRad D n C = zRad D n E := by
  have hE : E ≠ [] := fun e => by
    cases C with
    | nil => exact hC rfl
    | cons x C => have := (hs x).1 (List.mem_cons_self ..); rw [e] at this; simp at this
  exact Int.le_antisymm (zRad_more h n hE (fun c hc => (hs c).2 hc)) (zRad_more h n hC (fun c hc => (hs c).1 hc))
/-- Those of C in order. -/
theorem zSorted {n : Nat} {C : List Nat} (hd : C.Nodup) (hn : ∀ c ∈ C, c < n) : ∃ E, zRise n 0 E ∧ E.length = C.length ∧ ∀ c, c ∈ C ↔ c ∈ E := by
  refine ⟨(List.range n).filter (fun i => decide (i ∈ C)), ⟨?_, fun e he => ?_⟩, ?_, fun c => ?_⟩
  · exact List.Pairwise.filter _ List.pairwise_lt_range
  · have := List.mem_range.1 (List.mem_filter.1 he).1; omega
  · have hp : ((List.range n).filter (fun i => decide (i ∈ C))).Perm C := by
      refine (List.perm_ext_iff_of_nodup (List.Pairwise.filter _ List.nodup_range) hd).2 (fun a => ?_)
      simp only [List.mem_filter, List.mem_range, decide_eq_true_eq]
      exact ⟨fun h => h.2, fun h => ⟨hn a h, h⟩⟩
    exact hp.length_eq
  · simp only [List.mem_filter, List.mem_range, decide_eq_true_eq]
    exact ⟨fun h => ⟨hn c h, h⟩, fun h => h.2⟩
/-- The least radius of k of n, told whole. -/
theorem zBest_le {D : Nat → Nat → Int} (h : ∀ i c, 0 ≤ D i c) {n k : Nat} (hk : 1 ≤ k) {C : List Nat} (hd : C.Nodup) (hn : ∀ c ∈ C, c < n) (hl : C.length = k) : 0 ≤ zBest D n k [] 0 ∧ zBest D n k [] 0 ≤ zRad D n C := by
  obtain ⟨E, hE, hEl, hs⟩ := zSorted hd hn
  have h1 := (zBest_spec D n k [] 0).1 E hE (by omega)
  rw [zRad_same h n (fun e => by rw [e] at hl; simp at hl; omega) hs]
  simpa using h1
theorem zRise_nodup {n fr : Nat} {E : List Nat} (h : zRise n fr E) : E.Nodup := by
  refine List.Pairwise.imp ?_ h.1
  intro a b hab
  omega
theorem zBest_at {D : Nat → Nat → Int} {n k : Nat} (h : 0 ≤ zBest D n k [] 0) : ∃ E, E.Nodup ∧ (∀ e ∈ E, e < n) ∧ E.length = k ∧ zBest D n k [] 0 = zRad D n E := by
  obtain ⟨E, hE, hl, he⟩ := (zBest_spec D n k [] 0).2.1 h
  exact ⟨E, zRise_nodup hE, fun e h => (hE.2 e h).2, hl, by simpa using he⟩
theorem zBest_more {D : Nat → Nat → Int} (h : ∀ i c, 0 ≤ D i c) {n k : Nat} (hk : 1 ≤ k) (hkn : k < n) (hb : 0 ≤ zBest D n k [] 0) : zBest D n (k + 1) [] 0 ≤ zBest D n k [] 0 := by
  obtain ⟨E, hd, hn, hl, he⟩ := zBest_at hb
  obtain ⟨j, hj, hjE⟩ := zOut (C := E) (n := n) (by omega)
  have h1 := zBest_le (D := D) h (n := n) (k := k + 1) (by omega) (C := j :: E) (List.nodup_cons.2 ⟨hjE, hd⟩) (fun c hc => by
    rcases List.mem_cons.1 hc with e | e
    · omega
    · exact hn c e) (by simp [hl])
  have h2 := zRad_more (D := D) h n (C := E) (E := j :: E) (fun e => by rw [e] at hl; simp at hl; omega) (fun c hc => List.mem_cons_of_mem _ hc)
  omega

end Go.Proofs.Ytbmljcpeonopmaa
namespace Go.Proofs.Ytbmljcpeonopmaa

/-- The distance of two marks by their places in the list. -/
def zD (ms : List Mk) (kd : Int) (i j : Nat) : Int := max 0 (betV (mat ms i) (mat ms j) kd)
/-- By Far the square makes four of two. -/
def zK (kd : Int) : Int := if kd = 1 then 2 else 1
theorem zD_nn (ms : List Mk) (kd : Int) (i j : Nat) : 0 ≤ zD ms kd i j := by unfold zD; omega
theorem zD_le (ms : List Mk) (kd : Int) (i j : Nat) : zD ms kd i j ≤ 16000000 := by have := betV_le (mat ms i) (mat ms j) kd; unfold zD; omega
theorem sumTo_nought (f : Nat → Int) (h : ∀ i, f i = 0) (n : Nat) : sumTo f n = 0 := by
  induction n with
  | zero => rfl
  | succ n ih => simp only [sumTo]; rw [ih, h n]; rfl
theorem maxTo_nought (f : Nat → Int) (h : ∀ i, f i = 0) (n : Nat) : maxTo f n = 0 := by
  induction n with
  | zero => rfl
  | succ n ih => simp only [maxTo]; rw [ih, h n]; rfl
theorem zD_self (ms : List Mk) (kd : Int) (i : Nat) : zD ms kd i i = 0 := by
  have h1 : ∀ x : List Int, farV x x ≤ 0 := fun x => by
    unfold farV; split
    · rw [sumTo_nought _ (fun i => by simp [sqF])]; omega
    · omega
  have h2 : ∀ x : List Int, stepsV x x ≤ 0 := fun x => by
    unfold stepsV; split
    · rw [sumTo_nought _ (fun i => by unfold gapF; omega)]; omega
    · omega
  have h3 : ∀ x : List Int, reachV x x ≤ 0 := fun x => by
    unfold reachV; split
    · rw [maxTo_nought _ (fun i => by unfold gapF; omega)]; omega
    · omega
  have a1 := h1 (mat ms i)
  have a2 := h2 (mat ms i)
  have a3 := h3 (mat ms i)
  unfold zD betV
  split
  · omega
  · split
    · omega
    · split <;> omega
theorem sq_third (x y z : Int) : (x - y) * (x - y) ≤ 2 * ((x - z) * (x - z) + (y - z) * (y - z)) := by
  have h := sq_nonneg ((x - z) + (y - z))
  have e : ((x - z) + (y - z)) * ((x - z) + (y - z)) = 2 * ((x - z) * (x - z) + (y - z) * (y - z)) - (x - y) * (x - y) := by
    simp only [Int.sub_mul, Int.mul_sub, Int.add_mul, Int.mul_add]
    rw [Int.mul_comm y x, Int.mul_comm z x, Int.mul_comm z y]
    omega
  omega
theorem sum_twice (f g h : Nat → Int) (H : ∀ i, f i ≤ 2 * (g i + h i)) (n : Nat) : sumTo f n ≤ 2 * (sumTo g n + sumTo h n) := by
  induction n with
  | zero => simp [sumTo]
  | succ n ih => have := H n; simp only [sumTo]; omega
theorem zD_in {ms : List Mk} (h : marksB ms = true) (kd : Int) (hk : kindB kd = true) {i j : Nat} (hi : i < ms.length) (hj : j < ms.length) : zD ms kd i j = betV (mat ms i) (mat ms j) kd := by
  have ht := marks_two h hi hj
  obtain ⟨ha, hb, hl⟩ := twoB_of ht
  have h1 := third ht ht
  have hk' := (kindB_iff kd).1 hk
  unfold zD
  have : 0 ≤ betV (mat ms i) (mat ms j) kd := by
    unfold betV
    split
    · omega
    · split
      · omega
      · split <;> omega
  omega
theorem zD_comm (ms : List Mk) (kd : Int) (i j : Nat) : zD ms kd i j = zD ms kd j i := by
  unfold zD betV
  have hf : ∀ a b : List Int, farV a b = farV b a := fun a b => by
    unfold farV
    by_cases ht : twoB a b = true
    · obtain ⟨ha, hb, hl⟩ := twoB_of ht
      rw [if_pos ht, if_pos (twoB_true hb ha hl.symm), hl]
      refine sumTo_congr _ _ _ (fun i _ => ?_)
      simp only [sqF]
      rw [show nth b i - nth a i = -(nth a i - nth b i) by omega, Int.neg_mul_neg]
    · have h' : ¬ twoB b a = true := fun h2 => by
        obtain ⟨ha, hb, hl⟩ := twoB_of h2
        exact ht (twoB_true hb ha hl.symm)
      rw [if_neg ht, if_neg h']
  rw [hf (mat ms i), stepsV_comm (mat ms j), reachV_comm (mat ms j)]
theorem zD_third {ms : List Mk} (h : marksB ms = true) (kd : Int) (hk : kindB kd = true) (i j b : Nat) (hi : i < ms.length) (hj : j < ms.length) (hb : b < ms.length) : zD ms kd i j ≤ zK kd * (zD ms kd i b + zD ms kd j b) := by
  have hij := marks_two h hi hj
  have hib := marks_two h hi hb
  have hjb := marks_two h hj hb
  have t := third hij hib
  have hk' := (kindB_iff kd).1 hk
  rw [zD_in h kd hk hi hj, zD_in h kd hk hi hb, zD_comm ms kd j b, zD_in h kd hk hb hj]
  unfold zK betV
  by_cases k1 : kd = 1
  · simp only [k1, if_true]
    have hbj := marks_two h hb hj
    obtain ⟨_, _, l1⟩ := twoB_of hij
    obtain ⟨_, _, l2⟩ := twoB_of hib
    rw [farV, if_pos hij, farV, if_pos hib, farV, if_pos hbj, ← l2]
    refine sum_twice _ _ _ (fun i => ?_) _
    simp only [sqF]
    rw [show (nth (mat ms b) i - nth (mat ms j) i) * (nth (mat ms b) i - nth (mat ms j) i) = (nth (mat ms j) i - nth (mat ms b) i) * (nth (mat ms j) i - nth (mat ms b) i) by rw [show nth (mat ms b) i - nth (mat ms j) i = -(nth (mat ms j) i - nth (mat ms b) i) by omega, Int.neg_mul_neg]]
    exact sq_third _ _ _
  · simp only [k1, if_false, Int.one_mul]
    by_cases k2 : kd = 2
    · simp only [k2, if_true]; omega
    · have k3 : kd = 3 := by omega
      simp [k3]; omega

end Go.Proofs.Ytbmljcpeonopmaa
namespace Go.Proofs.Ytbmljcpeonopmaa

/-- Of the first m the first one with this number; -1 of none. -/
def zFindTo (ms : List Mk) (id : Int) : Nat → Int
  | 0 => -1
  | m + 1 => if 0 ≤ zFindTo ms id m then zFindTo ms id m else if mid ms m = id then (m : Int) else -1
def zFind (ms : List Mk) (id : Int) : Int := zFindTo ms id ms.length
def zIdx (ms : List Mk) (id : Int) : Nat := (zFind ms id).toNat
theorem zFindTo_bd (ms : List Mk) (id : Int) (m : Nat) : -1 ≤ zFindTo ms id m ∧ zFindTo ms id m < m ∧ (0 ≤ zFindTo ms id m → mid ms (zFindTo ms id m).toNat = id) := by
  induction m with
  | zero => simp [zFindTo]
  | succ m ih =>
    simp only [zFindTo]
    split
    · exact ⟨ih.1, by omega, ih.2.2⟩
    · split
      · rename_i h
        exact ⟨by omega, by omega, fun _ => by simpa using h⟩
      · exact ⟨by omega, by omega, fun h => by omega⟩
theorem zFindTo_no {ms : List Mk} {id : Int} {m : Nat} (h : zFindTo ms id m < 0) : ∀ j, j < m → mid ms j ≠ id := by
  induction m with
  | zero => intro j hj; omega
  | succ m ih =>
    simp only [zFindTo] at h
    intro j hj
    by_cases h0 : 0 ≤ zFindTo ms id m
    · rw [if_pos h0] at h; omega
    · rw [if_neg h0] at h
      rcases Nat.lt_or_ge j m with h1 | h1
      · exact ih (by omega) j h1
      · rw [show j = m by omega]
        intro e
        rw [if_pos e] at h
        omega
theorem zIdx_lt {ms : List Mk} {id : Int} (h : 0 ≤ zFind ms id) : zIdx ms id < ms.length ∧ ((zIdx ms id : Nat) : Int) = zFind ms id ∧ mid ms (zIdx ms id) = id := by
  have := zFindTo_bd ms id ms.length
  unfold zIdx zFind at *
  exact ⟨by omega, by omega, this.2.2 h⟩
theorem zmid_rises {ms : List Mk} (h : marksB ms = true) {i j : Nat} (hij : i < j) (hj : j < ms.length) : mid ms i < mid ms j := by
  induction j with
  | zero => omega
  | succ j ih =>
    have h1 := ((mOkAt_iff ms (j + 1)).1 (marksB_at h hj)).2.2.2.2
    simp at h1
    rcases Nat.lt_or_ge i j with h2 | h2
    · have := ih h2 (by omega); omega
    · rw [show i = j by omega]; exact h1
theorem zmid_inj {ms : List Mk} (h : marksB ms = true) {i j : Nat} (hi : i < ms.length) (hj : j < ms.length) (e : mid ms i = mid ms j) : i = j := by
  rcases Nat.lt_trichotomy i j with h1 | h1 | h1
  · have := zmid_rises h h1 hj; omega
  · exact h1
  · have := zmid_rises h h1 hi; omega
theorem zFind_mid {ms : List Mk} (h : marksB ms = true) {i : Nat} (hi : i < ms.length) : zFind ms (mid ms i) = i ∧ zIdx ms (mid ms i) = i := by
  have hp : 0 ≤ zFind ms (mid ms i) := by
    rcases Int.lt_or_le (zFind ms (mid ms i)) 0 with h1 | h1
    · exact absurd rfl (zFindTo_no h1 i hi)
    · exact h1
  obtain ⟨a, b, c⟩ := zIdx_lt hp
  have e := zmid_inj h a hi c
  exact ⟨by omega, e⟩
/-- The least distance of a place to those with some numbers. -/
def zNearI (ms : List Mk) (kd : Int) (p : List Int) (ids : List Int) : Int := ids.foldl (fun n id => zStep n (betV p (mat ms (zIdx ms id)) kd)) (-1)
theorem zNearI_eq {ms : List Mk} (h : marksB ms = true) (kd : Int) (hk : kindB kd = true) {i : Nat} (hi : i < ms.length) (ids : List Int) (hf : ∀ id ∈ ids, 0 ≤ zFind ms id) : zNearI ms kd (mat ms i) ids = zNear (zD ms kd) i (ids.map (zIdx ms)) := by
  unfold zNearI zNear
  rw [List.foldl_map]
  generalize (-1 : Int) = a
  induction ids generalizing a with
  | nil => rfl
  | cons x ids ih =>
    simp only [List.foldl_cons]
    rw [zD_in h kd hk hi (zIdx_lt (hf x (List.mem_cons_self ..))).1]
    exact ih (fun id hid => hf id (List.mem_cons_of_mem _ hid)) _
theorem zIdx_map {ms : List Mk} (h : marksB ms = true) {L : List Nat} (hL : ∀ c ∈ L, c < ms.length) : (L.map (mid ms)).map (zIdx ms) = L := by
  rw [List.map_map]
  induction L with
  | nil => rfl
  | cons x L ih =>
    simp only [List.map_cons, Function.comp]
    rw [(zFind_mid h (hL x (List.mem_cons_self ..))).2]
    congr 1
    exact ih (fun c hc => hL c (List.mem_cons_of_mem _ hc))
theorem zFind_map {ms : List Mk} (h : marksB ms = true) {L : List Nat} (hL : ∀ c ∈ L, c < ms.length) : ∀ id ∈ L.map (mid ms), 0 ≤ zFind ms id := fun id hid => by
  obtain ⟨c, hc, rfl⟩ := List.mem_map.1 hid
  have := (zFind_mid h (hL c hc)).1
  omega
/-- Chosen, Radius, BestRadius, plainly. -/
def chosB (ms : List Mk) (k kd : Int) : Bool := marksB ms && decide (1 ≤ k) && decide (k ≤ ms.length) && kindB kd
def choL (ms : List Mk) (k kd : Int) : List Int := if chosB ms k kd = true then (zCho (zD ms kd) ms.length k.toNat).map (mid ms) else []
def radB (ms : List Mk) (ids : List Int) (kd : Int) : Bool := marksB ms && decide (ids.length ≠ 0) && kindB kd && ids.all (fun id => decide (0 ≤ zFind ms id))
def radI (ms : List Mk) (ids : List Int) (kd : Int) : Int := if radB ms ids kd = true then zRad (zD ms kd) ms.length (ids.map (zIdx ms)) else -1
def bradB (ms : List Mk) (k kd : Int) : Bool := chosB ms k kd && decide (ms.length ≤ 8)
def bradI (ms : List Mk) (k kd : Int) : Int := if bradB ms k kd = true then zBest (zD ms kd) ms.length k.toNat [] 0 else -1

end Go.Proofs.Ytbmljcpeonopmaa
namespace Go.Proofs.Ytbmljcpeonopmaa

theorem floor_of {n s q : Int} (hs : 0 < s) (h1 : q * s ≤ n) (h2 : n < q * s + s) : n / s = q := by
  have a := (Int.le_ediv_iff_mul_le hs (a := q) (b := n)).2 h1
  have b : n / s < q + 1 := (Int.ediv_lt_iff_lt_mul hs).2 (by rw [Int.add_mul, Int.one_mul]; exact h2)
  omega
theorem floor_in {n s : Int} (hs : 0 < s) : n / s * s ≤ n ∧ n < n / s * s + s := by
  have a := Int.ediv_mul_le n (b := s) (by omega)
  have b := Int.lt_ediv_add_one_mul_self n hs
  rw [Int.add_mul, Int.one_mul] at b
  exact ⟨a, b⟩
theorem tdiv_pos {n s : Int} (hn : 0 ≤ n) : n.tdiv s = n / s := Int.tdiv_eq_ediv_of_nonneg hn
theorem tdiv_neg' {n s : Int} (hn : n < 0) : n.tdiv s = -((-n) / s) := by
  rw [← tdiv_pos (n := -n) (by omega), Int.neg_tdiv, Int.neg_neg]
/-- The given way: towards nought, and one less where that is above. -/
theorem floor_spec_yes {n s : Int} (hs : 0 < s) (h : n.tdiv s * s > n) : n / s = n.tdiv s - 1 := by
  rcases Int.lt_or_le n 0 with hn | hn
  · rw [tdiv_neg' hn] at h ⊢
    have := floor_in (n := -n) hs
    refine floor_of hs ?_ ?_
    · rw [Int.sub_mul, Int.one_mul]
      rw [Int.neg_mul] at h ⊢
      omega
    · rw [Int.sub_mul, Int.one_mul]
      rw [Int.neg_mul] at h ⊢
      omega
  · rw [tdiv_pos hn] at h
    have := floor_in (n := n) hs
    omega
theorem floor_spec_no {n s : Int} (hs : 0 < s) (h : ¬ n.tdiv s * s > n) : n / s = n.tdiv s := by
  rcases Int.lt_or_le n 0 with hn | hn
  · rw [tdiv_neg' hn] at h ⊢
    have := floor_in (n := -n) hs
    refine floor_of hs ?_ ?_
    · rw [Int.neg_mul] at h ⊢
      omega
    · rw [Int.neg_mul] at h ⊢
      omega
  · rw [tdiv_pos hn]
/-- The program's: below nought it begins at the low end. -/
theorem floor_low {n s : Int} (hs : 0 < s) (hn : n < 0) : (n - (s - 1)).tdiv s = n / s := by
  rw [tdiv_neg' (by omega)]
  have h := floor_in (n := -(n - (s - 1))) hs
  generalize -(n - (s - 1)) / s = d at *
  refine (floor_of hs ?_ ?_).symm
  · rw [Int.neg_mul]; omega
  · rw [Int.neg_mul]; omega
theorem floor_bd {n s : Int} (hs : 0 < s) (h1 : -1000 ≤ n) (h2 : n ≤ 1000) : -1000 ≤ n / s ∧ n / s ≤ 1000 := by
  constructor
  · exact (Int.le_ediv_iff_mul_le hs).2 (by
      have : (1000 : Int) * 1 ≤ 1000 * s := Int.mul_le_mul_of_nonneg_left (by omega) (by omega)
      rw [Int.neg_mul]; omega)
  · have := (Int.ediv_lt_iff_lt_mul hs (a := n) (b := 1001)).2 (by
      have : (1001 : Int) * 1 ≤ 1001 * s := Int.mul_le_mul_of_nonneg_left (by omega) (by omega)
      omega)
    omega
theorem tdiv_bd {n s : Int} (hs : 0 < s) (h1 : -1000 ≤ n) (h2 : n ≤ 1000) (h3 : s ≤ 1000) : -1000 ≤ n.tdiv s ∧ n.tdiv s ≤ 1000 ∧ -3000 ≤ n.tdiv s * s ∧ n.tdiv s * s ≤ 3000 := by
  have hb := floor_bd hs h1 h2
  have hi := floor_in (n := n) hs
  by_cases h : n.tdiv s * s > n
  · have e := floor_spec_yes hs h
    have e2 : n.tdiv s = n / s + 1 := by omega
    have e3 : n.tdiv s * s = n / s * s + s := by rw [e2, Int.add_mul, Int.one_mul]
    have hle : n / s + 1 ≤ 1000 := by
      rcases Int.lt_or_le n 0 with hn | hn
      · have := Int.ediv_neg_of_neg_of_pos hn hs
        omega
      · rw [tdiv_pos hn] at h; omega
    omega
  · have e := floor_spec_no hs h
    rw [← e]
    omega
def gsideB (s : Int) : Bool := decide (1 ≤ s) && decide (s ≤ 1000)
theorem gsideB_iff (s : Int) : gsideB s = true ↔ 1 ≤ s ∧ s ≤ 1000 := by simp [gsideB]
def cellF (p : List Int) (s : Int) (i : Nat) : Int := nth p i / s
def cellV (p : List Int) (s : Int) : List Int := tabL (cellF p s) p.length
def cellL (p : List Int) (s : Int) : List Int := if okB p = true ∧ gsideB s = true then cellV p s else []
theorem cellV_length (p : List Int) (s : Int) : (cellV p s).length = p.length := by simp [cellV, tabL_length]
theorem cellL_short (p : List Int) (s : Int) : (cellL p s).length ≤ 4 := by
  unfold cellL
  split
  · rename_i h
    rw [cellV_length]; exact (okB_len h.1).2
  · simp

end Go.Proofs.Ytbmljcpeonopmaa
namespace Go.Proofs.Ytbmljcpeonopmaa

/-- The i-th center. -/
def cn (cs : List (List Int)) (i : Nat) : List Int := cs.getD i []
def pairB (cs : List (List Int)) : Bool := (List.range cs.length).all (fun i => twoB (cn cs i) (cn cs 0))
def ctrsB (ms : List Mk) (cs : List (List Int)) : Bool := decide (1 ≤ cs.length) && decide (cs.length ≤ 8) && pairB cs && toldB ms (cn cs 0)
/-- Of the first ones the number of the nearest, the first of alike ones. -/
def givI (cs : List (List Int)) (p : List Int) : Nat → Nat
  | 0 => 0
  | n + 1 => if farV p (cn cs n) < farV p (cn cs (givI cs p n)) then n else givI cs p n
def givN (ms : List Mk) (cs : List (List Int)) (j : Nat) : Nat := givI cs (mat ms j) cs.length
def givF (ms : List Mk) (cs : List (List Int)) (j : Nat) : Int := (givN ms cs j : Int)
def givenL (ms : List Mk) (cs : List (List Int)) : List Int := if ctrsB ms cs = true then tabL (givF ms cs) ms.length else []
def costF (ms : List Mk) (cs : List (List Int)) (j : Nat) : Int := farV (mat ms j) (cn cs (givN ms cs j))
def costV (ms : List Mk) (cs : List (List Int)) : Int := if ctrsB ms cs = true then sumTo (costF ms cs) ms.length else -1

/-- How many of the first n are given to i. -/
def cntG (g : Nat → Nat) (i : Nat) : Nat → Int
  | 0 => 0
  | n + 1 => if g n = i then cntG g i n + 1 else cntG g i n
def sumG (g : Nat → Nat) (f : Nat → Int) (i : Nat) : Nat → Int
  | 0 => 0
  | n + 1 => if g n = i then sumG g f i n + f n else sumG g f i n
def ownG (g : Nat → Nat) (f : Nat → Int) (i : Nat) : Nat → List Int
  | 0 => []
  | n + 1 => if g n = i then ownG g f i n ++ [f n] else ownG g f i n
def meanN (s n : Int) : Int := (2 * s + n - 1) / (2 * n)
def ptF (ms : List Mk) (k j : Nat) : Int := nth (mat ms j) k
def shiftF (ms : List Mk) (cs : List (List Int)) (i k : Nat) : Int :=
  if cntG (givN ms cs) i ms.length = 0 then nth (cn cs i) k else meanN (sumG (givN ms cs) (ptF ms k) i ms.length) (cntG (givN ms cs) i ms.length)
def shiftP (ms : List Mk) (cs : List (List Int)) (i : Nat) : List Int := tabL (shiftF ms cs i) (cn cs i).length
def shiftL (ms : List Mk) (cs : List (List Int)) : List (List Int) := if ctrsB ms cs = true then (List.range cs.length).map (shiftP ms cs) else []
def stillB (ms : List Mk) (cs : List (List Int)) : Bool := ctrsB ms cs && decide (shiftL ms cs = cs)

theorem cn_at {cs : List (List Int)} {i : Nat} (h : i < cs.length) : cn cs i = cs[i] := by simp [cn, List.getD, h]
theorem pairB_at {cs : List (List Int)} (h : pairB cs = true) {i : Nat} (hi : i < cs.length) : twoB (cn cs i) (cn cs 0) = true := by
  simp only [pairB, List.all_eq_true] at h
  exact h i (List.mem_range.2 hi)
theorem pairB_mk {cs : List (List Int)} (h : ∀ i, i < cs.length → twoB (cn cs i) (cn cs 0) = true) : pairB cs = true := by
  simp only [pairB, List.all_eq_true]
  exact fun i hi => h i (List.mem_range.1 hi)
theorem pairB_out {cs : List (List Int)} {i : Nat} (hi : i < cs.length) (h : twoB (cn cs i) (cn cs 0) = false) : pairB cs = false := by
  rcases hb : pairB cs with _ | _
  · rfl
  · rw [pairB_at hb hi] at h; cases h
theorem toldB_of {ms : List Mk} {q : List Int} (h : toldB ms q = true) : marksB ms = true ∧ okB q = true ∧ (ms.length = 0 ∨ (mat ms 0).length = q.length) := by
  simp only [toldB, Bool.and_eq_true, Bool.or_eq_true, decide_eq_true_eq] at h
  exact ⟨h.1.1, h.1.2, h.2⟩
theorem ctrsB_of {ms : List Mk} {cs : List (List Int)} (h : ctrsB ms cs = true) : 1 ≤ cs.length ∧ cs.length ≤ 8 ∧ pairB cs = true ∧ toldB ms (cn cs 0) = true := by
  simp only [ctrsB, Bool.and_eq_true, decide_eq_true_eq] at h
  exact ⟨h.1.1.1, h.1.1.2, h.1.2, h.2⟩
theorem ctrsB_mk {ms : List Mk} {cs : List (List Int)} (h1 : 1 ≤ cs.length) (h2 : cs.length ≤ 8) (h3 : pairB cs = true) (h4 : toldB ms (cn cs 0) = true) : ctrsB ms cs = true := by
  simp [ctrsB, h1, h2, h3, h4]
theorem ctrsB_few {ms : List Mk} {cs : List (List Int)} (h : ¬ 1 ≤ cs.length) : ctrsB ms cs = false := by
  simp only [ctrsB, h, decide_false, Bool.false_and]
theorem ctrsB_many {ms : List Mk} {cs : List (List Int)} (h : ¬ cs.length ≤ 8) : ctrsB ms cs = false := by
  simp only [ctrsB, h, decide_false, Bool.false_and, Bool.and_false]
theorem ctrsB_pair {ms : List Mk} {cs : List (List Int)} (h : pairB cs = false) : ctrsB ms cs = false := by simp [ctrsB, h]
theorem ctrsB_told {ms : List Mk} {cs : List (List Int)} (h : toldB ms (cn cs 0) = false) : ctrsB ms cs = false := by simp [ctrsB, h]
theorem ctrs_len {ms : List Mk} {cs : List (List Int)} (h : ctrsB ms cs = true) {i : Nat} (hi : i < cs.length) : okB (cn cs i) = true ∧ (cn cs i).length = (cn cs 0).length := by
  obtain ⟨_, _, h3, _⟩ := ctrsB_of h
  obtain ⟨a, _, c⟩ := twoB_of (pairB_at h3 hi)
  exact ⟨a, c⟩
theorem ctrs_mark {ms : List Mk} {cs : List (List Int)} (h : ctrsB ms cs = true) {j : Nat} (hj : j < ms.length) : okB (mat ms j) = true ∧ (mat ms j).length = (cn cs 0).length := by
  obtain ⟨_, _, _, h4⟩ := ctrsB_of h
  obtain ⟨hm, _, hl⟩ := toldB_of h4
  have a := (mOkAt_iff ms j).1 (marksB_at hm hj)
  exact ⟨a.2.2.1, by omega⟩
theorem ctrs_two {ms : List Mk} {cs : List (List Int)} (h : ctrsB ms cs = true) {i j : Nat} (hi : i < cs.length) (hj : j < ms.length) : twoB (mat ms j) (cn cs i) = true :=
  twoB_true (ctrs_mark h hj).1 (ctrs_len h hi).1 (by have := (ctrs_mark h hj).2; have := (ctrs_len h hi).2; omega)

theorem givI_lt (cs : List (List Int)) (p : List Int) (n : Nat) (h : 0 < n) : givI cs p n < n := by
  induction n with
  | zero => omega
  | succ n ih =>
    simp only [givI]
    split
    · omega
    · rcases Nat.eq_zero_or_pos n with h0 | h0
      · subst h0; simp [givI]
      · have := ih h0; omega
theorem givI_le (cs : List (List Int)) (p : List Int) (n : Nat) : givI cs p n ≤ n := by
  rcases Nat.eq_zero_or_pos n with h0 | h0
  · subst h0; simp [givI]
  · exact Nat.le_of_lt (givI_lt cs p n h0)
theorem givI_least (cs : List (List Int)) (p : List Int) (n j : Nat) (h : j < n) : farV p (cn cs (givI cs p n)) ≤ farV p (cn cs j) := by
  induction n with
  | zero => omega
  | succ n ih =>
    simp only [givI]
    rcases Nat.lt_or_ge j n with h1 | h1
    · have := ih h1
      split <;> omega
    · rw [show j = n by omega]
      split <;> omega
theorem givI_first (cs : List (List Int)) (p : List Int) (n j : Nat) (h : j < givI cs p n) : farV p (cn cs (givI cs p n)) < farV p (cn cs j) := by
  induction n with
  | zero => simp [givI] at h
  | succ n ih =>
    simp only [givI] at h ⊢
    split
    · rename_i hlt
      rw [if_pos hlt] at h
      have := givI_least cs p n j h
      omega
    · rename_i hlt
      rw [if_neg hlt] at h
      exact ih h
theorem givN_lt {ms : List Mk} {cs : List (List Int)} (h : 1 ≤ cs.length) (j : Nat) : givN ms cs j < cs.length := givI_lt _ _ _ (by omega)

theorem farV_bd (a b : List Int) : -1 ≤ farV a b ∧ farV a b ≤ 16000000 := by
  have := betV_le a b 1
  simpa [betV] using this
theorem farV_pos {a b : List Int} (h : twoB a b = true) : 0 ≤ farV a b ∧ farV a b ≤ 16000000 := by
  refine ⟨?_, (farV_bd a b).2⟩
  obtain ⟨ha, hb, _⟩ := twoB_of h
  have := sumTo_le (sqF a b) 0 4000000 (sqF_bd ha hb) a.length
  simp only [farV, h, if_true]
  omega
theorem farV_comm (a b : List Int) : farV a b = farV b a := by
  unfold farV
  by_cases h : twoB a b = true
  · obtain ⟨ha, hb, hl⟩ := twoB_of h
    rw [if_pos h, if_pos (twoB_true hb ha hl.symm), hl]
    refine sumTo_congr _ _ _ (fun i _ => ?_)
    simp only [sqF]
    rw [show nth b i - nth a i = -(nth a i - nth b i) by omega, Int.neg_mul_neg]
  · have h' : ¬ twoB b a = true := fun h2 => by
      obtain ⟨ha, hb, hl⟩ := twoB_of h2
      exact h (twoB_true hb ha hl.symm)
    rw [if_neg h, if_neg h']

theorem cntG_bd (g : Nat → Nat) (i n : Nat) : 0 ≤ cntG g i n ∧ cntG g i n ≤ n := by
  induction n with
  | zero => simp [cntG]
  | succ n ih => simp only [cntG]; split <;> omega
theorem ownG_length (g : Nat → Nat) (f : Nat → Int) (i n : Nat) : ((ownG g f i n).length : Int) = cntG g i n := by
  induction n with
  | zero => rfl
  | succ n ih =>
    simp only [ownG, cntG]
    split
    · simp; omega
    · exact ih
theorem sumTo_snoc (xs : List Int) (x : Int) : sumTo (nth (xs ++ [x])) (xs ++ [x]).length = sumTo (nth xs) xs.length + x := by
  rw [List.length_append, List.length_singleton]
  simp only [sumTo]
  have e1 : sumTo (nth (xs ++ [x])) xs.length = sumTo (nth xs) xs.length := sumTo_congr _ _ _ (fun i hi => by
    simp [nth, List.getD, List.getElem?_append_left hi])
  have e2 : nth (xs ++ [x]) xs.length = x := by simp [nth, List.getD]
  rw [e1, e2]
theorem ownG_sum (g : Nat → Nat) (f : Nat → Int) (i n : Nat) : sumTo (nth (ownG g f i n)) (ownG g f i n).length = sumG g f i n := by
  induction n with
  | zero => rfl
  | succ n ih =>
    simp only [ownG, sumG]
    split
    · rw [sumTo_snoc, ih]
    · exact ih
theorem ownG_all (g : Nat → Nat) (f : Nat → Int) (i n : Nat) (p : Int → Prop) (h : ∀ j, j < n → p (f j)) : ∀ x ∈ ownG g f i n, p x := by
  induction n with
  | zero => simp [ownG]
  | succ n ih =>
    simp only [ownG]
    have ih' := ih (fun j hj => h j (by omega))
    split
    · intro x hx
      rcases List.mem_append.1 hx with h1 | h1
      · exact ih' x h1
      · rw [List.mem_singleton.1 h1]; exact h n (by omega)
    · exact ih'
theorem sumG_bd (g : Nat → Nat) (f : Nat → Int) (i n : Nat) (b : Int) (_hb : 0 ≤ b) (h : ∀ j, j < n → -b ≤ f j ∧ f j ≤ b) : -(b * cntG g i n) ≤ sumG g f i n ∧ sumG g f i n ≤ b * cntG g i n := by
  induction n with
  | zero => simp [sumG, cntG]
  | succ n ih =>
    have ih' := ih (fun j hj => h j (by omega))
    have := h n (by omega)
    simp only [sumG, cntG]
    split
    · rw [Int.mul_add, Int.mul_one]; omega
    · exact ih'

/-- What a mean is between. -/
theorem meanN_in {s n : Int} (hn : 0 < n) : 2 * s ≤ n * (2 * meanN s n + 1) ∧ n * (2 * meanN s n - 1) < 2 * s := by
  have h := floor_in (n := 2 * s + n - 1) (s := 2 * n) (by omega)
  unfold meanN
  generalize (2 * s + n - 1) / (2 * n) = m at *
  have e : m * (2 * n) = 2 * (n * m) := by rw [Int.mul_left_comm, Int.mul_comm m n]
  rw [e] at h
  have e1 : n * (2 * m + 1) = 2 * (n * m) + n := by rw [Int.mul_add, Int.mul_one, Int.mul_left_comm]
  have e2 : n * (2 * m - 1) = 2 * (n * m) - n := by rw [Int.mul_sub, Int.mul_one, Int.mul_left_comm]
  rw [e1, e2]
  omega
theorem meanN_bd {s n b : Int} (hn : 0 < n) (h1 : -(b * n) ≤ s) (h2 : s ≤ b * n) : -b ≤ meanN s n ∧ meanN s n ≤ b := by
  unfold meanN
  constructor
  · refine (Int.le_ediv_iff_mul_le (by omega)).2 ?_
    have e : -b * (2 * n) = -(2 * (b * n)) := by rw [Int.neg_mul, Int.mul_left_comm]
    omega
  · have := (Int.ediv_lt_iff_lt_mul (by omega : (0 : Int) < 2 * n) (a := 2 * s + n - 1) (b := b + 1)).2 (by
      have e : (b + 1) * (2 * n) = 2 * (b * n) + 2 * n := by rw [Int.add_mul, Int.one_mul, Int.mul_left_comm]
      omega)
    omega
/-- No other number costs less than the mean. -/
theorem meanN_least {s n : Int} (hn : 0 < n) (x : Int) : n * (meanN s n * meanN s n) - 2 * (s * meanN s n) ≤ n * (x * x) - 2 * (s * x) := by
  obtain ⟨h1, h2⟩ := meanN_in (s := s) hn
  generalize meanN s n = m at *
  have key : 0 ≤ (x - m) * (n * (x + m) - 2 * s) := by
    rcases Int.lt_trichotomy x m with h | h | h
    · have a : n * (x + m) ≤ n * (2 * m - 1) := Int.mul_le_mul_of_nonneg_left (by omega) (by omega)
      have := Int.mul_nonneg (a := m - x) (b := 2 * s - n * (x + m)) (by omega) (by omega)
      have e : (m - x) * (2 * s - n * (x + m)) = (x - m) * (n * (x + m) - 2 * s) := by
        rw [← Int.neg_mul_neg]; congr 1 <;> omega
      omega
    · subst h; simp
    · have a : n * (2 * m + 1) ≤ n * (x + m) := Int.mul_le_mul_of_nonneg_left (by omega) (by omega)
      exact Int.mul_nonneg (by omega) (by omega)
  have e : (x - m) * (n * (x + m) - 2 * s) = (n * (x * x) - 2 * (s * x)) - (n * (m * m) - 2 * (s * m)) := by
    simp only [Int.mul_sub, Int.sub_mul, Int.mul_add]
    have a1 : x * (n * x) = n * (x * x) := Int.mul_left_comm ..
    have a2 : x * (n * m) = n * (m * x) := by rw [Int.mul_left_comm, Int.mul_comm x m]
    have a3 : m * (n * x) = n * (m * x) := Int.mul_left_comm ..
    have a4 : m * (n * m) = n * (m * m) := Int.mul_left_comm ..
    have a5 : x * (2 * s) = 2 * (s * x) := by rw [Int.mul_left_comm, Int.mul_comm x s]
    have a6 : m * (2 * s) = 2 * (s * m) := by rw [Int.mul_left_comm, Int.mul_comm m s]
    rw [a1, a2, a3, a4, a5, a6]
    omega
  omega
def sqG (f : Nat → Int) (x : Int) (j : Nat) : Int := (f j - x) * (f j - x)
theorem sumG_sq (g : Nat → Nat) (f : Nat → Int) (i n : Nat) (x : Int) : sumG g (sqG f x) i n = sumG g (fun j => f j * f j) i n + (cntG g i n * (x * x) - 2 * (sumG g f i n * x)) := by
  induction n with
  | zero => simp [sumG, cntG]
  | succ n ih =>
    simp only [sumG, cntG]
    split
    · rw [ih]
      have e : sqG f x n = f n * f n + (x * x - 2 * (f n * x)) := by
        simp only [sqG, Int.sub_mul, Int.mul_sub]
        rw [Int.mul_comm x (f n)]
        omega
      rw [e, Int.add_mul, Int.one_mul, Int.add_mul]
      omega
    · exact ih
theorem sumG_mean (g : Nat → Nat) (f : Nat → Int) (i n : Nat) (x : Int) (h : 0 < cntG g i n) : sumG g (sqG f (meanN (sumG g f i n) (cntG g i n))) i n ≤ sumG g (sqG f x) i n := by
  rw [sumG_sq, sumG_sq]
  have := meanN_least (s := sumG g f i n) h x
  omega
theorem sumG_zero (g : Nat → Nat) (f : Nat → Int) (i n : Nat) (h : cntG g i n = 0) : sumG g f i n = 0 := by
  induction n with
  | zero => rfl
  | succ n ih =>
    have := cntG_bd g i n
    simp only [cntG] at h
    simp only [sumG]
    split
    · rename_i hg; rw [if_pos hg] at h; omega
    · rename_i hg; rw [if_neg hg] at h; exact ih h
/-- Group by group, or one by one. -/
theorem sumG_all (g : Nat → Nat) (F : Nat → Nat → Int) (K n : Nat) (h : ∀ j, j < n → g j < K) : sumTo (fun j => F (g j) j) n = sumTo (fun i => sumG g (F i) i n) K := by
  induction n with
  | zero =>
    simp only [sumTo, sumG]
    clear h
    induction K with
    | zero => rfl
    | succ K ih => simp only [sumTo]; omega
  | succ n ih =>
    have ih' := ih (fun j hj => h j (by omega))
    have hn := h n (by omega)
    simp only [sumTo]
    rw [ih']
    clear ih ih' h
    induction K with
    | zero => omega
    | succ K ihK =>
      simp only [sumTo]
      rcases Nat.lt_or_ge (g n) K with h1 | h1
      · have := ihK h1
        have e : sumG g (F K) K (n + 1) = sumG g (F K) K n := by simp only [sumG]; rw [if_neg (by omega)]
        rw [e]; omega
      · have hK : g n = K := by omega
        have e : sumG g (F K) K (n + 1) = sumG g (F K) K n + F K n := by simp only [sumG]; rw [if_pos hK]
        have e2 : sumTo (fun i => sumG g (F i) i (n + 1)) K = sumTo (fun i => sumG g (F i) i n) K := sumTo_congr _ _ _ (fun i hi => by simp only [sumG]; rw [if_neg (by omega)])
        rw [e, e2, hK]; omega
theorem sumTo_le_of (f g : Nat → Int) (n : Nat) (h : ∀ i, i < n → f i ≤ g i) : sumTo f n ≤ sumTo g n := by
  induction n with
  | zero => simp [sumTo]
  | succ n ih => have := ih (fun i hi => h i (by omega)); have := h n (by omega); simp only [sumTo]; omega
theorem sumTo_add (f g : Nat → Int) (n : Nat) : sumTo (fun i => f i + g i) n = sumTo f n + sumTo g n := by
  induction n with
  | zero => rfl
  | succ n ih => simp only [sumTo]; omega
theorem sumTo_swap (f : Nat → Nat → Int) (n d : Nat) : sumTo (fun j => sumTo (f j) d) n = sumTo (fun k => sumTo (fun j => f j k) n) d := by
  induction d with
  | zero =>
    simp only [sumTo]
    induction n with
    | zero => rfl
    | succ n ih => simp only [sumTo]; omega
  | succ d ih =>
    simp only [sumTo]
    rw [sumTo_add, ih]

theorem shiftL_length {ms : List Mk} {cs : List (List Int)} (h : ctrsB ms cs = true) : (shiftL ms cs).length = cs.length := by simp [shiftL, h]
theorem shiftL_at {ms : List Mk} {cs : List (List Int)} (h : ctrsB ms cs = true) {i : Nat} (hi : i < cs.length) : cn (shiftL ms cs) i = shiftP ms cs i := by
  simp [cn, shiftL, h, List.getD, hi]
theorem shiftP_length (ms : List Mk) (cs : List (List Int)) (i : Nat) : (shiftP ms cs i).length = (cn cs i).length := tabL_length _ _
theorem ptF_bd {ms : List Mk} {cs : List (List Int)} (h : ctrsB ms cs = true) (k : Nat) {j : Nat} (hj : j < ms.length) : -1000 ≤ ptF ms k j ∧ ptF ms k j ≤ 1000 := okB_at (ctrs_mark h hj).1 k
theorem shiftF_bd {ms : List Mk} {cs : List (List Int)} (h : ctrsB ms cs = true) {i : Nat} (hi : i < cs.length) (k : Nat) : -1000 ≤ shiftF ms cs i k ∧ shiftF ms cs i k ≤ 1000 := by
  unfold shiftF
  have hc := cntG_bd (givN ms cs) i ms.length
  split
  · exact okB_at (ctrs_len h hi).1 k
  · have hs := sumG_bd (givN ms cs) (ptF ms k) i ms.length 1000 (by omega) (fun j hj => ptF_bd h k hj)
    exact meanN_bd (by omega) (by omega) (by omega)
theorem shiftP_ok {ms : List Mk} {cs : List (List Int)} (h : ctrsB ms cs = true) {i : Nat} (hi : i < cs.length) : okB (shiftP ms cs i) = true := by
  have := okB_len (ctrs_len h hi).1
  refine okB_mk (by rw [shiftP_length]; omega) (by rw [shiftP_length]; omega) (fun k hk => ?_)
  rw [shiftP_length] at hk
  show -1000 ≤ nth (tabL (shiftF ms cs i) _) k ∧ _
  rw [shiftP, tabL_getD _ _ _ hk]
  exact shiftF_bd h hi k
theorem shiftL_ok {ms : List Mk} {cs : List (List Int)} (h : ctrsB ms cs = true) : ctrsB ms (shiftL ms cs) = true := by
  obtain ⟨h1, h2, h3, h4⟩ := ctrsB_of h
  have h0 := shiftL_at h (i := 0) (by omega)
  have hl0 := shiftP_length ms cs 0
  refine ctrsB_mk (by rw [shiftL_length h]; exact h1) (by rw [shiftL_length h]; exact h2) (pairB_mk fun i hi => ?_) ?_
  · rw [shiftL_length h] at hi
    rw [h0, shiftL_at h hi]
    exact twoB_true (shiftP_ok h hi) (shiftP_ok h (by omega)) (by rw [hl0, shiftP_length, (ctrs_len h hi).2])
  · rw [h0]
    obtain ⟨a, b, c⟩ := toldB_of h4
    have := shiftP_ok h (i := 0) (by omega)
    simp only [toldB, a, this, hl0, Bool.true_and, Bool.or_eq_true, decide_eq_true_eq]
    exact c
/-- What is shifted costs no more. -/
theorem lloyd {ms : List Mk} {cs : List (List Int)} (h : ctrsB ms cs = true) : costV ms (shiftL ms cs) ≤ costV ms cs := by
  have hs := shiftL_ok h
  obtain ⟨h1, h2, h3, h4⟩ := ctrsB_of h
  have hL := shiftL_length h
  rw [costV, costV, if_pos h, if_pos hs]
  have step1 : sumTo (costF ms (shiftL ms cs)) ms.length ≤ sumTo (fun j => farV (mat ms j) (cn (shiftL ms cs) (givN ms cs j))) ms.length := by
    refine sumTo_le_of _ _ _ (fun j hj => ?_)
    exact givI_least _ _ _ _ (by rw [hL]; exact givN_lt h1 j)
  refine Int.le_trans step1 ?_
  have open1 : ∀ ds : List (List Int), ctrsB ms ds = true → ds.length = cs.length → (∀ i, i < cs.length → (cn ds i).length = (cn cs 0).length) →
      sumTo (fun j => farV (mat ms j) (cn ds (givN ms cs j))) ms.length = sumTo (fun k => sumTo (fun i => sumG (givN ms cs) (sqG (ptF ms k) (nth (cn ds i) k)) i ms.length) cs.length) (cn cs 0).length := by
    intro ds hd hdl _
    have e1 : sumTo (fun j => farV (mat ms j) (cn ds (givN ms cs j))) ms.length = sumTo (fun j => sumTo (fun k => sqG (ptF ms k) (nth (cn ds (givN ms cs j)) k) j) (cn cs 0).length) ms.length := by
      refine sumTo_congr _ _ _ (fun j hj => ?_)
      have ht := ctrs_two hd (i := givN ms cs j) (j := j) (by rw [hdl]; exact givN_lt h1 j) hj
      rw [farV, if_pos ht, (ctrs_mark h hj).2]
      rfl
    rw [e1, sumTo_swap]
    refine sumTo_congr _ _ _ (fun k _ => ?_)
    exact sumG_all (givN ms cs) (fun i => sqG (ptF ms k) (nth (cn ds i) k)) cs.length ms.length (fun j _ => givN_lt h1 j)
  rw [open1 _ hs hL (fun i hi => by rw [shiftL_at h hi, shiftP_length, (ctrs_len h hi).2])]
  show _ ≤ sumTo (fun j => farV (mat ms j) (cn cs (givN ms cs j))) ms.length
  rw [open1 cs h rfl (fun i hi => (ctrs_len h hi).2)]
  refine sumTo_le_of _ _ _ (fun k hk => sumTo_le_of _ _ _ (fun i hi => ?_))
  have hki : k < (cn cs i).length := by rw [(ctrs_len h hi).2]; exact hk
  rw [shiftL_at h hi, shiftP, tabL_getD _ _ _ hki]
  by_cases hc : cntG (givN ms cs) i ms.length = 0
  · rw [sumG_zero _ _ _ _ hc, sumG_zero _ _ _ _ hc]; omega
  · have := cntG_bd (givN ms cs) i ms.length
    rw [shiftF, if_neg hc]
    exact sumG_mean _ _ _ _ _ (by omega)

end Go.Proofs.Ytbmljcpeonopmaa
namespace Go.Proofs.Ytbmljcpeonopmaa

def lvRiseTo (l : List Int) : Nat → Bool
  | 0 => true
  | k + 1 => lvRiseTo l k && decide (nth l k < nth l (k + 1))
/-- Does it rise? -/
def lvRise (l : List Int) : Bool := lvRiseTo l (l.length - 1)
theorem lvRiseTo_iff (l : List Int) (n : Nat) : lvRiseTo l n = true ↔ ∀ j, j < n → nth l j < nth l (j + 1) := by
  induction n with
  | zero => simp [lvRiseTo]
  | succ n ih =>
    simp only [lvRiseTo, Bool.and_eq_true, decide_eq_true_eq, ih]
    constructor
    · rintro ⟨h1, h2⟩ j hj
      rcases Nat.lt_or_ge j n with h | h
      · exact h1 j h
      · obtain rfl : j = n := by omega
        exact h2
    · exact fun h => ⟨fun j hj => h j (by omega), h n (by omega)⟩
theorem lvRise_iff (l : List Int) : lvRise l = true ↔ ∀ j, j + 1 < l.length → nth l j < nth l (j + 1) := by
  unfold lvRise
  rw [lvRiseTo_iff]
  exact ⟨fun h j hj => h j (by omega), fun h j hj => h j (by omega)⟩
theorem lvRise_no {l : List Int} {j : Nat} (hj : j + 1 < l.length) (h : nth l (j + 1) ≤ nth l j) : lvRise l = false := by
  rcases e : lvRise l with _ | _
  · rfl
  · have := (lvRise_iff l).1 e j hj; omega
theorem lvRise_lt {l : List Int} (h : lvRise l = true) {i j : Nat} (hij : i < j) (hj : j < l.length) : nth l i < nth l j := by
  have h' := (lvRise_iff l).1 h
  induction j with
  | zero => omega
  | succ j ih =>
    have h1 := h' j hj
    rcases Nat.lt_or_ge i j with h2 | h2
    · have := ih h2 (by omega); omega
    · obtain rfl : i = j := by omega
      exact h1
/-- One list of levels. -/
def lvOk (l : List Int) : Bool := decide (1 ≤ l.length) && decide (l.length ≤ 16) && lvRise l && decide (-1000 ≤ nth l 0) && decide (nth l (l.length - 1) ≤ 1000)
theorem lvOk_iff (l : List Int) : lvOk l = true ↔ 1 ≤ l.length ∧ l.length ≤ 16 ∧ lvRise l = true ∧ -1000 ≤ nth l 0 ∧ nth l (l.length - 1) ≤ 1000 := by simp [lvOk, and_assoc]
theorem lvOk_at {l : List Int} (h : lvOk l = true) {k : Nat} (hk : k < l.length) : -1000 ≤ nth l k ∧ nth l k ≤ 1000 := by
  obtain ⟨h1, h2, h3, h4, h5⟩ := (lvOk_iff l).1 h
  constructor
  · rcases Nat.eq_zero_or_pos k with e | e
    · subst e; exact h4
    · have := lvRise_lt h3 e hk; omega
  · rcases Nat.lt_or_ge k (l.length - 1) with e | e
    · have := lvRise_lt h3 e (by omega); omega
    · obtain rfl : k = l.length - 1 := by omega
      exact h5
def levTo (ls : List (List Int)) : Nat → Bool
  | 0 => true
  | k + 1 => levTo ls k && lvOk (cn ls k)
/-- Levels. -/
def levB (ls : List (List Int)) : Bool := decide (1 ≤ ls.length) && decide (ls.length ≤ 4) && levTo ls ls.length
theorem levTo_iff (ls : List (List Int)) (n : Nat) : levTo ls n = true ↔ ∀ j, j < n → lvOk (cn ls j) = true := by
  induction n with
  | zero => simp [levTo]
  | succ n ih =>
    simp only [levTo, Bool.and_eq_true, ih]
    constructor
    · rintro ⟨h1, h2⟩ j hj
      rcases Nat.lt_or_ge j n with h | h
      · exact h1 j h
      · obtain rfl : j = n := by omega
        exact h2
    · exact fun h => ⟨fun j hj => h j (by omega), h n (by omega)⟩
theorem levB_iff (ls : List (List Int)) : levB ls = true ↔ 1 ≤ ls.length ∧ ls.length ≤ 4 ∧ ∀ j, j < ls.length → lvOk (cn ls j) = true := by
  simp only [levB, Bool.and_eq_true, decide_eq_true_eq, levTo_iff, and_assoc]
theorem levB_no {ls : List (List Int)} {j : Nat} (hj : j < ls.length) (h : lvOk (cn ls j) = false) : levB ls = false := by
  rcases e : levB ls with _ | _
  · rfl
  · have := ((levB_iff ls).1 e).2.2 j hj
    rw [this] at h; cases h
theorem levB_many {ls : List (List Int)} (h : ls.length < 1 ∨ 4 < ls.length) : levB ls = false := by
  rcases e : levB ls with _ | _
  · rfl
  · have := (levB_iff ls).1 e; omega
/-- How far one is from a level; which of the first k is nearest, of alike ones the first. -/
def lvD (x : Int) (l : List Int) (k : Nat) : Int := ((x - nth l k).natAbs : Int)
def codTo (x : Int) (l : List Int) : Nat → Nat
  | 0 => 0
  | k + 1 => if lvD x l k < lvD x l (codTo x l k) then k else codTo x l k
def codI (x : Int) (l : List Int) : Nat := codTo x l l.length
theorem codTo_ok (x : Int) (l : List Int) (n : Nat) : (codTo x l n = 0 ∨ codTo x l n < n) ∧ (∀ k, k < n → lvD x l (codTo x l n) ≤ lvD x l k) ∧ ∀ k, k < codTo x l n → lvD x l (codTo x l n) < lvD x l k := by
  induction n with
  | zero => exact ⟨Or.inl rfl, fun k hk => by omega, fun k hk => by simp [codTo] at hk⟩
  | succ n ih =>
    obtain ⟨h1, h2, h3⟩ := ih
    simp only [codTo]
    by_cases hc : lvD x l n < lvD x l (codTo x l n)
    · rw [if_pos hc]
      refine ⟨Or.inr (by omega), fun k hk => ?_, fun k hk => ?_⟩
      · rcases Nat.lt_or_ge k n with h | h
        · have := h2 k h; omega
        · obtain rfl : k = n := by omega
          exact Int.le_refl _
      · have := h2 k hk; omega
    · rw [if_neg hc]
      refine ⟨?_, fun k hk => ?_, h3⟩
      · rcases h1 with h | h
        · exact Or.inl h
        · exact Or.inr (by omega)
      · rcases Nat.lt_or_ge k n with h | h
        · exact h2 k h
        · obtain rfl : k = n := by omega
          omega
theorem codI_lt {x : Int} {l : List Int} (h : 1 ≤ l.length) : codI x l < l.length := by
  have := (codTo_ok x l l.length).1
  unfold codI
  omega
theorem codI_le {x : Int} {l : List Int} {k : Nat} (hk : k < l.length) : lvD x l (codI x l) ≤ lvD x l k := (codTo_ok x l l.length).2.1 k hk
theorem codI_first {x : Int} {l : List Int} {k : Nat} (hk : k < codI x l) : lvD x l (codI x l) < lvD x l k := (codTo_ok x l l.length).2.2 k hk
/-- What is on a level is coded as it. -/
theorem codI_on {l : List Int} (h : lvRise l = true) {k : Nat} (hk : k < l.length) : codI (nth l k) l = k := by
  have h1 := codI_le (x := nth l k) hk
  have h0 : lvD (nth l k) l k = 0 := by unfold lvD; simp
  have hlt := codI_lt (x := nth l k) (l := l) (by omega)
  have h2 : nth l k = nth l (codI (nth l k) l) := by unfold lvD at h1 h0; omega
  rcases Nat.lt_trichotomy (codI (nth l k) l) k with h3 | h3 | h3
  · have := lvRise_lt h h3 hk; omega
  · exact h3
  · have := lvRise_lt h h3 hlt; omega
/-- Coded, Decoded. -/
def codB (p : List Int) (ls : List (List Int)) : Bool := levB ls && okB p && decide (p.length = ls.length)
def codF (p : List Int) (ls : List (List Int)) (i : Nat) : Int := (codI (nth p i) (cn ls i) : Nat)
def codL (p : List Int) (ls : List (List Int)) : List Int := if codB p ls = true then tabL (codF p ls) ls.length else []
def decAt (c : List Int) (ls : List (List Int)) (i : Nat) : Bool := decide (0 ≤ nth c i) && decide (nth c i ≤ (cn ls i).length - 1)
def decTo (c : List Int) (ls : List (List Int)) : Nat → Bool
  | 0 => true
  | k + 1 => decTo c ls k && decAt c ls k
def decB (c : List Int) (ls : List (List Int)) : Bool := levB ls && decide (c.length = ls.length) && decTo c ls ls.length
def decF (c : List Int) (ls : List (List Int)) (i : Nat) : Int := nth (cn ls i) (nth c i).toNat
def decL (c : List Int) (ls : List (List Int)) : List Int := if decB c ls = true then tabL (decF c ls) ls.length else []
def offV (p : List Int) (ls : List (List Int)) : Int := stepsV p (decL (codL p ls) ls)
def sumLV (q c : List Int) (ls : List (List Int)) : Int := stepsV q (decL c ls)
theorem codB_iff (p : List Int) (ls : List (List Int)) : codB p ls = true ↔ levB ls = true ∧ okB p = true ∧ p.length = ls.length := by simp [codB, and_assoc]
theorem decAt_iff (c : List Int) (ls : List (List Int)) (i : Nat) : decAt c ls i = true ↔ 0 ≤ nth c i ∧ nth c i ≤ (cn ls i).length - 1 := by simp [decAt]
theorem decTo_iff (c : List Int) (ls : List (List Int)) (n : Nat) : decTo c ls n = true ↔ ∀ j, j < n → decAt c ls j = true := by
  induction n with
  | zero => simp [decTo]
  | succ n ih =>
    simp only [decTo, Bool.and_eq_true, ih]
    constructor
    · rintro ⟨h1, h2⟩ j hj
      rcases Nat.lt_or_ge j n with h | h
      · exact h1 j h
      · obtain rfl : j = n := by omega
        exact h2
    · exact fun h => ⟨fun j hj => h j (by omega), h n (by omega)⟩
theorem decB_iff (c : List Int) (ls : List (List Int)) : decB c ls = true ↔ levB ls = true ∧ c.length = ls.length ∧ ∀ j, j < ls.length → decAt c ls j = true := by
  simp only [decB, Bool.and_eq_true, decide_eq_true_eq, decTo_iff, and_assoc]
theorem decB_no {c : List Int} {ls : List (List Int)} {j : Nat} (hj : j < ls.length) (h : decAt c ls j = false) : decB c ls = false := by
  rcases e : decB c ls with _ | _
  · rfl
  · have := ((decB_iff c ls).1 e).2.2 j hj
    rw [this] at h; cases h
theorem codL_len {p : List Int} {ls : List (List Int)} (h : codB p ls = true) : (codL p ls).length = ls.length := by rw [codL, if_pos h, tabL_length]
theorem codL_no {p : List Int} {ls : List (List Int)} (h : codB p ls = false) : codL p ls = [] := by rw [codL, if_neg (by rw [h]; simp)]
theorem decL_no {c : List Int} {ls : List (List Int)} (h : decB c ls = false) : decL c ls = [] := by rw [decL, if_neg (by rw [h]; simp)]
theorem codL_at {p : List Int} {ls : List (List Int)} (h : codB p ls = true) {i : Nat} (hi : i < ls.length) : nth (codL p ls) i = codF p ls i := by rw [codL, if_pos h]; exact tabL_getD _ _ _ hi
theorem decL_at {c : List Int} {ls : List (List Int)} (h : decB c ls = true) {i : Nat} (hi : i < ls.length) : nth (decL c ls) i = decF c ls i := by rw [decL, if_pos h]; exact tabL_getD _ _ _ hi
theorem decL_len {c : List Int} {ls : List (List Int)} (h : decB c ls = true) : (decL c ls).length = ls.length := by rw [decL, if_pos h, tabL_length]
/-- What is coded can be decoded, is a point, and is coded as itself. -/
theorem cod_dec {p : List Int} {ls : List (List Int)} (h : codB p ls = true) : decB (codL p ls) ls = true := by
  obtain ⟨h1, h2, h3⟩ := (codB_iff p ls).1 h
  refine (decB_iff _ _).2 ⟨h1, codL_len h, fun j hj => (decAt_iff _ _ _).2 ?_⟩
  rw [codL_at h hj]
  have hl := ((lvOk_iff _).1 (((levB_iff ls).1 h1).2.2 j hj)).1
  have := codI_lt (x := nth p j) hl
  unfold codF
  omega
theorem dec_ok {c : List Int} {ls : List (List Int)} (h : decB c ls = true) : okB (decL c ls) = true := by
  obtain ⟨h1, h2, h3⟩ := (decB_iff c ls).1 h
  obtain ⟨a1, a2, a3⟩ := (levB_iff ls).1 h1
  refine okB_mk (by rw [decL_len h]; exact a1) (by rw [decL_len h]; exact a2) (fun i hi => ?_)
  rw [decL_len h] at hi
  rw [decL_at h hi]
  have hd := (decAt_iff _ _ _).1 (h3 i hi)
  exact lvOk_at (a3 i hi) (by have := ((lvOk_iff _).1 (a3 i hi)).1; omega)
theorem cod_again {p : List Int} {ls : List (List Int)} (h : codB p ls = true) : codL (decL (codL p ls) ls) ls = codL p ls := by
  have hd := cod_dec h
  obtain ⟨h1, h2, h3⟩ := (codB_iff p ls).1 h
  obtain ⟨a1, a2, a3⟩ := (levB_iff ls).1 h1
  have hc : codB (decL (codL p ls) ls) ls = true := (codB_iff _ _).2 ⟨h1, dec_ok hd, decL_len hd⟩
  refine list_eq_of_nth (by rw [codL_len hc, codL_len h]) (fun j hj => ?_)
  rw [codL_len hc] at hj
  rw [codL_at hc hj, codL_at h hj]
  unfold codF
  rw [decL_at hd hj]
  unfold decF
  rw [codL_at h hj]
  unfold codF
  rw [Int.toNat_natCast, codI_on ((lvOk_iff _).1 (a3 j hj)).2.2.1 (codI_lt ((lvOk_iff _).1 (a3 j hj)).1)]
/-- No level is nearer, and of alike ones none is less. -/
theorem cod_near {p : List Int} {ls : List (List Int)} (h : codB p ls = true) {i j : Nat} (hi : i < ls.length) (hj : j < (cn ls i).length) : ¬ (lvD (nth p i) (cn ls i) j < ((nth p i - nth (decL (codL p ls) ls) i).natAbs : Int) ∨ (lvD (nth p i) (cn ls i) j = ((nth p i - nth (decL (codL p ls) ls) i).natAbs : Int) ∧ nth (cn ls i) j < nth (decL (codL p ls) ls) i)) := by
  have hd := cod_dec h
  obtain ⟨h1, h2, h3⟩ := (codB_iff p ls).1 h
  have hl := (lvOk_iff _).1 (((levB_iff ls).1 h1).2.2 i hi)
  have e : nth (decL (codL p ls) ls) i = nth (cn ls i) (codI (nth p i) (cn ls i)) := by
    rw [decL_at hd hi]
    unfold decF
    rw [codL_at h hi]
    unfold codF
    rw [Int.toNat_natCast]
  rw [e]
  have hle := codI_le (x := nth p i) hj
  have hlt := codI_lt (x := nth p i) hl.1
  rintro (h4 | ⟨h4, h5⟩)
  · unfold lvD at hle h4; omega
  · rcases Nat.lt_trichotomy j (codI (nth p i) (cn ls i)) with h6 | h6 | h6
    · have := codI_first h6; unfold lvD at this h4; omega
    · rw [h6] at h5; omega
    · have := lvRise_lt hl.2.2.1 h6 hj; omega
theorem off_none {p : List Int} {ls : List (List Int)} (h : codB p ls = false) : offV p ls = -1 := by
  unfold offV
  have hd : decL (codL p ls) ls = [] := by
    rw [codL_no h]
    refine decL_no ?_
    rcases e : decB [] ls with _ | _
    · rfl
    · obtain ⟨h1, h2, -⟩ := (decB_iff [] ls).1 e
      have := ((levB_iff ls).1 h1).1
      simp at h2
      omega
  rw [hd, stepsV, if_neg]
  simp [twoB, okB]
/-- Distances are off by no more than it is. -/
theorem off_third {p x : List Int} {ls : List (List Int)} (h : codB p ls = true) (hx : okB x = true) (hl : x.length = p.length) : sumLV x (codL p ls) ls - stepsV x p ≤ offV p ls ∧ stepsV x p - sumLV x (codL p ls) ls ≤ offV p ls := by
  have hd := cod_dec h
  have hdo := dec_ok hd
  obtain ⟨h1, h2, h3⟩ := (codB_iff p ls).1 h
  have hlen := decL_len hd
  unfold sumLV offV
  generalize decL (codL p ls) ls = d at *
  have t1 : twoB x p = true := by simp [twoB, hx, h2, hl]
  have t2 : twoB x d = true := by simp [twoB, hx, hdo]; omega
  have t3 : twoB p d = true := by simp [twoB, h2, hdo]; omega
  rw [stepsV, if_pos t2, stepsV, if_pos t1, stepsV, if_pos t3]
  have e1 := sum_third (gapF x d) (gapF x p) (gapF p d) (fun i => gap_third x d p i) x.length
  have e2 := sum_third (gapF x p) (gapF x d) (gapF d p) (fun i => gap_third x p d i) x.length
  have e3 : sumTo (gapF d p) x.length = sumTo (gapF p d) x.length := by
    congr 1
    funext i
    exact gapF_comm d p i
  rw [hl] at e1 e2 e3 ⊢
  omega

end Go.Proofs.Ytbmljcpeonopmaa
namespace Go.Proofs.Ytbmljcpeonopmaa

theorem hasB_iff (l : List Int) (x : Int) : hasB l x = true ↔ x ∈ l := by simp [hasB]
theorem hasB_no (l : List Int) (x : Int) : hasB l x = false ↔ x ∉ l := by
  rw [← hasB_iff]; simp
theorem hasB_nth {l : List Int} {k : Nat} (h : k < l.length) : hasB l (nth l k) = true := by
  rw [hasB_iff]
  simp [nth, List.getD, h]
theorem mem_nth {l : List Int} {x : Int} (h : x ∈ l) : ∃ k, k < l.length ∧ nth l k = x := by
  obtain ⟨k, hk, e⟩ := List.mem_iff_getElem.1 h
  exact ⟨k, hk, by simp [nth, List.getD, hk, e]⟩

/-- May the mark with number x be linked to mark i? -/
def linkB (ms : List Mk) (ls : List (List Int)) (i : Nat) (x : Int) : Bool :=
  decide (0 ≤ zFind ms x) && decide (zFind ms x ≠ (i : Int)) && hasB (cn ls (zIdx ms x)) (mid ms i)
def webAt (ms : List Mk) (ls : List (List Int)) (i : Nat) : Bool := lvRise (cn ls i) && (cn ls i).all (linkB ms ls i)
/-- A web. -/
def webB (ms : List Mk) (ls : List (List Int)) : Bool := marksB ms && decide (ls.length = ms.length) && (List.range ls.length).all (webAt ms ls)
theorem linkB_iff (ms : List Mk) (ls : List (List Int)) (i : Nat) (x : Int) : linkB ms ls i x = true ↔ 0 ≤ zFind ms x ∧ zFind ms x ≠ (i : Int) ∧ hasB (cn ls (zIdx ms x)) (mid ms i) = true := by
  simp [linkB, and_assoc]
theorem webAt_iff (ms : List Mk) (ls : List (List Int)) (i : Nat) : webAt ms ls i = true ↔ lvRise (cn ls i) = true ∧ ∀ k, k < (cn ls i).length → linkB ms ls i (nth (cn ls i) k) = true := by
  simp only [webAt, Bool.and_eq_true, List.all_eq_true]
  constructor
  · rintro ⟨h1, h2⟩
    exact ⟨h1, fun k hk => h2 _ ((hasB_iff _ _).1 (hasB_nth hk))⟩
  · rintro ⟨h1, h2⟩
    refine ⟨h1, fun x hx => ?_⟩
    obtain ⟨k, hk, rfl⟩ := mem_nth hx
    exact h2 k hk
theorem webB_iff (ms : List Mk) (ls : List (List Int)) : webB ms ls = true ↔ marksB ms = true ∧ ls.length = ms.length ∧ ∀ i, i < ls.length → webAt ms ls i = true := by
  simp [webB, and_assoc]
theorem webB_no {ms : List Mk} {ls : List (List Int)} {i : Nat} (hi : i < ls.length) (h : webAt ms ls i = false) : webB ms ls = false := by
  rcases e : webB ms ls with _ | _
  · rfl
  · have := ((webB_iff ms ls).1 e).2.2 i hi
    rw [this] at h; cases h
theorem webAt_link {ms : List Mk} {ls : List (List Int)} {i k : Nat} (hk : k < (cn ls i).length) (h : linkB ms ls i (nth (cn ls i) k) = false) : webAt ms ls i = false := by
  rcases e : webAt ms ls i with _ | _
  · rfl
  · have := ((webAt_iff ms ls i).1 e).2 k hk
    rw [this] at h; cases h
theorem webAt_rise {ms : List Mk} {ls : List (List Int)} {i : Nat} (h : lvRise (cn ls i) = false) : webAt ms ls i = false := by simp [webAt, h]

theorem web_marks {ms : List Mk} {ls : List (List Int)} (h : webB ms ls = true) : marksB ms = true := ((webB_iff ms ls).1 h).1
theorem web_len {ms : List Mk} {ls : List (List Int)} (h : webB ms ls = true) : ls.length = ms.length := ((webB_iff ms ls).1 h).2.1
/-- What is linked to a mark is a mark, another one, and it is linked to that. -/
theorem web_link {ms : List Mk} {ls : List (List Int)} (h : webB ms ls = true) {i : Nat} (hi : i < ms.length) {x : Int} (hx : x ∈ cn ls i) : 0 ≤ zFind ms x ∧ zIdx ms x < ms.length ∧ mid ms (zIdx ms x) = x ∧ zIdx ms x ≠ i ∧ mid ms i ∈ cn ls (zIdx ms x) := by
  obtain ⟨k, hk, rfl⟩ := mem_nth hx
  have hl := web_len h
  have h1 := (linkB_iff _ _ _ _).1 (((webAt_iff _ _ _).1 (((webB_iff ms ls).1 h).2.2 i (by omega))).2 k hk)
  obtain ⟨a, b, c⟩ := zIdx_lt h1.1
  exact ⟨h1.1, a, c, fun e => h1.2.1 (by omega), (hasB_iff _ _).1 h1.2.2⟩
theorem web_rise {ms : List Mk} {ls : List (List Int)} (h : webB ms ls = true) {i : Nat} (hi : i < ms.length) : lvRise (cn ls i) = true :=
  ((webAt_iff _ _ _).1 (((webB_iff ms ls).1 h).2.2 i (by have := web_len h; omega))).1
/-- A list of links is no longer than there are marks. -/
theorem rise_pairs {l : List Int} (h : lvRise l = true) : l.Pairwise (fun a b => a < b) := by
  rw [List.pairwise_iff_getElem]
  intro i j hi' hj' hij
  have := lvRise_lt h hij hj'
  simpa [nth, List.getD, hi', hj'] using this
theorem idx_short {n : Nat} (l : List Int) (f : Int → Nat) (hd : l.Nodup) (hf : ∀ x ∈ l, f x < n) (hi : ∀ x ∈ l, ∀ y ∈ l, f x = f y → x = y) : l.length ≤ n := by
  have hnd : (l.map f).Nodup := by
    rw [List.Nodup, List.pairwise_map]
    exact List.Pairwise.imp_of_mem (fun {a b} ha hb hab e => hab (hi a ha b hb e)) hd
  have h2 := hnd.length_le_of_subset (l₂ := List.range n) (fun y hy => by
    obtain ⟨x, hx, rfl⟩ := List.mem_map.1 hy
    exact List.mem_range.2 (hf x hx))
  simpa using h2
theorem ids_short {ms : List Mk} {l : List Int} (hd : l.Nodup) (hf : ∀ x ∈ l, 0 ≤ zFind ms x) : l.length ≤ ms.length :=
  idx_short l (zIdx ms) hd (fun x hx => (zIdx_lt (hf x hx)).1) (fun x hx y hy e => by
    have a := (zIdx_lt (hf x hx)).2.2
    have b := (zIdx_lt (hf y hy)).2.2
    rw [e] at a; omega)
theorem links_short {ms : List Mk} {ls : List (List Int)} (h : webB ms ls = true) {i : Nat} (hi : i < ms.length) : (cn ls i).length ≤ ms.length :=
  ids_short (List.Pairwise.imp (fun {a b} hab e => by omega) (rise_pairs (web_rise h hi))) (fun x hx => (web_link h hi hx).1)

/-- A mark's hit, by its number. -/
def hitOf (ms : List Mk) (q : List Int) (x : Int) : Ht := (x, farV (mat ms (zIdx ms x)) q)
/-- The first by (Far, Id) of b and of the first k of l. -/
def bestTo (ms : List Mk) (q : List Int) (l : List Int) (b : Ht) : Nat → Ht
  | 0 => b
  | k + 1 => if aheadB (hitOf ms q (nth l k)) (bestTo ms q l b k) = true then hitOf ms q (nth l k) else bestTo ms q l b k
theorem bestTo_ok (ms : List Mk) (q : List Int) (l : List Int) (b : Ht) (n : Nat) : (bestTo ms q l b n = b ∨ ∃ k, k < n ∧ bestTo ms q l b n = hitOf ms q (nth l k) ∧ aheadB (bestTo ms q l b n) b = true) ∧ leH (bestTo ms q l b n) b ∧ ∀ k, k < n → leH (bestTo ms q l b n) (hitOf ms q (nth l k)) := by
  induction n with
  | zero => exact ⟨Or.inl rfl, leH_refl _, fun k hk => by omega⟩
  | succ n ih =>
    obtain ⟨h1, h2, h3⟩ := ih
    simp only [bestTo]
    by_cases ha : aheadB (hitOf ms q (nth l n)) (bestTo ms q l b n) = true
    · rw [if_pos ha]
      have hle := leH_of_ahead ha
      refine ⟨Or.inr ⟨n, by omega, rfl, ?_⟩, leH_trans hle h2, fun k hk => ?_⟩
      · rw [aheadB_iff] at ha ⊢
        unfold leH at h2
        omega
      · rcases Nat.lt_or_ge k n with h | h
        · exact leH_trans hle (h3 k h)
        · obtain rfl : k = n := by omega
          exact leH_refl _
    · rw [if_neg ha]
      refine ⟨?_, h2, fun k hk => ?_⟩
      · rcases h1 with h | ⟨k, hk, e, e'⟩
        · exact Or.inl h
        · exact Or.inr ⟨k, by omega, e, e'⟩
      · rcases Nat.lt_or_ge k n with h | h
        · exact h3 k h
        · obtain rfl : k = n := by omega
          exact (aheadB_false _ _).1 (by simpa using ha)
/-- Where one goes from a mark. -/
def stepH (ms : List Mk) (ls : List (List Int)) (q : List Int) (x : Int) : Ht := bestTo ms q (cn ls (zIdx ms x)) (hitOf ms q x) (cn ls (zIdx ms x)).length
def stepW (ms : List Mk) (ls : List (List Int)) (q : List Int) (x : Int) : Int := (stepH ms ls q x).1
theorem stepW_ok (ms : List Mk) (ls : List (List Int)) (q : List Int) (x : Int) : (stepW ms ls q x = x ∨ (stepW ms ls q x ∈ cn ls (zIdx ms x) ∧ aheadB (hitOf ms q (stepW ms ls q x)) (hitOf ms q x) = true)) ∧ stepH ms ls q x = hitOf ms q (stepW ms ls q x) ∧ ∀ y ∈ cn ls (zIdx ms x), leH (hitOf ms q (stepW ms ls q x)) (hitOf ms q y) := by
  obtain ⟨h1, h2, h3⟩ := bestTo_ok ms q (cn ls (zIdx ms x)) (hitOf ms q x) (cn ls (zIdx ms x)).length
  have he : stepH ms ls q x = hitOf ms q (stepW ms ls q x) := by
    unfold stepW stepH
    rcases h1 with h | ⟨k, hk, e, -⟩
    · rw [h]; rfl
    · rw [e]; rfl
  refine ⟨?_, he, fun y hy => ?_⟩
  · rcases h1 with h | ⟨k, hk, e, ha⟩
    · left; unfold stepW stepH; rw [h]; rfl
    · right
      have e' : stepW ms ls q x = nth (cn ls (zIdx ms x)) k := by unfold stepW stepH; rw [e]; rfl
      constructor
      · rw [e']; exact (hasB_iff _ _).1 (hasB_nth hk)
      · rw [← he]; exact ha
  · obtain ⟨k, hk, rfl⟩ := mem_nth hy
    rw [← he]
    exact h3 k hk
/-- How many are ahead of it. -/
def rkW (ms : List Mk) (q : List Int) (x : Int) : Nat := ((List.range ms.length).filter (fun i => aheadB (hitOf ms q (mid ms i)) (hitOf ms q x))).length
theorem filter_lt {P Q : Nat → Bool} (L : List Nat) (h : ∀ i, P i = true → Q i = true) {a : Nat} (ha : a ∈ L) (hq : Q a = true) (hp : P a = false) : (L.filter P).length < (L.filter Q).length := by
  induction L with
  | nil => cases ha
  | cons b L ih =>
    have hle : (L.filter P).length ≤ (L.filter Q).length := by
      rw [← List.countP_eq_length_filter, ← List.countP_eq_length_filter]
      exact List.countP_mono_left (fun x _ => h x)
    rcases List.mem_cons.1 ha with e | e
    · subst e
      simp [hq, hp]; omega
    · have := ih e
      rcases hb : P b with _ | _
      · rcases hb' : Q b with _ | _ <;> simp [hb, hb'] <;> omega
      · have := h b hb
        simp [hb, this]; omega
theorem aheadB_trans {a b c : Ht} (h : aheadB a b = true) (k : aheadB b c = true) : aheadB a c = true := by
  rw [aheadB_iff] at *; omega
theorem aheadB_irr (a : Ht) : aheadB a a = false := by
  rw [aheadB_false]; exact leH_refl a
theorem rkW_lt {ms : List Mk} (q : List Int) {x y : Int} (hy : 0 ≤ zFind ms y) (h : aheadB (hitOf ms q y) (hitOf ms q x) = true) : rkW ms q y < rkW ms q x := by
  obtain ⟨a, b, c⟩ := zIdx_lt hy
  refine filter_lt _ (fun i hi => aheadB_trans hi h) (List.mem_range.2 a) ?_ ?_
  · rw [c]; exact h
  · rw [c]; exact aheadB_irr _
theorem rkW_le (ms : List Mk) (q : List Int) (x : Int) : rkW ms q x ≤ ms.length := by
  have := List.length_filter_le (fun i => aheadB (hitOf ms q (mid ms i)) (hitOf ms q x)) (List.range ms.length)
  simpa [rkW] using this
/-- A walk. -/
def walkF (ms : List Mk) (ls : List (List Int)) (q : List Int) : Nat → Int → List Int
  | 0, x => [x]
  | f + 1, x => if stepW ms ls q x = x then [x] else x :: walkF ms ls q f (stepW ms ls q x)
def walkG (ms : List Mk) (ls : List (List Int)) (q : List Int) (x : Int) : List Int := walkF ms ls q (rkW ms q x) x
theorem step_find {ms : List Mk} {ls : List (List Int)} {q : List Int} (h : webB ms ls = true) {x : Int} (hx : 0 ≤ zFind ms x) : 0 ≤ zFind ms (stepW ms ls q x) := by
  rcases (stepW_ok ms ls q x).1 with e | ⟨e, -⟩
  · rw [e]; exact hx
  · exact (web_link h (zIdx_lt hx).1 e).1
theorem step_rk {ms : List Mk} {ls : List (List Int)} {q : List Int} (h : webB ms ls = true) {x : Int} (hx : 0 ≤ zFind ms x) (hne : stepW ms ls q x ≠ x) : rkW ms q (stepW ms ls q x) < rkW ms q x := by
  rcases (stepW_ok ms ls q x).1 with e | ⟨-, e⟩
  · exact absurd e hne
  · exact rkW_lt q (step_find h hx) e
theorem walkF_more {ms : List Mk} {ls : List (List Int)} {q : List Int} (h : webB ms ls = true) : ∀ (f g : Nat) (x : Int), 0 ≤ zFind ms x → rkW ms q x ≤ f → rkW ms q x ≤ g → walkF ms ls q f x = walkF ms ls q g x := by
  intro f
  induction f with
  | zero =>
    intro g x hx hf hg
    have hs : stepW ms ls q x = x := by
      rcases Int.lt_trichotomy (stepW ms ls q x) x with e | e | e
      · have := step_rk (q := q) h hx (by omega); omega
      · exact e
      · have := step_rk (q := q) h hx (by omega); omega
    cases g with
    | zero => rfl
    | succ g => simp [walkF, hs]
  | succ f ih =>
    intro g x hx hf hg
    by_cases hs : stepW ms ls q x = x
    · cases g with
      | zero => simp [walkF, hs]
      | succ g => simp [walkF, hs]
    · have hr := step_rk (q := q) h hx hs
      cases g with
      | zero => omega
      | succ g =>
        simp only [walkF, if_neg hs]
        rw [ih g _ (step_find h hx) (by omega) (by omega)]
theorem walkG_end {ms : List Mk} {ls : List (List Int)} {q : List Int} {x : Int} (hs : stepW ms ls q x = x) : walkG ms ls q x = [x] := by
  unfold walkG
  cases rkW ms q x with
  | zero => rfl
  | succ n => simp [walkF, hs]
theorem walkG_step {ms : List Mk} {ls : List (List Int)} {q : List Int} (h : webB ms ls = true) {x : Int} (hx : 0 ≤ zFind ms x) (hs : stepW ms ls q x ≠ x) : walkG ms ls q x = x :: walkG ms ls q (stepW ms ls q x) := by
  have hr := step_rk (q := q) h hx hs
  unfold walkG
  obtain ⟨n, hn⟩ : ∃ n, rkW ms q x = n + 1 := ⟨rkW ms q x - 1, by omega⟩
  rw [hn]
  simp only [walkF, if_neg hs]
  rw [walkF_more h n _ _ (step_find h hx) (by omega) (Nat.le_refl _)]
theorem walkF_short {ms : List Mk} {ls : List (List Int)} {q : List Int} (f : Nat) (x : Int) : (walkF ms ls q f x).length ≤ f + 1 := by
  induction f generalizing x with
  | zero => simp [walkF]
  | succ f ih =>
    simp only [walkF]
    split
    · simp
    · have := ih (stepW ms ls q x); simp; omega
theorem walkG_short {ms : List Mk} {ls : List (List Int)} {q : List Int} (x : Int) : (walkG ms ls q x).length ≤ ms.length + 1 := by
  have h1 := walkF_short (ms := ms) (ls := ls) (q := q) (rkW ms q x) x
  have h2 := rkW_le ms q x
  unfold walkG; omega
def toldW (ms : List Mk) (ls : List (List Int)) (fr : Int) (q : List Int) : Bool := webB ms ls && toldB ms q && decide (0 ≤ zFind ms fr)
def walkL (ms : List Mk) (ls : List (List Int)) (fr : Int) (q : List Int) : List Int := if toldW ms ls fr q = true then walkG ms ls q fr else []
theorem toldW_iff (ms : List Mk) (ls : List (List Int)) (fr : Int) (q : List Int) : toldW ms ls fr q = true ↔ webB ms ls = true ∧ toldB ms q = true ∧ 0 ≤ zFind ms fr := by simp [toldW, and_assoc]
theorem web_small {ms : List Mk} {ls : List (List Int)} (h : webB ms ls = true) : ms.length ≤ 60 ∧ (∀ i, (mat ms i).length ≤ 4) ∧ ls.length ≤ 60 ∧ ∀ i, (cn ls i).length ≤ 60 := by
  have hm := web_marks h
  have h60 := marksB_len hm
  have hl := web_len h
  refine ⟨h60, fun i => ?_, by omega, fun i => ?_⟩
  · rcases Nat.lt_or_ge i ms.length with hi | hi
    · have := ((mOkAt_iff ms i).1 (marksB_at hm hi)).2.2.1
      exact (okB_len this).2
    · have : mat ms i = [] := by simp [mat, List.getD, hi]
      rw [this]; simp
  · rcases Nat.lt_or_ge i ms.length with hi | hi
    · have := links_short h hi; omega
    · have : cn ls i = [] := by simp [cn, List.getD, show ls.length ≤ i by omega]
      rw [this]; simp

end Go.Proofs.Ytbmljcpeonopmaa
namespace Go.Proofs.Ytbmljcpeonopmaa

/-- From the one mark one comes to the other. -/
inductive Con (ms : List Mk) (ls : List (List Int)) (i : Nat) : Nat → Prop
  | refl : Con ms ls i i
  | step {j k : Nat} : Con ms ls i j → j < ms.length → k < ms.length → mid ms k ∈ cn ls j → Con ms ls i k
theorem Con.trans {ms : List Mk} {ls : List (List Int)} {i j k : Nat} (h : Con ms ls i j) (h' : Con ms ls j k) : Con ms ls i k := by
  induction h' with
  | refl => exact h
  | step _ h1 h2 h3 ih => exact ih.step h1 h2 h3
theorem Con.one {ms : List Mk} {ls : List (List Int)} {i j : Nat} (hi : i < ms.length) (hj : j < ms.length) (h : mid ms j ∈ cn ls i) : Con ms ls i j := Con.refl.step hi hj h
theorem Con.symm {ms : List Mk} {ls : List (List Int)} (hw : webB ms ls = true) {i j : Nat} (h : Con ms ls i j) : Con ms ls j i := by
  induction h with
  | refl => exact Con.refl
  | @step j k _ h1 h2 h3 ih =>
    have h4 := web_link hw h1 h3
    rw [(zFind_mid (web_marks hw) h2).2] at h4
    exact (Con.one h2 h1 h4.2.2.2.2).trans ih
theorem Con.lt {ms : List Mk} {ls : List (List Int)} {i j : Nat} (h : Con ms ls i j) (hi : i < ms.length) : j < ms.length := by
  cases h with
  | refl => exact hi
  | step _ _ h2 _ => exact h2
/-- Is none ahead of it from which one comes to it? -/
noncomputable def newB (ms : List Mk) (ls : List (List Int)) (i : Nat) : Bool := @decide (∀ j, j < i → ¬ Con ms ls j i) (Classical.propDecidable _)
theorem newB_iff (ms : List Mk) (ls : List (List Int)) (i : Nat) : newB ms ls i = true ↔ ∀ j, j < i → ¬ Con ms ls j i := by simp [newB]
theorem newB_no (ms : List Mk) (ls : List (List Int)) (i : Nat) : newB ms ls i = false ↔ ∃ j, j < i ∧ Con ms ls j i := by
  constructor
  · intro h
    refine Classical.byContradiction fun hc => ?_
    have : newB ms ls i = true := (newB_iff _ _ _).2 fun j hj hcon => hc ⟨j, hj, hcon⟩
    rw [this] at h; cases h
  · rintro ⟨j, hj, hc⟩
    rcases e : newB ms ls i with _ | _
    · rfl
    · exact absurd hc ((newB_iff _ _ _).1 e j hj)
/-- How many of the first n are the first of their island. -/
noncomputable def islN (ms : List Mk) (ls : List (List Int)) : Nat → Nat
  | 0 => 0
  | n + 1 => islN ms ls n + if newB ms ls n = true then 1 else 0
noncomputable def islV (ms : List Mk) (ls : List (List Int)) : Int := if webB ms ls = true then (islN ms ls ms.length : Nat) else -1
theorem islN_le (ms : List Mk) (ls : List (List Int)) (n : Nat) : islN ms ls n ≤ n := by
  induction n with
  | zero => simp [islN]
  | succ n ih => simp only [islN]; split <;> omega
/-- What has been seen: closed. -/
structure SeenOk (ms : List Mk) (ls : List (List Int)) (S : List Int) : Prop where
  nd : S.Nodup
  find : ∀ x ∈ S, 0 ≤ zFind ms x
theorem SeenOk.more {ms : List Mk} {ls : List (List Int)} {S : List Int} {x : Int} (h : SeenOk ms ls S) (hx : 0 ≤ zFind ms x) (hn : x ∉ S) : SeenOk ms ls (S ++ [x]) := by
  refine ⟨?_, fun y hy => ?_⟩
  · rw [List.nodup_append]
    refine ⟨h.nd, by simp, fun a ha b hb e => ?_⟩
    simp at hb
    exact hn (by rw [← hb, ← e]; exact ha)
  · rcases List.mem_append.1 hy with e | e
    · exact h.find y e
    · simp at e; rw [e]; exact hx
theorem SeenOk.short {ms : List Mk} {ls : List (List Int)} {S : List Int} (h : SeenOk ms ls S) : S.length ≤ ms.length := ids_short h.nd h.find
def Closed (ms : List Mk) (ls : List (List Int)) (S : List Int) : Prop := ∀ x ∈ S, ∀ y ∈ cn ls (zIdx ms x), y ∈ S
/-- While the island of mark i is flooded: S0 had been seen before; T is to do. -/
structure Flood (ms : List Mk) (ls : List (List Int)) (S0 : List Int) (i : Nat) (S T : List Int) : Prop where
  ok : SeenOk ms ls S
  sub : ∀ x ∈ S0, x ∈ S
  tf : ∀ x ∈ T, 0 ≤ zFind ms x
  cl : ∀ x ∈ S, ∀ y ∈ cn ls (zIdx ms x), y ∈ S ∨ y ∈ T
  own : mid ms i ∈ S ∨ mid ms i ∈ T
  con : ∀ x, x ∈ S ∨ x ∈ T → x ∈ S0 ∨ Con ms ls i (zIdx ms x)
theorem Flood.start {ms : List Mk} {ls : List (List Int)} (hw : webB ms ls = true) {S0 : List Int} {i : Nat} (h : SeenOk ms ls S0) (hc : Closed ms ls S0) (hi : i < ms.length) : Flood ms ls S0 i S0 [mid ms i] := by
  have hf := zFind_mid (web_marks hw) hi
  refine ⟨h, fun x hx => hx, fun x hx => ?_, fun x hx y hy => Or.inl (hc x hx y hy), Or.inr (by simp), fun x hx => ?_⟩
  · simp at hx; rw [hx, hf.1]; omega
  · rcases hx with e | e
    · exact Or.inl e
    · simp at e; right; rw [e, hf.2]; exact Con.refl
theorem Flood.skip {ms : List Mk} {ls : List (List Int)} {S0 S T : List Int} {i : Nat} {x : Int} (h : Flood ms ls S0 i S (x :: T)) (hx : x ∈ S) : Flood ms ls S0 i S T := by
  refine ⟨h.ok, h.sub, fun y hy => h.tf y (List.mem_cons_of_mem _ hy), fun y hy z hz => ?_, ?_, fun y hy => h.con y (hy.imp id (List.mem_cons_of_mem _))⟩
  · rcases h.cl y hy z hz with e | e
    · exact Or.inl e
    · rcases List.mem_cons.1 e with e' | e'
      · left; rw [e']; exact hx
      · exact Or.inr e'
  · rcases h.own with e | e
    · exact Or.inl e
    · rcases List.mem_cons.1 e with e' | e'
      · left; rw [e']; exact hx
      · exact Or.inr e'
theorem Flood.take {ms : List Mk} {ls : List (List Int)} (hw : webB ms ls = true) {S0 S T : List Int} {i : Nat} {x : Int} (h : Flood ms ls S0 i S (x :: T)) (hx : x ∉ S) : Flood ms ls S0 i (S ++ [x]) (T ++ cn ls (zIdx ms x)) := by
  have hf := h.tf x (by simp)
  obtain ⟨a, b, c⟩ := zIdx_lt hf
  refine ⟨h.ok.more hf hx, fun y hy => by simp [h.sub y hy], fun y hy => ?_, fun y hy z hz => ?_, ?_, fun y hy => ?_⟩
  · rcases List.mem_append.1 hy with e | e
    · exact h.tf y (List.mem_cons_of_mem _ e)
    · exact (web_link hw a e).1
  · rcases List.mem_append.1 hy with e | e
    · rcases h.cl y e z hz with e' | e'
      · left; simp [e']
      · rcases List.mem_cons.1 e' with e'' | e''
        · left; simp [e'']
        · right; simp [e'']
    · simp at e; rw [e] at hz; right; simp [hz]
  · rcases h.own with e | e
    · left; simp [e]
    · rcases List.mem_cons.1 e with e' | e'
      · left; simp [e']
      · right; simp [e']
  · have hxc : x ∈ S0 ∨ Con ms ls i (zIdx ms x) := h.con x (Or.inr (by simp))
    have hxn : Con ms ls i (zIdx ms x) := by
      rcases hxc with e | e
      · exact absurd (h.sub x e) hx
      · exact e
    rcases hy with e | e
    · rcases List.mem_append.1 e with e' | e'
      · exact h.con y (Or.inl e')
      · simp at e'; rw [e']; exact Or.inr hxn
    · rcases List.mem_append.1 e with e' | e'
      · exact h.con y (Or.inr (List.mem_cons_of_mem _ e'))
      · have hl := web_link hw a e'
        right
        exact hxn.step a hl.2.1 (by rw [hl.2.2.1]; exact e')
theorem Flood.done {ms : List Mk} {ls : List (List Int)} {S0 S : List Int} {i : Nat} (h : Flood ms ls S0 i S []) : Closed ms ls S ∧ mid ms i ∈ S := by
  refine ⟨fun x hx y hy => ?_, ?_⟩
  · rcases h.cl x hx y hy with e | e
    · exact e
    · simp at e
  · rcases h.own with e | e
    · exact e
    · simp at e
/-- What has been seen when the first i marks have been looked at. -/
structure Seen (ms : List Mk) (ls : List (List Int)) (i : Nat) (S : List Int) : Prop where
  ok : SeenOk ms ls S
  cl : Closed ms ls S
  own : ∀ j, j < i → mid ms j ∈ S
  con : ∀ x ∈ S, ∃ j, j < i ∧ Con ms ls j (zIdx ms x)
theorem Seen.start {ms : List Mk} {ls : List (List Int)} : Seen ms ls 0 [] := ⟨⟨by simp, fun x hx => by simp at hx⟩, fun x hx => by simp at hx, fun j hj => by omega, fun x hx => by simp at hx⟩
theorem closed_con {ms : List Mk} {ls : List (List Int)} (hw : webB ms ls = true) {S : List Int} (hc : Closed ms ls S) {j k : Nat} (h : Con ms ls j k) (hm : mid ms j ∈ S) : mid ms k ∈ S := by
  induction h with
  | refl => exact hm
  | @step a b _ h1 h2 h3 ih =>
    have := hc _ ih
    rw [(zFind_mid (web_marks hw) h1).2] at this
    exact this _ h3
theorem Seen.old {ms : List Mk} {ls : List (List Int)} (hw : webB ms ls = true) {S : List Int} {i : Nat} (h : Seen ms ls i S) (hi : i < ms.length) : mid ms i ∈ S ↔ newB ms ls i = false := by
  rw [newB_no]
  constructor
  · intro hm
    obtain ⟨j, hj, hc⟩ := h.con _ hm
    rw [(zFind_mid (web_marks hw) hi).2] at hc
    exact ⟨j, hj, hc⟩
  · rintro ⟨j, hj, hc⟩
    exact closed_con hw h.cl hc (h.own j hj)
theorem Seen.pass {ms : List Mk} {ls : List (List Int)} {S : List Int} {i : Nat} (h : Seen ms ls i S) (hm : mid ms i ∈ S) : Seen ms ls (i + 1) S := by
  refine ⟨h.ok, h.cl, fun j hj => ?_, fun x hx => ?_⟩
  · rcases Nat.lt_or_ge j i with e | e
    · exact h.own j e
    · rw [show j = i by omega]; exact hm
  · obtain ⟨j, hj, hc⟩ := h.con x hx
    exact ⟨j, by omega, hc⟩
theorem Seen.flooded {ms : List Mk} {ls : List (List Int)} {S0 S : List Int} {i : Nat} (h : Seen ms ls i S0) (hf : Flood ms ls S0 i S []) : Seen ms ls (i + 1) S := by
  obtain ⟨h1, h2⟩ := hf.done
  refine ⟨hf.ok, h1, fun j hj => ?_, fun x hx => ?_⟩
  · rcases Nat.lt_or_ge j i with e | e
    · exact hf.sub _ (h.own j e)
    · rw [show j = i by omega]; exact h2
  · rcases hf.con x (Or.inl hx) with e | e
    · obtain ⟨j, hj, hc⟩ := h.con x e
      exact ⟨j, by omega, hc⟩
    · exact ⟨i, by omega, e⟩
/-- There is one island: from the first mark one comes to each. -/
theorem isl_one {ms : List Mk} {ls : List (List Int)} (h : islN ms ls ms.length = 1) {k : Nat} (hk : k < ms.length) : Con ms ls 0 k := by
  have h0 : newB ms ls 0 = true := (newB_iff _ _ _).2 fun j hj => by omega
  have key : ∀ n, 1 ≤ n → 1 ≤ islN ms ls n ∧ (islN ms ls n = 1 → ∀ j, j < n → Con ms ls 0 j) := by
    intro n
    induction n with
    | zero => intro hn; omega
    | succ n ih =>
      intro _
      rcases Nat.eq_zero_or_pos n with e | e
      · subst e
        simp only [islN, h0, if_true]
        exact ⟨by omega, fun _ j hj => by rw [show j = 0 by omega]; exact Con.refl⟩
      · obtain ⟨h1, h2⟩ := ih e
        simp only [islN]
        rcases hb : newB ms ls n with _ | _
        · simp only [Bool.false_eq_true, if_false, Nat.add_zero]
          refine ⟨h1, fun h3 j hj => ?_⟩
          rcases Nat.lt_or_ge j n with e' | e'
          · exact h2 h3 j e'
          · obtain rfl : j = n := by omega
            obtain ⟨a, ha, hc⟩ := (newB_no _ _ _).1 hb
            exact (h2 h3 a ha).trans hc
        · simp only [if_true]
          exact ⟨by omega, fun h3 => by omega⟩
  exact (key ms.length (by omega)).2 h k hk
theorem isl_pos {ms : List Mk} {ls : List (List Int)} (h : 0 < ms.length) : 1 ≤ islN ms ls ms.length := by
  have h0 : newB ms ls 0 = true := (newB_iff _ _ _).2 fun j hj => by omega
  have key : ∀ n, 1 ≤ n → 1 ≤ islN ms ls n := by
    intro n
    induction n with
    | zero => intro hn; omega
    | succ n ih =>
      intro _
      rcases Nat.eq_zero_or_pos n with e | e
      · subst e; simp [islN, h0]
      · have := ih e; simp only [islN]; omega
  exact key _ h
end Go.Proofs.Ytbmljcpeonopmaa
namespace Go.Proofs.Ytbmljcpeonopmaa

/-- A number into a list that rises, once. -/
def insI : List Int → Int → List Int
  | [], n => [n]
  | x :: l, n => if x < n then x :: insI l n else if x = n then x :: l else n :: x :: l
def ownI (ids : List Int) : List Int := ids.foldl insI []
theorem mem_insI (l : List Int) (n y : Int) : y ∈ insI l n ↔ y = n ∨ y ∈ l := by
  induction l with
  | nil => simp [insI]
  | cons x l ih =>
    simp only [insI]
    by_cases h1 : x < n
    · rw [if_pos h1, List.mem_cons, ih, List.mem_cons]
      constructor
      · rintro (h | h | h)
        · exact Or.inr (Or.inl h)
        · exact Or.inl h
        · exact Or.inr (Or.inr h)
      · rintro (h | h | h)
        · exact Or.inr (Or.inl h)
        · exact Or.inl h
        · exact Or.inr (Or.inr h)
    · rw [if_neg h1]
      by_cases h2 : x = n
      · rw [if_pos h2, h2]; simp
      · rw [if_neg h2]; simp
theorem insI_pairs {l : List Int} (h : l.Pairwise (fun a b => a < b)) (n : Int) : (insI l n).Pairwise (fun a b => a < b) := by
  induction l with
  | nil => simp [insI]
  | cons x l ih =>
    obtain ⟨h1, h2⟩ := List.pairwise_cons.1 h
    simp only [insI]
    by_cases hx : x < n
    · rw [if_pos hx, List.pairwise_cons]
      refine ⟨fun y hy => ?_, ih h2⟩
      rcases (mem_insI l n y).1 hy with e | e
      · rw [e]; exact hx
      · exact h1 y e
    · rw [if_neg hx]
      by_cases he : x = n
      · rw [if_pos he]; exact h
      · rw [if_neg he, List.pairwise_cons]
        refine ⟨fun y hy => ?_, h⟩
        rcases List.mem_cons.1 hy with e | e
        · rw [e]; omega
        · have := h1 y e; omega
theorem ownI_fold (ids acc : List Int) (h : acc.Pairwise (fun a b => a < b)) : (ids.foldl insI acc).Pairwise (fun a b => a < b) ∧ ∀ y, y ∈ ids.foldl insI acc ↔ y ∈ acc ∨ y ∈ ids := by
  induction ids generalizing acc with
  | nil => exact ⟨h, fun y => by simp⟩
  | cons x ids ih =>
    obtain ⟨h1, h2⟩ := ih (insI acc x) (insI_pairs h x)
    refine ⟨h1, fun y => ?_⟩
    rw [List.foldl_cons, h2, mem_insI, List.mem_cons]
    constructor
    · rintro ((e | e) | e)
      · exact Or.inr (Or.inl e)
      · exact Or.inl e
      · exact Or.inr (Or.inr e)
    · rintro (e | e | e)
      · exact Or.inl (Or.inr e)
      · exact Or.inl (Or.inl e)
      · exact Or.inr e
theorem ownI_mem (ids : List Int) (y : Int) : y ∈ ownI ids ↔ y ∈ ids := by
  have := (ownI_fold ids [] List.Pairwise.nil).2 y
  simpa [ownI] using this
theorem pairs_rise {l : List Int} (h : l.Pairwise (fun a b => a < b)) : lvRise l = true := by
  rw [lvRise_iff]
  intro j hj
  have h' := List.pairwise_iff_getElem.1 h j (j + 1) (by omega) hj (by omega)
  have e1 : nth l j = l[j] := by simp [nth, List.getD, show j < l.length by omega]
  have e2 : nth l (j + 1) = l[j + 1] := by simp [nth, List.getD, hj]
  rw [e1, e2]
  exact h'
theorem ownI_rise (ids : List Int) : lvRise (ownI ids) = true := pairs_rise (ownI_fold ids [] List.Pairwise.nil).1

def lnkI (ms : List Mk) (ls : List (List Int)) (ids : List Int) (x : Int) (i : Nat) : List Int := if hasB ids (mid ms i) = true then cn ls i ++ [x] else cn ls i
def lnkL (ms : List Mk) (ls : List (List Int)) (ids : List Int) (x : Int) : List (List Int) := (List.range ms.length).map (lnkI ms ls ids x) ++ [ownI ids]
theorem lnkL_len (ms : List Mk) (ls : List (List Int)) (ids : List Int) (x : Int) : (lnkL ms ls ids x).length = ms.length + 1 := by simp [lnkL]
theorem lnkL_at {ms : List Mk} {ls : List (List Int)} {ids : List Int} {x : Int} {i : Nat} (h : i < ms.length) : cn (lnkL ms ls ids x) i = lnkI ms ls ids x i := by
  simp [cn, lnkL, List.getD, h, List.getElem?_append_left]
theorem lnkL_last (ms : List Mk) (ls : List (List Int)) (ids : List Int) (x : Int) : cn (lnkL ms ls ids x) ms.length = ownI ids := by
  simp [cn, lnkL, List.getD]
theorem lnkI_mem {ms : List Mk} {ls : List (List Int)} {ids : List Int} {x y : Int} {i : Nat} : y ∈ lnkI ms ls ids x i ↔ y ∈ cn ls i ∨ (y = x ∧ hasB ids (mid ms i) = true) := by
  unfold lnkI
  by_cases h : hasB ids (mid ms i) = true
  · rw [if_pos h]; simp [h]
  · rw [if_neg h]; simp [h]
theorem mid_snoc {ms : List Mk} {m : Mk} {i : Nat} (h : i < ms.length) : mid (ms ++ [m]) i = mid ms i := by simp [mid, List.getD, h, List.getElem?_append_left]
theorem mat_snoc {ms : List Mk} {m : Mk} {i : Nat} (h : i < ms.length) : mat (ms ++ [m]) i = mat ms i := by simp [mat, List.getD, h, List.getElem?_append_left]
theorem mid_last (ms : List Mk) (m : Mk) : mid (ms ++ [m]) ms.length = m.1 := by simp [mid, List.getD]
theorem mat_last (ms : List Mk) (m : Mk) : mat (ms ++ [m]) ms.length = m.2 := by simp [mat, List.getD]
/-- A web with one more mark is a web. -/
theorem linked_web {ms : List Mk} {ls : List (List Int)} {ids : List Int} {m : Mk} (hw : webB ms ls = true) (hm : marksB (ms ++ [m]) = true) (hids : ∀ x ∈ ids, 0 ≤ zFind ms x) : webB (ms ++ [m]) (lnkL ms ls ids m.1) = true := by
  have hmw := web_marks hw
  have hlen := web_len hw
  have hz : ∀ {j}, j < ms.length → zFind (ms ++ [m]) (mid ms j) = (j : Int) ∧ zIdx (ms ++ [m]) (mid ms j) = j := fun {j} hj => by
    have := zFind_mid hm (i := j) (by simp; omega)
    rwa [mid_snoc hj] at this
  have hzl : zFind (ms ++ [m]) m.1 = (ms.length : Int) ∧ zIdx (ms ++ [m]) m.1 = ms.length := by
    have := zFind_mid hm (i := ms.length) (by simp)
    rwa [mid_last] at this
  have hidx : ∀ x ∈ ids, ∃ j, j < ms.length ∧ mid ms j = x := fun x hx => ⟨zIdx ms x, (zIdx_lt (hids x hx)).1, (zIdx_lt (hids x hx)).2.2⟩
  refine (webB_iff _ _).2 ⟨hm, by rw [lnkL_len]; simp, fun i hi => ?_⟩
  rw [lnkL_len] at hi
  refine (webAt_iff _ _ _).2 ?_
  rcases Nat.lt_or_ge i ms.length with h | h
  · rw [lnkL_at h]
    constructor
    · refine pairs_rise ?_
      have hp := rise_pairs (web_rise hw h)
      unfold lnkI
      by_cases hb : hasB ids (mid ms i) = true
      · rw [if_pos hb, List.pairwise_append]
        refine ⟨hp, by simp, fun a ha b hb' => ?_⟩
        simp at hb'
        have hl := web_link hw h ha
        have := zmid_rises hm (i := zIdx ms a) (j := ms.length) hl.2.1 (by simp)
        rw [mid_snoc hl.2.1, mid_last, hl.2.2.1] at this
        rw [hb']
        exact this
      · rw [if_neg hb]; exact hp
    · intro k hk
      have hx : nth (lnkI ms ls ids m.1 i) k ∈ lnkI ms ls ids m.1 i := (hasB_iff _ _).1 (hasB_nth hk)
      generalize nth (lnkI ms ls ids m.1 i) k = x at hx
      rw [linkB_iff, mid_snoc h]
      rcases lnkI_mem.1 hx with hx | ⟨rfl, hxb⟩
      · have hl := web_link hw h hx
        have h2 := hz hl.2.1
        rw [hl.2.2.1] at h2
        refine ⟨by omega, by have := hl.2.2.2.1; omega, ?_⟩
        rw [h2.2, lnkL_at hl.2.1, hasB_iff]
        exact lnkI_mem.2 (Or.inl hl.2.2.2.2)
      · refine ⟨by omega, by omega, ?_⟩
        rw [hzl.2, lnkL_last, hasB_iff, ownI_mem]
        exact (hasB_iff _ _).1 hxb
  · obtain rfl : i = ms.length := by omega
    rw [lnkL_last]
    refine ⟨ownI_rise ids, fun k hk => ?_⟩
    have hx : nth (ownI ids) k ∈ ids := (ownI_mem _ _).1 ((hasB_iff _ _).1 (hasB_nth hk))
    generalize nth (ownI ids) k = x at hx
    obtain ⟨j, hj, rfl⟩ := hidx x hx
    rw [linkB_iff, mid_last, (hz hj).1, (hz hj).2, lnkL_at hj, hasB_iff]
    exact ⟨by omega, by omega, lnkI_mem.2 (Or.inr ⟨rfl, (hasB_iff _ _).2 hx⟩)⟩
theorem con_more {ms : List Mk} {ls : List (List Int)} {ids : List Int} {m : Mk} {i j : Nat} (h : Con ms ls i j) : Con (ms ++ [m]) (lnkL ms ls ids m.1) i j := by
  induction h with
  | refl => exact Con.refl
  | @step j k _ h1 h2 h3 ih =>
    refine ih.step (by simp; omega) (by simp; omega) ?_
    rw [mid_snoc h2, lnkL_at h1]
    exact lnkI_mem.2 (Or.inl h3)
/-- No more islands than there were, but for one that is linked to nobody. -/
theorem isl_more {ms : List Mk} {ls : List (List Int)} {ids : List Int} {m : Mk} (hids : ∀ x ∈ ids, 0 ≤ zFind ms x) : islN (ms ++ [m]) (lnkL ms ls ids m.1) (ms ++ [m]).length ≤ islN ms ls ms.length + (if ids = [] then 1 else 0) := by
  have key : ∀ n, islN (ms ++ [m]) (lnkL ms ls ids m.1) n ≤ islN ms ls n := by
    intro n
    induction n with
    | zero => simp [islN]
    | succ n ih =>
      simp only [islN]
      rcases hb : newB (ms ++ [m]) (lnkL ms ls ids m.1) n with _ | _
      · simp only [Bool.false_eq_true, if_false]; omega
      · have : newB ms ls n = true := (newB_iff _ _ _).2 fun j hj hc => (newB_iff _ _ _).1 hb j hj (con_more hc)
        rw [this]; omega
  have hl : (ms ++ [m]).length = ms.length + 1 := by simp
  rw [hl]
  simp only [islN]
  have hk := key ms.length
  by_cases he : ids = []
  · rw [if_pos he]; split <;> omega
  · rw [if_neg he]
    obtain ⟨x, hx⟩ := List.exists_mem_of_ne_nil ids he
    obtain ⟨a, b, c⟩ := zIdx_lt (hids x hx)
    have hno : newB (ms ++ [m]) (lnkL ms ls ids m.1) ms.length = false := (newB_no _ _ _).2 ⟨zIdx ms x, a, Con.one (by simp; omega) (by simp) (by
      rw [mid_last, lnkL_at a]
      exact lnkI_mem.2 (Or.inr ⟨rfl, by rw [c]; exact (hasB_iff _ _).2 hx⟩))⟩
    rw [hno]
    simp only [Bool.false_eq_true, if_false]
    omega
/-- Linked. -/
def nearI (ms : List Mk) (p : List Int) (most : Int) : List Int := (nearL ms p most).map (fun h => h.1)
def mostB (most : Int) : Bool := decide (1 ≤ most) && decide (most ≤ 8)
def linkedB (ms : List Mk) (ls : List (List Int)) (m : Mk) (most : Int) : Bool := webB ms ls && mostB most && marksB (ms ++ [m])
def linkedMs (ms : List Mk) (ls : List (List Int)) (m : Mk) (most : Int) : List Mk := if linkedB ms ls m most = true then ms ++ [m] else []
def linkedLs (ms : List Mk) (ls : List (List Int)) (m : Mk) (most : Int) : List (List Int) := if linkedB ms ls m most = true then lnkL ms ls (nearI ms m.2 most) m.1 else []
theorem nearI_find {ms : List Mk} (hm : marksB ms = true) {p : List Int} {most : Int} : ∀ x ∈ nearI ms p most, 0 ≤ zFind ms x := by
  intro x hx
  obtain ⟨h, hh, rfl⟩ := List.mem_map.1 hx
  unfold nearL at hh
  split at hh
  · have h1 := (sortL_perm _).mem_iff.1 (List.mem_of_mem_take hh)
    obtain ⟨mk, hmk, rfl⟩ := List.mem_map.1 h1
    obtain ⟨i, hi, e⟩ := List.mem_iff_getElem.1 hmk
    have e2 : mid ms i = mk.1 := by simp [mid, List.getD, hi, e]
    show 0 ≤ zFind ms mk.1
    rw [← e2, (zFind_mid hm hi).1]
    omega
  · simp at hh

end Go.Proofs.Ytbmljcpeonopmaa
namespace Go.Proofs.Ytbmljcpeonopmaa

/-- Of the first n that are seen the first that was not opened; -1 of none. -/
def outTo (s : List Ht) (op : List Int) : Nat → Int
  | 0 => -1
  | k + 1 => if 0 ≤ outTo s op k then outTo s op k else if hasB op (hnth s k).1 = true then -1 else (k : Int)
theorem outTo_ok (s : List Ht) (op : List Int) (n : Nat) : -1 ≤ outTo s op n ∧ outTo s op n < n ∧ (0 ≤ outTo s op n → hasB op (hnth s (outTo s op n).toNat).1 = false) ∧ (outTo s op n < 0 → ∀ k, k < n → hasB op (hnth s k).1 = true) := by
  induction n with
  | zero => simp [outTo]
  | succ n ih =>
    obtain ⟨h1, h2, h3, h4⟩ := ih
    simp only [outTo]
    by_cases h : 0 ≤ outTo s op n
    · rw [if_pos h]
      exact ⟨h1, by omega, h3, fun h' => by omega⟩
    · rw [if_neg h]
      rcases hb : hasB op (hnth s n).1 with _ | _
      · simp only [Bool.false_eq_true, if_false]
        exact ⟨by omega, by omega, fun _ => by simpa using hb, fun h' => by omega⟩
      · simp only [if_true]
        refine ⟨by omega, by omega, fun h' => by omega, fun _ k hk => ?_⟩
        rcases Nat.lt_or_ge k n with e | e
        · exact h4 (by omega) k e
        · obtain rfl : k = n := by omega
          exact hb
theorem outTo_stay {s : List Ht} {op : List Int} {n m : Nat} (h : 0 ≤ outTo s op n) (hm : n ≤ m) : outTo s op m = outTo s op n := by
  induction m with
  | zero => rw [show n = 0 by omega]
  | succ m ih =>
    rcases Nat.lt_or_ge m n with e | e
    · rw [show n = m + 1 by omega]
    · have := ih e
      simp only [outTo]
      rw [if_pos (by omega), this]
/-- What is seen behind the first k links of one that is opened. -/
def seeK (ms : List Mk) (q : List Int) (l : List Int) (s : List Ht) (ids : List Int) : Nat → List Ht × List Int
  | 0 => (s, ids)
  | k + 1 => if hasB (seeK ms q l s ids k).2 (nth l k) = true then seeK ms q l s ids k else (putL (seeK ms q l s ids k).1 (hitOf ms q (nth l k)), (seeK ms q l s ids k).2 ++ [nth l k])
def beamF (ms : List Mk) (ls : List (List Int)) (q : List Int) (wd : Nat) : Nat → List Ht → List Int → List Int → List Ht
  | 0, s, _, _ => s.take wd
  | f + 1, s, ids, op =>
    if outTo s op (min s.length wd) < 0 then s.take wd
    else beamF ms ls q wd f (seeK ms q (cn ls (zIdx ms (hnth s (outTo s op (min s.length wd)).toNat).1)) s ids (cn ls (zIdx ms (hnth s (outTo s op (min s.length wd)).toNat).1)).length).1
      (seeK ms q (cn ls (zIdx ms (hnth s (outTo s op (min s.length wd)).toNat).1)) s ids (cn ls (zIdx ms (hnth s (outTo s op (min s.length wd)).toNat).1)).length).2
      (op ++ [(hnth s (outTo s op (min s.length wd)).toNat).1])
def beamG (ms : List Mk) (ls : List (List Int)) (q : List Int) (wd : Nat) (s : List Ht) (ids op : List Int) : List Ht := beamF ms ls q wd (ms.length - op.length) s ids op
/-- What holds while one looks. -/
structure BeamOk (ms : List Mk) (q : List Int) (s : List Ht) (ids : List Int) : Prop where
  nd : ids.Nodup
  find : ∀ x ∈ ids, 0 ≤ zFind ms x
  sn : s = sortL (ids.map (hitOf ms q))
structure OpenOk (ms : List Mk) (ls : List (List Int)) (ids op : List Int) : Prop where
  nd : op.Nodup
  sub : ∀ x ∈ op, x ∈ ids
  all : ∀ x ∈ op, ∀ y ∈ cn ls (zIdx ms x), y ∈ ids
theorem BeamOk.len {ms : List Mk} {q : List Int} {s : List Ht} {ids : List Int} (h : BeamOk ms q s ids) : s.length = ids.length := by rw [h.sn, sortL_length, List.length_map]
theorem BeamOk.short {ms : List Mk} {q : List Int} {s : List Ht} {ids : List Int} (h : BeamOk ms q s ids) : ids.length ≤ ms.length := ids_short h.nd h.find
theorem BeamOk.at {ms : List Mk} {q : List Int} {s : List Ht} {ids : List Int} (h : BeamOk ms q s ids) {k : Nat} (hk : k < s.length) : (hnth s k).1 ∈ ids ∧ hnth s k = hitOf ms q (hnth s k).1 := by
  have hm : hnth s k ∈ ids.map (hitOf ms q) := by
    have h1 : hnth s k ∈ s := by simp [hnth, List.getD, hk]
    rw [h.sn] at h1
    rw [h.sn]
    exact (sortL_perm _).mem_iff.1 h1
  obtain ⟨x, hx, e⟩ := List.mem_map.1 hm
  rw [← e]
  exact ⟨hx, rfl⟩
theorem BeamOk.mem {ms : List Mk} {q : List Int} {s : List Ht} {ids : List Int} (h : BeamOk ms q s ids) {x : Int} (hx : x ∈ ids) : ∃ k, k < s.length ∧ hnth s k = hitOf ms q x := by
  have h1 : hitOf ms q x ∈ s := by
    rw [h.sn]
    exact (sortL_perm _).mem_iff.2 (List.mem_map.2 ⟨x, hx, rfl⟩)
  obtain ⟨k, hk, e⟩ := List.mem_iff_getElem.1 h1
  exact ⟨k, hk, by simp [hnth, List.getD, hk, e]⟩
theorem seeK_ok {ms : List Mk} {q : List Int} {s : List Ht} {ids l : List Int} (h : BeamOk ms q s ids) (hl : ∀ x ∈ l, 0 ≤ zFind ms x) (n : Nat) (hn : n ≤ l.length) : BeamOk ms q (seeK ms q l s ids n).1 (seeK ms q l s ids n).2 ∧ (∀ x ∈ ids, x ∈ (seeK ms q l s ids n).2) ∧ (∀ k, k < n → nth l k ∈ (seeK ms q l s ids n).2) ∧ ∀ x ∈ (seeK ms q l s ids n).2, x ∈ ids ∨ x ∈ l := by
  induction n with
  | zero => exact ⟨h, fun x hx => hx, fun k hk => by omega, fun x hx => Or.inl hx⟩
  | succ n ih =>
    obtain ⟨h1, h2, h3, h4⟩ := ih (by omega)
    have hmem : nth l n ∈ l := (hasB_iff _ _).1 (hasB_nth (by omega))
    simp only [seeK]
    rcases hb : hasB (seeK ms q l s ids n).2 (nth l n) with _ | _
    · simp only [Bool.false_eq_true, if_false]
      have hno := (hasB_no _ _).1 hb
      refine ⟨⟨?_, ?_, ?_⟩, fun x hx => by simp [h2 x hx], fun k hk => ?_, fun x hx => ?_⟩
      · rw [List.nodup_append]
        refine ⟨h1.nd, by simp, fun a ha b hb' e => ?_⟩
        simp at hb'
        exact hno (by rw [← hb', ← e]; exact ha)
      · intro x hx
        rcases List.mem_append.1 hx with e | e
        · exact h1.find x e
        · simp at e; rw [e]; exact hl _ hmem
      · rw [List.map_append, List.map_cons, List.map_nil, sortL_snoc, ← h1.sn]
      · rcases Nat.lt_or_ge k n with e | e
        · simp [h3 k e]
        · obtain rfl : k = n := by omega
          simp
      · rcases List.mem_append.1 hx with e | e
        · exact h4 x e
        · simp at e; right; rw [e]; exact hmem
    · simp only [if_true]
      refine ⟨h1, h2, fun k hk => ?_, h4⟩
      rcases Nat.lt_or_ge k n with e | e
      · exact h3 k e
      · obtain rfl : k = n := by omega
        exact (hasB_iff _ _).1 hb
theorem beamG_end {ms : List Mk} {ls : List (List Int)} {q : List Int} {wd : Nat} {s : List Ht} {ids op : List Int} (h : outTo s op (min s.length wd) < 0) : beamG ms ls q wd s ids op = s.take wd := by
  unfold beamG
  cases ms.length - op.length with
  | zero => rfl
  | succ f => simp only [beamF, if_pos h]
theorem open_more {ms : List Mk} {ls : List (List Int)} {q : List Int} {wd : Nat} {s : List Ht} {ids op : List Int} (hb : BeamOk ms q s ids) (ho : OpenOk ms ls ids op) (h : 0 ≤ outTo s op (min s.length wd)) :
    (outTo s op (min s.length wd)).toNat < s.length ∧ (hnth s (outTo s op (min s.length wd)).toNat).1 ∈ ids ∧ (hnth s (outTo s op (min s.length wd)).toNat).1 ∉ op ∧ op.length < ms.length := by
  obtain ⟨h1, h2, h3, -⟩ := outTo_ok s op (min s.length wd)
  have hlt : (outTo s op (min s.length wd)).toNat < s.length := by omega
  have hno := (hasB_no _ _).1 (h3 h)
  have hin := (hb.at hlt).1
  refine ⟨hlt, hin, hno, ?_⟩
  have hs := ids_short (ms := ms) (l := op ++ [(hnth s (outTo s op (min s.length wd)).toNat).1]) (by
    rw [List.nodup_append]
    refine ⟨ho.nd, by simp, fun a ha b hb' e => ?_⟩
    simp at hb'
    exact hno (by rw [← hb', ← e]; exact ha)) (fun x hx => by
    rcases List.mem_append.1 hx with e | e
    · exact hb.find x (ho.sub x e)
    · simp at e; rw [e]; exact hb.find _ hin)
  simp at hs
  omega
theorem beamG_step {ms : List Mk} {ls : List (List Int)} {q : List Int} (hw : webB ms ls = true) {wd : Nat} {s : List Ht} {ids op : List Int} (hb : BeamOk ms q s ids) (ho : OpenOk ms ls ids op) (h : 0 ≤ outTo s op (min s.length wd)) {id : Int} (hid : (hnth s (outTo s op (min s.length wd)).toNat).1 = id) :
    beamG ms ls q wd s ids op = beamG ms ls q wd (seeK ms q (cn ls (zIdx ms id)) s ids (cn ls (zIdx ms id)).length).1 (seeK ms q (cn ls (zIdx ms id)) s ids (cn ls (zIdx ms id)).length).2 (op ++ [id]) ∧ BeamOk ms q (seeK ms q (cn ls (zIdx ms id)) s ids (cn ls (zIdx ms id)).length).1 (seeK ms q (cn ls (zIdx ms id)) s ids (cn ls (zIdx ms id)).length).2 ∧ OpenOk ms ls (seeK ms q (cn ls (zIdx ms id)) s ids (cn ls (zIdx ms id)).length).2 (op ++ [id]) := by
  obtain ⟨h1, h2, h3, h4⟩ := open_more hb ho h
  rw [hid] at h2 h3
  have hx := zIdx_lt (hb.find _ h2)
  obtain ⟨k1, k2, k3, -⟩ := seeK_ok hb (l := cn ls (zIdx ms id)) (fun x hx' => (web_link hw hx.1 hx').1) _ (Nat.le_refl _)
  refine ⟨?_, k1, ?_, ?_, ?_⟩
  · unfold beamG
    obtain ⟨f, hf⟩ : ∃ f, ms.length - op.length = f + 1 := ⟨ms.length - op.length - 1, by omega⟩
    rw [hf]
    simp only [beamF]
    rw [if_neg (by omega), hid, List.length_append, List.length_cons, List.length_nil]
    congr 1
    omega
  · rw [List.nodup_append]
    refine ⟨ho.nd, by simp, fun a ha b hb' e => ?_⟩
    simp at hb'
    exact h3 (by rw [← hb', ← e]; exact ha)
  · intro x hx'
    rcases List.mem_append.1 hx' with e | e
    · exact k2 x (ho.sub x e)
    · simp at e; rw [e]; exact k2 _ h2
  · intro x hx' y hy
    rcases List.mem_append.1 hx' with e | e
    · exact k2 y (ho.all x e y hy)
    · simp at e
      rw [e] at hy
      obtain ⟨k, hk, rfl⟩ := mem_nth hy
      exact k3 k hk
/-- Where it ends. -/
theorem beam_ends {ms : List Mk} {ls : List (List Int)} {q : List Int} (hw : webB ms ls = true) (wd : Nat) : ∀ (f : Nat) (s : List Ht) (ids op : List Int), ms.length - op.length ≤ f → BeamOk ms q s ids → OpenOk ms ls ids op → ∃ s' ids' op', beamG ms ls q wd s ids op = s'.take wd ∧ BeamOk ms q s' ids' ∧ OpenOk ms ls ids' op' ∧ outTo s' op' (min s'.length wd) < 0 ∧ ∀ x ∈ ids, x ∈ ids' := by
  intro f
  induction f with
  | zero =>
    intro s ids op hf hb ho
    refine ⟨s, ids, op, ?_, hb, ho, ?_, fun x hx => hx⟩
    · refine beamG_end ?_
      rcases Int.lt_or_le (outTo s op (min s.length wd)) 0 with e | e
      · exact e
      · have := (open_more hb ho e).2.2.2; omega
    · rcases Int.lt_or_le (outTo s op (min s.length wd)) 0 with e | e
      · exact e
      · have := (open_more hb ho e).2.2.2; omega
  | succ f ih =>
    intro s ids op hf hb ho
    rcases Int.lt_or_le (outTo s op (min s.length wd)) 0 with e | e
    · exact ⟨s, ids, op, beamG_end e, hb, ho, e, fun x hx => hx⟩
    · obtain ⟨k1, k2, k3⟩ := beamG_step hw hb ho e rfl
      have h4 := (open_more hb ho e).2.2.2
      obtain ⟨s', ids', op', j1, j2, j3, j4, j5⟩ := ih _ _ _ (by simp; omega) k2 k3
      refine ⟨s', ids', op', by rw [k1, j1], j2, j3, j4, fun x hx => j5 x ?_⟩
      have h2 := (open_more hb ho e).2.1
      exact (seeK_ok hb (l := cn ls (zIdx ms (hnth s (outTo s op (min s.length wd)).toNat).1)) (fun y hy => (web_link hw (zIdx_lt (hb.find _ h2)).1 hy).1) _ (Nat.le_refl _)).2.1 x hx
theorem beam_start {ms : List Mk} {ls : List (List Int)} {q : List Int} {fr : Int} (hf : 0 ≤ zFind ms fr) : BeamOk ms q [hitOf ms q fr] [fr] ∧ OpenOk ms ls [fr] [] :=
  ⟨⟨by simp, fun x hx => by simp at hx; rw [hx]; exact hf, by simp [sortL, putL]⟩, ⟨by simp, fun x hx => by simp at hx, fun x hx => by simp at hx⟩⟩
def beamL (ms : List Mk) (ls : List (List Int)) (fr : Int) (q : List Int) (wide : Int) : List Ht := if toldW ms ls fr q = true ∧ countB wide = true then beamG ms ls q wide.toNat [hitOf ms q fr] [fr] [] else []
end Go.Proofs.Ytbmljcpeonopmaa
namespace Go.Proofs.Ytbmljcpeonopmaa

/-- The numbers of what is seen. -/
def idsH (s : List Ht) : List Int := s.map (fun h => h.1)
theorem idsH_len (s : List Ht) : (idsH s).length = s.length := by simp [idsH]
theorem idsH_mem {s : List Ht} {x : Int} : x ∈ idsH s ↔ ∃ h ∈ s, h.1 = x := by simp [idsH]
theorem idsH_nth {s : List Ht} {k : Nat} (hk : k < s.length) : (hnth s k).1 ∈ idsH s := idsH_mem.2 ⟨_, by simp [hnth, List.getD, hk], rfl⟩
theorem idsH_at {s : List Ht} {x : Int} (h : x ∈ idsH s) : ∃ k, k < s.length ∧ (hnth s k).1 = x := by
  obtain ⟨h, hm, e⟩ := idsH_mem.1 h
  obtain ⟨k, hk, e'⟩ := List.mem_iff_getElem.1 hm
  exact ⟨k, hk, by simp [hnth, List.getD, hk, e', e]⟩
theorem hnth_in14 {s : List Ht} {k : Nat} (hk : k < s.length) : hnth s k ∈ s := by simp [hnth, List.getD, hk]
/-- One more is seen; dd tells how far it is. -/
def seeD (dd : Int → Int) (s : List Ht) (x : Int) : List Ht := if hasB (idsH s) x = true then s else putL s (x, dd x)
def seesD (dd : Int → Int) (s : List Ht) (l : List Int) : List Ht := l.foldl (seeD dd) s
theorem seesD_snoc (dd : Int → Int) (s : List Ht) (l : List Int) (x : Int) : seesD dd s (l ++ [x]) = seeD dd (seesD dd s l) x := by simp [seesD, List.foldl_append]
theorem seesD_take (dd : Int → Int) (s : List Ht) (l : List Int) {k : Nat} (hk : k < l.length) : seesD dd s (l.take (k + 1)) = seeD dd (seesD dd s (l.take k)) (nth l k) := by
  rw [List.take_add_one, List.getElem?_eq_getElem hk]
  simp only [Option.toList_some]
  rw [seesD_snoc]
  simp [nth, List.getD, hk]
/-- What is seen: in order, each once, with its distance. -/
structure LookD (dd : Int → Int) (s : List Ht) : Prop where
  so : SortedH s
  nd : (idsH s).Nodup
  far : ∀ h ∈ s, h.2 = dd h.1
theorem idsH_put (s : List Ht) (h : Ht) (x : Int) : x ∈ idsH (putL s h) ↔ x = h.1 ∨ x ∈ idsH s := by
  simp only [idsH_mem, (putL_perm s h).mem_iff, List.mem_cons]
  constructor
  · rintro ⟨g, e | e, rfl⟩
    · left; rw [e]
    · right; exact ⟨g, e, rfl⟩
  · rintro (rfl | ⟨g, e, rfl⟩)
    · exact ⟨h, Or.inl rfl, rfl⟩
    · exact ⟨g, Or.inr e, rfl⟩
theorem LookD.nil (dd : Int → Int) : LookD dd [] := ⟨List.Pairwise.nil, by simp [idsH], fun h hh => by cases hh⟩
theorem LookD.see {dd : Int → Int} {s : List Ht} (h : LookD dd s) (x : Int) : LookD dd (seeD dd s x) := by
  unfold seeD
  rcases hb : hasB (idsH s) x with _ | _
  · simp only [Bool.false_eq_true, if_false]
    have hno := (hasB_no _ _).1 hb
    refine ⟨putL_sorted h.so _, ?_, fun g hg => ?_⟩
    · have hp : (idsH (putL s (x, dd x))).Perm (x :: idsH s) := by simpa [idsH] using (putL_perm s (x, dd x)).map (fun h => h.1)
      rw [hp.nodup_iff, List.nodup_cons]
      exact ⟨hno, h.nd⟩
    · rcases List.mem_cons.1 ((putL_perm s (x, dd x)).mem_iff.1 hg) with e | e
      · rw [e]
      · exact h.far g e
  · simp only [if_true]; exact h
theorem seeD_mem {dd : Int → Int} {s : List Ht} {x y : Int} : y ∈ idsH (seeD dd s x) ↔ y = x ∨ y ∈ idsH s := by
  unfold seeD
  rcases hb : hasB (idsH s) x with _ | _
  · simp only [Bool.false_eq_true, if_false]
    exact idsH_put _ _ _
  · simp only [if_true]
    constructor
    · exact Or.inr
    · rintro (rfl | e)
      · exact (hasB_iff _ _).1 hb
      · exact e
theorem seesD_ok {dd : Int → Int} {s : List Ht} (h : LookD dd s) (l : List Int) : LookD dd (seesD dd s l) ∧ ∀ y, y ∈ idsH (seesD dd s l) ↔ y ∈ l ∨ y ∈ idsH s := by
  induction l generalizing s with
  | nil => exact ⟨h, fun y => by simp [seesD]⟩
  | cons x l ih =>
    obtain ⟨h1, h2⟩ := ih (h.see x)
    refine ⟨h1, fun y => ?_⟩
    have e := h2 y
    show y ∈ idsH (seesD dd (seeD dd s x) l) ↔ _
    rw [e, seeD_mem, List.mem_cons]
    constructor
    · rintro (a | a | a)
      · exact Or.inl (Or.inr a)
      · exact Or.inl (Or.inl a)
      · exact Or.inr a
    · rintro ((a | a) | a)
      · exact Or.inr (Or.inl a)
      · exact Or.inl a
      · exact Or.inr (Or.inr a)
/-- Where the program looks it up: behind all that are ahead of it. -/
def posA (h : Ht) : List Ht → Nat
  | [] => 0
  | x :: l => if aheadB x h = true then posA h l + 1 else 0
theorem posA_le (h : Ht) (l : List Ht) : posA h l ≤ l.length := by
  induction l with
  | nil => simp [posA]
  | cons x l ih => simp only [posA]; split <;> simp <;> omega
theorem posA_low (h : Ht) (l : List Ht) (i : Nat) (hi : i < posA h l) : aheadB (hnth l i) h = true := by
  induction l generalizing i with
  | nil => simp [posA] at hi
  | cons x l ih =>
    simp only [posA] at hi
    by_cases hx : aheadB x h = true
    · rw [if_pos hx] at hi
      match i with
      | 0 => simpa [hnth] using hx
      | i + 1 => simpa [hnth] using ih i (by omega)
    · simp [hx] at hi
theorem posA_high {l : List Ht} (hs : SortedH l) (h : Ht) (i : Nat) (hi : posA h l ≤ i) (hl : i < l.length) : aheadB (hnth l i) h = false := by
  induction l generalizing i with
  | nil => simp at hl
  | cons x l ih =>
    simp only [posA] at hi
    have hs2 := List.pairwise_cons.1 hs
    by_cases hx : aheadB x h = true
    · rw [if_pos hx] at hi
      match i with
      | 0 => omega
      | i + 1 =>
        simp at hl
        have := ih hs2.2 i (by omega) hl
        simpa [hnth] using this
    · match i with
      | 0 => simpa [hnth] using hx
      | i + 1 =>
        simp at hl
        have hm : l[i] ∈ l := List.getElem_mem hl
        have h1 := hs2.1 _ hm
        have e : hnth (x :: l) (i + 1) = l[i] := by simp [hnth, List.getD, hl]
        rw [e]
        have hx' := (aheadB_false _ _).1 (by simpa using hx)
        exact (aheadB_false _ _).2 (leH_trans hx' h1)
theorem posA_put (dd : Int → Int) {s : List Ht} {x : Int} (hx : x ∉ idsH s) : putL s (x, dd x) = s.take (posA (x, dd x) s) ++ (x, dd x) :: s.drop (posA (x, dd x) s) := by
  have key : ∀ l : List Ht, (∀ g ∈ l, g.1 ≠ x) → putL l (x, dd x) = l.take (posA (x, dd x) l) ++ (x, dd x) :: l.drop (posA (x, dd x) l) := by
    intro l
    induction l with
    | nil => intro _; rfl
    | cons g l ih =>
      intro hg
      have h1 := hg g (by simp)
      have h2 := ih (fun g' hg' => hg g' (by simp [hg']))
      simp only [putL, posA]
      by_cases ha : aheadB g (x, dd x) = true
      · have hb : aheadB (x, dd x) g = false := (aheadB_false _ _).2 (leH_of_ahead ha)
        simp [ha, hb, h2]
      · have hb : aheadB (x, dd x) g = true := by
          have ha' := (aheadB_false _ _).1 (by simpa using ha)
          rw [aheadB_iff]
          unfold leH at ha'
          simp only at *
          omega
        simp [ha, hb]
  exact key s fun g hg e => hx (idsH_mem.2 ⟨g, hg, e⟩)
/-- It is there just where the program looks it up. -/
theorem posA_has {dd : Int → Int} {s : List Ht} (h : LookD dd s) (x : Int) : hasB (idsH s) x = (decide (posA (x, dd x) s < s.length) && decide ((hnth s (posA (x, dd x) s)).1 = x)) := by
  rcases hb : hasB (idsH s) x with _ | _
  · have hno := (hasB_no _ _).1 hb
    symm
    rw [Bool.and_eq_false_iff]
    by_cases hl : posA (x, dd x) s < s.length
    · right
      exact decide_eq_false fun e => hno (by rw [← e]; exact idsH_nth hl)
    · left; exact decide_eq_false hl
  · obtain ⟨k, hk, e⟩ := idsH_at ((hasB_iff _ _).1 hb)
    have he : hnth s k = (x, dd x) := by
      have := h.far _ (hnth_in14 hk)
      rw [← e, ← this]
    have h1 : posA (x, dd x) s ≤ k := by
      rcases Nat.lt_or_ge k (posA (x, dd x) s) with c | c
      · have := posA_low _ _ _ c
        rw [he, aheadB_irr] at this; cases this
      · exact c
    have h2 : posA (x, dd x) s < s.length := by omega
    have h3 := posA_high h.so (x, dd x) _ (Nat.le_refl _) h2
    have h4 : leH (hnth s (posA (x, dd x) s)) (hnth s k) := by
      rcases Nat.lt_or_ge (posA (x, dd x) s) k with c | c
      · have := List.pairwise_iff_getElem.1 h.so _ _ h2 hk c
        simpa [hnth, List.getD, h2, hk] using this
      · rw [show posA (x, dd x) s = k by omega]; exact leH_refl _
    have h5 := leH_antisymm h4 (by rw [he]; exact (aheadB_false _ _).1 h3)
    rw [h5, he]
    simp [h2]
/-- What holds while the program looks. -/
structure LkOk (ms : List Mk) (ls : List (List Int)) (dd : Int → Int) (s : List Ht) (op : List Int) : Prop where
  look : LookD dd s
  find : ∀ x ∈ idsH s, 0 ≤ zFind ms x
  nd : op.Nodup
  sub : ∀ x ∈ op, x ∈ idsH s
  all : ∀ x ∈ op, ∀ y ∈ cn ls (zIdx ms x), y ∈ idsH s
theorem LkOk.short {ms : List Mk} {ls : List (List Int)} {dd : Int → Int} {s : List Ht} {op : List Int} (h : LkOk ms ls dd s op) : s.length ≤ ms.length := by
  have := ids_short h.look.nd h.find
  rwa [idsH_len] at this
theorem LkOk.shortO {ms : List Mk} {ls : List (List Int)} {dd : Int → Int} {s : List Ht} {op : List Int} (h : LkOk ms ls dd s op) : op.length ≤ ms.length := ids_short h.nd (fun x hx => h.find x (h.sub x hx))
theorem LkOk.nil (ms : List Mk) (ls : List (List Int)) (dd : Int → Int) : LkOk ms ls dd [] [] := ⟨LookD.nil dd, fun x hx => (by simp [idsH] at hx), (by simp), fun x hx => (by simp at hx), fun x hx => (by simp at hx)⟩
theorem LkOk.see {ms : List Mk} {ls : List (List Int)} {dd : Int → Int} {s : List Ht} {op : List Int} (h : LkOk ms ls dd s op) {x : Int} (hx : 0 ≤ zFind ms x) : LkOk ms ls dd (seeD dd s x) op :=
  ⟨h.look.see x, fun y hy => by
    rcases seeD_mem.1 hy with e | e
    · rw [e]; exact hx
    · exact h.find y e, h.nd, fun y hy => seeD_mem.2 (Or.inr (h.sub y hy)), fun y hy z hz => seeD_mem.2 (Or.inr (h.all y hy z hz))⟩
/-- The one that is opened next. -/
def nextI (s : List Ht) (op : List Int) (wd : Nat) : Int := (hnth s (outTo s op (min s.length wd)).toNat).1
theorem next_ok {s : List Ht} {op : List Int} {wd : Nat} (h : 0 ≤ outTo s op (min s.length wd)) : (outTo s op (min s.length wd)).toNat < s.length ∧ nextI s op wd ∈ idsH s ∧ nextI s op wd ∉ op := by
  obtain ⟨h1, h2, h3, -⟩ := outTo_ok s op (min s.length wd)
  have hlt : (outTo s op (min s.length wd)).toNat < s.length := by omega
  exact ⟨hlt, idsH_nth hlt, (hasB_no _ _).1 (h3 h)⟩
theorem LkOk.opened {ms : List Mk} {ls : List (List Int)} (hw : webB ms ls = true) {dd : Int → Int} {s : List Ht} {op : List Int} (h : LkOk ms ls dd s op) {x : Int} (hx : x ∈ idsH s) (hn : x ∉ op) : LkOk ms ls dd (seesD dd s (cn ls (zIdx ms x))) (op ++ [x]) := by
  have hf := zIdx_lt (h.find x hx)
  obtain ⟨h1, h2⟩ := seesD_ok h.look (cn ls (zIdx ms x))
  refine ⟨h1, fun y hy => ?_, ?_, fun y hy => ?_, fun y hy z hz => ?_⟩
  · rcases (h2 y).1 hy with e | e
    · exact (web_link hw hf.1 e).1
    · exact h.find y e
  · rw [List.nodup_append]
    refine ⟨h.nd, by simp, fun a ha b hb e => ?_⟩
    simp at hb
    exact hn (by rw [← hb, ← e]; exact ha)
  · rcases List.mem_append.1 hy with e | e
    · exact (h2 y).2 (Or.inr (h.sub y e))
    · simp at e; rw [e]; exact (h2 x).2 (Or.inr hx)
  · rcases List.mem_append.1 hy with e | e
    · exact (h2 z).2 (Or.inr (h.all y e z hz))
    · simp at e; rw [e] at hz; exact (h2 z).2 (Or.inl hz)
/-- From what was seen and opened one comes to this. -/
inductive LkTo (ms : List Mk) (ls : List (List Int)) (dd : Int → Int) (wd : Nat) (s0 : List Ht) (op0 : List Int) : List Ht → List Int → Prop
  | refl : LkTo ms ls dd wd s0 op0 s0 op0
  | step {s : List Ht} {op : List Int} : LkTo ms ls dd wd s0 op0 s op → 0 ≤ outTo s op (min s.length wd) → LkTo ms ls dd wd s0 op0 (seesD dd s (cn ls (zIdx ms (nextI s op wd)))) (op ++ [nextI s op wd])
theorem LkTo.ok {ms : List Mk} {ls : List (List Int)} (hw : webB ms ls = true) {dd : Int → Int} {wd : Nat} {s0 s : List Ht} {op0 op : List Int} (h : LkTo ms ls dd wd s0 op0 s op) (h0 : LkOk ms ls dd s0 op0) : LkOk ms ls dd s op := by
  induction h with
  | refl => exact h0
  | step _ h2 ih => exact ih.opened hw (next_ok h2).2.1 (next_ok h2).2.2
/-- A step can be made only while some are not opened. -/
theorem LkOk.room {ms : List Mk} {ls : List (List Int)} {dd : Int → Int} {s : List Ht} {op : List Int} (h : LkOk ms ls dd s op) {x : Int} (hx : x ∈ idsH s) (hn : x ∉ op) : op.length < ms.length := by
  have := ids_short (ms := ms) (l := op ++ [x]) (by
    rw [List.nodup_append]
    refine ⟨h.nd, by simp, fun a ha b hb e => ?_⟩
    simp at hb
    exact hn (by rw [← hb, ← e]; exact ha)) (fun y hy => by
    rcases List.mem_append.1 hy with e | e
    · exact h.find y (h.sub y e)
    · simp at e; rw [e]; exact h.find x hx)
  simp at this
  omega

/-- How far a mark is, by its number. -/
def farD (ms : List Mk) (q : List Int) (x : Int) : Int := farV (mat ms (zIdx ms x)) q
theorem seeD_seeK {ms : List Mk} {q : List Int} {s : List Ht} {ids : List Int} (h : BeamOk ms q s ids) (l : List Int) (hl : ∀ x ∈ l, 0 ≤ zFind ms x) (k : Nat) (hk : k ≤ l.length) : (seeK ms q l s ids k).1 = seesD (farD ms q) s (l.take k) := by
  induction k with
  | zero => simp [seeK, seesD]
  | succ k ih =>
    have ih' := ih (by omega)
    obtain ⟨h1, -, -, -⟩ := seeK_ok h hl k (by omega)
    rw [seesD_take _ _ _ (by omega), ← ih']
    simp only [seeK, seeD]
    have e : hasB (idsH (seeK ms q l s ids k).1) (nth l k) = hasB (seeK ms q l s ids k).2 (nth l k) := by
      rw [Bool.eq_iff_iff, hasB_iff, hasB_iff]
      constructor
      · intro hm
        obtain ⟨j, hj, e⟩ := idsH_at hm
        rw [← e]; exact (h1.at hj).1
      · intro hm
        obtain ⟨j, hj, e⟩ := h1.mem hm
        have := idsH_nth hj
        rw [e] at this; exact this
    rw [e]
    split <;> rfl
theorem LkTo.beam {ms : List Mk} {ls : List (List Int)} (hw : webB ms ls = true) {q : List Int} {wd : Nat} {s0 s : List Ht} {ids0 op0 op : List Int} (h : LkTo ms ls (farD ms q) wd s0 op0 s op) (hb : BeamOk ms q s0 ids0) (ho : OpenOk ms ls ids0 op0) : ∃ ids, BeamOk ms q s ids ∧ OpenOk ms ls ids op ∧ beamG ms ls q wd s0 ids0 op0 = beamG ms ls q wd s ids op := by
  induction h with
  | refl => exact ⟨ids0, hb, ho, rfl⟩
  | @step s op _ h2 ih =>
    obtain ⟨ids, k1, k2, k3⟩ := ih
    obtain ⟨j1, j2, j3⟩ := beamG_step hw k1 k2 h2 (id := nextI s op wd) rfl
    have hin := (open_more k1 k2 h2).2.1
    have hf := zIdx_lt (k1.find _ hin)
    have e := seeD_seeK k1 (cn ls (zIdx ms (nextI s op wd))) (fun x hx => (web_link hw hf.1 hx).1) _ (Nat.le_refl _)
    rw [List.take_length] at e
    rw [e] at j1 j2
    exact ⟨_, j2, j3, k3.trans j1⟩
/-- A beam is what one comes to. -/
theorem look_beam {ms : List Mk} {ls : List (List Int)} (hw : webB ms ls = true) {q : List Int} {wd : Nat} {fr : Int} (hf : 0 ≤ zFind ms fr) {s : List Ht} {op : List Int} (h : LkTo ms ls (farD ms q) wd [(fr, farD ms q fr)] [] s op) (he : outTo s op (min s.length wd) < 0) : beamG ms ls q wd [hitOf ms q fr] [fr] [] = s.take wd := by
  obtain ⟨hb, ho⟩ := beam_start (ls := ls) (q := q) hf
  obtain ⟨ids, -, -, e⟩ := h.beam hw hb ho
  exact e.trans (beamG_end he)
theorem look_start {ms : List Mk} {ls : List (List Int)} {dd : Int → Int} {fr : Int} (hf : 0 ≤ zFind ms fr) : seeD dd [] fr = [(fr, dd fr)] ∧ LkOk ms ls dd [(fr, dd fr)] [] := by
  have e : seeD dd [] fr = [(fr, dd fr)] := rfl
  refine ⟨e, ?_⟩
  rw [← e]
  exact (LkOk.nil ms ls dd).see hf
/-- The first of all that are seen. -/
theorem head_least {dd : Int → Int} {s : List Ht} (h : LookD dd s) {x : Int} (hx : x ∈ idsH s) (hl : ∀ y ∈ idsH s, leH (x, dd x) (y, dd y)) : 0 < s.length ∧ hnth s 0 = (x, dd x) := by
  obtain ⟨k, hk, e⟩ := idsH_at hx
  have h0 : 0 < s.length := by omega
  refine ⟨h0, ?_⟩
  have hf0 := h.far _ (hnth_in14 h0)
  have hfk := h.far _ (hnth_in14 hk)
  have e0 : hnth s 0 = ((hnth s 0).1, dd (hnth s 0).1) := by rw [← hf0]
  have ek : hnth s k = (x, dd x) := by rw [← e, ← hfk]
  refine leH_antisymm ?_ (by rw [e0]; exact hl _ (idsH_nth h0))
  rw [← ek]
  rcases Nat.eq_zero_or_pos k with c | c
  · rw [c]; exact leH_refl _
  · have := List.pairwise_iff_getElem.1 h.so _ _ h0 hk c
    simpa [hnth, List.getD, h0, hk] using this
theorem head_le {dd : Int → Int} {s : List Ht} (h : LookD dd s) {x : Int} (hx : x ∈ idsH s) : leH (hnth s 0) (x, dd x) := by
  obtain ⟨k, hk, e⟩ := idsH_at hx
  have h0 : 0 < s.length := by omega
  have hfk := h.far _ (hnth_in14 hk)
  have ek : hnth s k = (x, dd x) := by rw [← e, ← hfk]
  rw [← ek]
  rcases Nat.eq_zero_or_pos k with c | c
  · rw [c]; exact leH_refl _
  · have := List.pairwise_iff_getElem.1 h.so _ _ h0 hk c
    simpa [hnth, List.getD, h0, hk] using this
/-- While the program looks with one alone, it walks. -/
theorem LkTo.walk {ms : List Mk} {ls : List (List Int)} (hw : webB ms ls = true) {q : List Int} {fr : Int} (hf : 0 ≤ zFind ms fr) {s : List Ht} {op : List Int} (h : LkTo ms ls (farD ms q) 1 [(fr, farD ms q fr)] [] s op) :
    ∃ x, 0 < s.length ∧ hnth s 0 = (x, farD ms q x) ∧ 0 ≤ zFind ms x ∧ ((x ∉ op ∧ walkG ms ls q fr = op ++ walkG ms ls q x) ∨ (x ∈ op ∧ walkG ms ls q fr = op)) := by
  have hok0 := (look_start (ls := ls) (dd := farD ms q) hf).2
  induction h with
  | refl => exact ⟨fr, by simp, rfl, hf, Or.inl ⟨by simp, by simp⟩⟩
  | @step s op h1 h2 ih =>
    obtain ⟨x, hl, e0, hx, hc⟩ := ih
    have hok := h1.ok hw hok0
    have hmin : min s.length 1 = 1 := by omega
    have hxs : x ∈ idsH s := by have := idsH_nth hl; rw [e0] at this; exact this
    rcases hc with ⟨hno, hwk⟩ | ⟨hyes, -⟩
    · have ho : outTo s op (min s.length 1) = 0 := by
        rw [hmin]
        simp only [outTo, e0]
        rw [if_neg (by omega), if_neg (by rw [(hasB_no _ _).2 hno]; simp)]
        rfl
      have hn : nextI s op 1 = x := by unfold nextI; rw [ho]; simp [e0]
      rw [hn]
      have hok' := hok.opened hw hxs hno
      obtain ⟨-, hmem⟩ := seesD_ok hok.look (cn ls (zIdx ms x))
      obtain ⟨s1, s2, s3⟩ := stepW_ok ms ls q x
      have hle : leH (hitOf ms q (stepW ms ls q x)) (hitOf ms q x) := by
        rcases s1 with e | ⟨-, e⟩
        · rw [e]; exact leH_refl _
        · exact leH_of_ahead e
      have hin : stepW ms ls q x ∈ idsH (seesD (farD ms q) s (cn ls (zIdx ms x))) := by
        rcases s1 with e | ⟨e, -⟩
        · rw [e]; exact (hmem x).2 (Or.inr hxs)
        · exact (hmem _).2 (Or.inl e)
      obtain ⟨k1, k2⟩ := head_least hok'.look hin (fun y hy => by
        rcases (hmem y).1 hy with e | e
        · exact s3 y e
        · have := head_le hok.look e
          rw [e0] at this
          exact leH_trans hle this)
      refine ⟨stepW ms ls q x, k1, k2, step_find hw hx, ?_⟩
      by_cases hs : stepW ms ls q x = x
      · right
        refine ⟨by rw [hs]; simp, ?_⟩
        rw [hwk, walkG_end hs]
      · left
        have ha : aheadB (hitOf ms q (stepW ms ls q x)) (hitOf ms q x) = true := by
          rcases s1 with e | ⟨-, e⟩
          · exact absurd e hs
          · exact e
        refine ⟨fun hm => ?_, ?_⟩
        · rcases List.mem_append.1 hm with e | e
          · have := head_le hok.look (hok.sub _ e)
            rw [e0] at this
            have := (aheadB_false _ _).2 this
            rw [show ((stepW ms ls q x, farD ms q (stepW ms ls q x)) : Ht) = hitOf ms q (stepW ms ls q x) from rfl, show ((x, farD ms q x) : Ht) = hitOf ms q x from rfl, ha] at this
            cases this
          · simp at e; exact hs e
        · rw [hwk, walkG_step hw hx hs]; simp
    · exfalso
      have hlt : outTo s op (min s.length 1) < 0 := by
        rw [hmin]
        simp only [outTo, e0]
        rw [if_neg (by omega), if_pos ((hasB_iff _ _).2 hyes)]
        omega
      omega
/-- A walk is what the program opens. -/
theorem look_walk {ms : List Mk} {ls : List (List Int)} (hw : webB ms ls = true) {q : List Int} {fr : Int} (hf : 0 ≤ zFind ms fr) {s : List Ht} {op : List Int} (h : LkTo ms ls (farD ms q) 1 [(fr, farD ms q fr)] [] s op) (he : outTo s op (min s.length 1) < 0) : walkG ms ls q fr = op := by
  obtain ⟨x, hl, e0, -, hc⟩ := h.walk hw hf
  rcases hc with ⟨hno, -⟩ | ⟨-, e⟩
  · exfalso
    have hmin : min s.length 1 = 1 := by omega
    rw [hmin] at he
    simp only [outTo, e0] at he
    rw [if_neg (by omega), if_neg (by rw [(hasB_no _ _).2 hno]; simp)] at he
    omega
  · exact e
/-- When all that are seen are opened, what is seen is closed. -/
theorem look_closed {ms : List Mk} {ls : List (List Int)} {dd : Int → Int} {s : List Ht} {op : List Int} {wd : Nat} (h : LkOk ms ls dd s op) (hwd : ms.length ≤ wd) (he : outTo s op (min s.length wd) < 0) : Closed ms ls (idsH s) ∧ ∀ x ∈ idsH s, x ∈ op := by
  have hl := h.short
  have hmin : min s.length wd = s.length := by omega
  rw [hmin] at he
  have hall := (outTo_ok s op s.length).2.2.2 he
  have ho : ∀ x ∈ idsH s, x ∈ op := by
    intro x hx
    obtain ⟨k, hk, e⟩ := idsH_at hx
    have := hall k hk
    rw [e] at this
    exact (hasB_iff _ _).1 this
  exact ⟨fun x hx y hy => h.all x (ho x hx) y hy, ho⟩
theorem LkTo.con {ms : List Mk} {ls : List (List Int)} (hw : webB ms ls = true) {dd : Int → Int} {wd : Nat} {s0 s : List Ht} {op0 op : List Int} {i : Nat} {S : List Int} (h : LkTo ms ls dd wd s0 op0 s op) (h0 : LkOk ms ls dd s0 op0) (hop : ∀ x ∈ S, x ∈ op0) (hc : ∀ x ∈ idsH s0, x ∈ S ∨ Con ms ls i (zIdx ms x)) : (∀ x ∈ idsH s0, x ∈ idsH s) ∧ (∀ x ∈ op0, x ∈ op) ∧ ∀ x ∈ idsH s, x ∈ S ∨ Con ms ls i (zIdx ms x) := by
  induction h with
  | refl => exact ⟨fun x hx => hx, fun x hx => hx, hc⟩
  | @step s op h1 h2 ih =>
    obtain ⟨k1, k2, k3⟩ := ih
    have hok := h1.ok hw h0
    obtain ⟨-, hin, hno⟩ := next_ok h2
    obtain ⟨-, hmem⟩ := seesD_ok hok.look (cn ls (zIdx ms (nextI s op wd)))
    have hf := zIdx_lt (hok.find _ hin)
    have hcx : Con ms ls i (zIdx ms (nextI s op wd)) := by
      rcases k3 _ hin with e | e
      · exact absurd (k2 _ (hop _ e)) hno
      · exact e
    refine ⟨fun x hx => (hmem x).2 (Or.inr (k1 x hx)), fun x hx => by simp [k2 x hx], fun x hx => ?_⟩
    rcases (hmem x).1 hx with e | e
    · have hl := web_link hw hf.1 e
      exact Or.inr (hcx.step hf.1 hl.2.1 (by rw [hl.2.2.1]; exact e))
    · exact k3 x e
/-- What the program has seen when it has looked at the first i marks. -/
structure IslOk (ms : List Mk) (ls : List (List Int)) (dd : Int → Int) (i : Nat) (s : List Ht) (op : List Int) : Prop where
  ok : LkOk ms ls dd s op
  opn : ∀ x ∈ idsH s, x ∈ op
  seen : Seen ms ls i (idsH s)
theorem IslOk.start (ms : List Mk) (ls : List (List Int)) (dd : Int → Int) : IslOk ms ls dd 0 [] [] :=
  ⟨LkOk.nil ms ls dd, fun x hx => by simp [idsH] at hx, Seen.start⟩
theorem IslOk.pass {ms : List Mk} {ls : List (List Int)} {dd : Int → Int} {i : Nat} {s : List Ht} {op : List Int} (h : IslOk ms ls dd i s op) (hm : mid ms i ∈ idsH s) : IslOk ms ls dd (i + 1) s op := ⟨h.ok, h.opn, h.seen.pass hm⟩
theorem IslOk.more {ms : List Mk} {ls : List (List Int)} (hw : webB ms ls = true) {dd : Int → Int} {i wd : Nat} {s0 s : List Ht} {op0 op : List Int} (h : IslOk ms ls dd i s0 op0) (hi : i < ms.length) (hwd : ms.length ≤ wd) (ht : LkTo ms ls dd wd (seeD dd s0 (mid ms i)) op0 s op) (he : outTo s op (min s.length wd) < 0) : IslOk ms ls dd (i + 1) s op := by
  have hf := zFind_mid (web_marks hw) hi
  have h0 := h.ok.see (x := mid ms i) (by omega)
  have hok := ht.ok hw h0
  obtain ⟨c1, c2⟩ := look_closed hok hwd he
  obtain ⟨k1, k2, k3⟩ := ht.con hw h0 (i := i) (S := idsH s0) h.opn (fun x hx => by
    rcases seeD_mem.1 hx with e | e
    · right; rw [e, hf.2]; exact Con.refl
    · exact Or.inl e)
  refine ⟨hok, c2, ⟨hok.look.nd, hok.find⟩, c1, fun j hj => ?_, fun x hx => ?_⟩
  · rcases Nat.lt_or_ge j i with e | e
    · exact k1 _ (seeD_mem.2 (Or.inr (h.seen.own j e)))
    · rw [show j = i by omega]; exact k1 _ (seeD_mem.2 (Or.inl rfl))
  · rcases k3 x hx with e | e
    · obtain ⟨j, hj, hc⟩ := h.seen.con x e
      exact ⟨j, by omega, hc⟩
    · exact ⟨i, by omega, e⟩
theorem IslOk.old {ms : List Mk} {ls : List (List Int)} (hw : webB ms ls = true) {dd : Int → Int} {i : Nat} {s : List Ht} {op : List Int} (h : IslOk ms ls dd i s op) (hi : i < ms.length) : newB ms ls i = !hasB (idsH s) (mid ms i) := by
  rcases hb : hasB (idsH s) (mid ms i) with _ | _
  · rcases e : newB ms ls i with _ | _
    · exact absurd ((h.seen.old hw hi).2 e) ((hasB_no _ _).1 hb)
    · rfl
  · exact (h.seen.old hw hi).1 ((hasB_iff _ _).1 hb)
end Go.Proofs.Ytbmljcpeonopmaa
namespace Go.Proofs.Ytbmljcpeonopmaa

theorem insI_len (l : List Int) (n : Int) : (insI l n).length ≤ l.length + 1 := by
  induction l with
  | nil => simp [insI]
  | cons x l ih =>
    simp only [insI]
    split
    · simp; omega
    · split <;> simp
theorem fold_len14 (ids acc : List Int) : (ids.foldl insI acc).length ≤ acc.length + ids.length := by
  induction ids generalizing acc with
  | nil => simp
  | cons x ids ih =>
    have h1 := ih (insI acc x)
    have h2 := insI_len acc x
    simp only [List.foldl_cons, List.length_cons]
    omega
def lnkT (ms : List Mk) (ls : List (List Int)) (ids : List Int) (y : Int) : List (List Int) := (List.range ms.length).map (lnkI ms ls ids y)
theorem lnkT_len (ms : List Mk) (ls : List (List Int)) (ids : List Int) (y : Int) : (lnkT ms ls ids y).length = ms.length := by simp [lnkT]
theorem lnkT_at {ms : List Mk} {ls : List (List Int)} {ids : List Int} {y : Int} {j : Nat} (h : j < ms.length) : (lnkT ms ls ids y)[j]? = some (lnkI ms ls ids y j) := by simp [lnkT, h]
theorem lnkT_nil {ms : List Mk} {ls : List (List Int)} (hl : ls.length = ms.length) (y : Int) : lnkT ms ls [] y = ls := by
  apply List.ext_getElem?
  intro k
  rcases Nat.lt_or_ge k ms.length with h | h
  · rw [lnkT_at h]
    have h' : k < ls.length := by omega
    simp [lnkI, hasB, cn, List.getD, h']
  · rw [List.getElem?_eq_none (by rw [lnkT_len]; exact h), List.getElem?_eq_none (by omega)]
theorem take_mem {ids : List Int} {i : Nat} (h : i < ids.length) (z : Int) : z ∈ ids.take (i + 1) ↔ z ∈ ids.take i ∨ z = nth ids i := by
  rw [List.take_add_one, List.mem_append]
  have e : ids[i]?.toList = [nth ids i] := by simp [nth, List.getD, h]
  rw [e]; simp
theorem nodup_take {ids : List Int} (hd : ids.Nodup) {i : Nat} (h : i < ids.length) : nth ids i ∉ ids.take i := by
  intro hm
  obtain ⟨k, hk, e⟩ := List.mem_iff_getElem.1 hm
  rw [List.length_take] at hk
  rw [List.getElem_take] at e
  have e2 : nth ids i = ids[i] := by simp [nth, List.getD, h]
  rw [e2] at e
  have := List.pairwise_iff_getElem.1 hd k i (by omega) h (by omega)
  exact this e
/-- One more of the nearest. -/
theorem lnkT_step {ms : List Mk} {ls : List (List Int)} (hm : marksB ms = true) {ids : List Int} (hd : ids.Nodup) {i j : Nat} (hi : i < ids.length) (hj : j < ms.length) (hx : nth ids i = mid ms j) (y : Int) :
    lnkI ms ls (ids.take i) y j = cn ls j ∧ (lnkT ms ls (ids.take i) y).set j (cn ls j ++ [y]) = lnkT ms ls (ids.take (i + 1)) y := by
  have hno : hasB (ids.take i) (mid ms j) = false := by rw [hasB_no, ← hx]; exact nodup_take hd hi
  refine ⟨by simp [lnkI, hno], ?_⟩
  apply List.ext_getElem?
  intro k
  rcases Nat.lt_or_ge k ms.length with h | h
  · rw [lnkT_at h]
    by_cases hk : j = k
    · subst hk
      rw [List.getElem?_set_self (by rw [lnkT_len]; exact h)]
      have : hasB (ids.take (i + 1)) (mid ms j) = true := by rw [hasB_iff, take_mem hi]; exact Or.inr hx.symm
      simp [lnkI, this]
    · rw [List.getElem?_set_ne hk, lnkT_at h]
      have : hasB (ids.take (i + 1)) (mid ms k) = hasB (ids.take i) (mid ms k) := by
        rw [Bool.eq_iff_iff, hasB_iff, hasB_iff, take_mem hi, hx]
        constructor
        · rintro (e | e)
          · exact e
          · exact absurd (zmid_inj hm h hj e).symm hk
        · exact Or.inl
      simp [lnkI, this]
  · rw [List.getElem?_eq_none (by rw [List.length_set, lnkT_len]; exact h), List.getElem?_eq_none (by rw [lnkT_len]; exact h)]
theorem lnkT_all (ms : List Mk) (ls : List (List Int)) (ids : List Int) (y : Int) : lnkT ms ls ids y ++ [ownI ids] = lnkL ms ls ids y := rfl
/-- The nearest are each another mark. -/
theorem nearI_nodup {ms : List Mk} (hm : marksB ms = true) (p : List Int) (most : Int) : (nearI ms p most).Nodup := by
  unfold nearI nearL
  split
  · have h1 : ((hitsL ms p).map (fun h => h.1)).Nodup := by
      rw [hitsL, List.map_map, List.Nodup, List.pairwise_map, List.pairwise_iff_getElem]
      intro i j hi hj hij e
      have := zmid_rises hm hij hj
      have e1 : mid ms i = ms[i].1 := by simp [mid, List.getD, hi]
      have e2 : mid ms j = ms[j].1 := by simp [mid, List.getD, hj]
      have e' : ms[i].1 = ms[j].1 := e
      omega
    have h2 : ((sortL (hitsL ms p)).map (fun h => h.1)).Nodup := (((sortL_perm (hitsL ms p)).map (fun h => h.1)).nodup_iff).2 h1
    rw [List.map_take]
    exact List.Nodup.sublist (List.take_sublist _ _) h2
  · simp
theorem near_len14 (ms : List Mk) (q : List Int) (k : Int) : (nearL ms q k).length ≤ 60 := by
  unfold nearL
  split
  · rename_i h
    rw [List.length_take]
    have : countB k = true := h.2
    simp [countB] at this
    omega
  · simp
end Go.Proofs.Ytbmljcpeonopmaa
namespace Go.Proofs.Ytbmljcpeonopmaa

def AheadAll (l : List Ht) : Prop := l.Pairwise (fun a b => aheadB a b = true)
theorem ahead_of_le {a b : Ht} (h : leH a b) (hne : a.1 ≠ b.1) : aheadB a b = true := by rw [aheadB_iff]; unfold leH at h; omega
theorem sorted_ahead {l : List Ht} (hs : SortedH l) (hd : l.Pairwise (fun a b => a.1 ≠ b.1)) : AheadAll l := by
  unfold SortedH at hs; unfold AheadAll
  induction l with
  | nil => exact List.Pairwise.nil
  | cons x xs ih =>
    rw [List.pairwise_cons] at *
    exact ⟨fun y hy => ahead_of_le (hs.1 y hy) (hd.1 y hy), ih hs.2 hd.2⟩
theorem perm_distinct {l m : List Ht} (hp : l.Perm m) (h : l.Pairwise (fun a b => a.1 ≠ b.1)) : m.Pairwise (fun a b => a.1 ≠ b.1) :=
  (hp.pairwise_iff (fun h e => h e.symm)).1 h
theorem marks_distinct {ms : List Mk} (hm : marksB ms = true) (q : List Int) : (hitsL ms q).Pairwise (fun a b => a.1 ≠ b.1) := by
  rw [List.pairwise_iff_getElem]
  intro i j hi hj hij
  simp only [hitsL, List.length_map] at hi hj
  have hr : mid ms i < mid ms j := by
    clear hi
    induction j with
    | zero => omega
    | succ j ih =>
      have h1 := ((mOkAt_iff ms (j + 1)).1 (marksB_at hm hj)).2.2.2.2
      simp at h1
      rcases Nat.lt_or_ge i j with h2 | h2
      · have := ih (by omega) h2; omega
      · rw [show i = j by omega]; exact h1
  simp only [hitsL, List.getElem_map, hitF]
  simp only [mid, List.getD, List.getElem?_eq_getElem hi, List.getElem?_eq_getElem hj, Option.getD_some] at hr
  omega
theorem told_two {ms : List Mk} {q : List Int} (ht : toldB ms q = true) {i : Nat} (hi : i < ms.length) : twoB (mat ms i) q = true := by
  simp [toldB] at ht
  obtain ⟨⟨hm, hq⟩, hl⟩ := ht
  have h1 := (mOkAt_iff ms i).1 (marksB_at hm hi)
  have h0 : (mat ms 0).length = q.length := by
    rcases hl with h | h
    · subst h; simp at hi
    · exact h
  exact twoB_true h1.2.2.1 hq (by omega)
theorem told_marks {ms : List Mk} {q : List Int} (ht : toldB ms q = true) : marksB ms = true := by
  simp [toldB] at ht; exact ht.1.1
theorem farV_nonneg {a b : List Int} (h : twoB a b = true) : 0 ≤ farV a b := by
  have hb := (twoB_of h)
  have := sumTo_le (sqF a b) 0 4000000 (sqF_bd hb.1 hb.2.1) a.length
  simp [farV, h]; omega
theorem hit_good {ms : List Mk} {q : List Int} (ht : toldB ms q = true) {x : Ht} (hx : x ∈ hitsL ms q) : 1 ≤ x.1 ∧ 0 ≤ x.2 ∧ ∃ i, i < ms.length ∧ x = (mid ms i, farV (mat ms i) q) := by
  obtain ⟨m, hm, rfl⟩ := List.mem_map.1 hx
  obtain ⟨i, hi, rfl⟩ := List.getElem_of_mem hm
  have e1 : mid ms i = ms[i].1 := by simp [mid, List.getD, hi]
  have e2 : mat ms i = ms[i].2 := by simp [mat, List.getD, hi]
  have h1 := (mOkAt_iff ms i).1 (marksB_at (told_marks ht) hi)
  refine ⟨by unfold hitF; omega, ?_, i, hi, by unfold hitF; rw [e1, e2]⟩
  have := farV_nonneg (told_two ht hi)
  rw [e2] at this
  exact this
theorem hitsB_of {l : List Ht} (hs : AheadAll l) (hg : ∀ x ∈ l, 1 ≤ x.1 ∧ 0 ≤ x.2) : hitsB l = true := by
  refine hitsB_mk fun i hi => ?_
  have hm : hnth l i ∈ l := by simp [hnth, List.getD, hi]
  have := hg _ hm
  simp only [hitOkAt, Bool.and_eq_true, decide_eq_true_eq, Bool.or_eq_true]
  refine ⟨⟨this.1, this.2⟩, ?_⟩
  rcases Nat.eq_zero_or_pos i with h0 | h0
  · exact Or.inl h0
  · right
    have := (List.pairwise_iff_getElem.1 hs) (i - 1) i (by omega) hi (by omega)
    simpa [hnth, List.getD, hi, show i - 1 < l.length by omega] using this
theorem all_ahead {ms : List Mk} {q : List Int} (ht : toldB ms q = true) : AheadAll (sortL (hitsL ms q)) :=
  sorted_ahead (sortL_sorted _) (perm_distinct (sortL_perm _).symm (marks_distinct (told_marks ht) q))
theorem AheadAll.take {l : List Ht} (h : AheadAll l) (k : Nat) : AheadAll (l.take k) := List.Pairwise.sublist (List.take_sublist k l) h
theorem AheadAll.filter {l : List Ht} (h : AheadAll l) (p : Ht → Bool) : AheadAll (l.filter p) := List.Pairwise.sublist List.filter_sublist h
theorem near_mem {ms : List Mk} {q : List Int} {k : Int} {x : Ht} (h : x ∈ nearL ms q k) : toldB ms q = true ∧ x ∈ hitsL ms q := by
  unfold nearL at h
  split at h
  · rename_i hc; exact ⟨hc.1, (sortL_perm _).mem_iff.1 (List.mem_of_mem_take h)⟩
  · cases h
theorem within_mem {ms : List Mk} {q : List Int} {most : Int} {x : Ht} (h : x ∈ withinL ms q most) : toldB ms q = true ∧ x ∈ hitsL ms q ∧ x.2 ≤ most := by
  unfold withinL at h
  split at h
  · rename_i hc
    have := List.mem_filter.1 h
    exact ⟨hc.1, (sortL_perm _).mem_iff.1 this.1, by simpa using this.2⟩
  · cases h
theorem near_ok (ms : List Mk) (q : List Int) (k : Int) : hitsB (nearL ms q k) = true := by
  refine hitsB_of ?_ (fun x hx => by have h := near_mem hx; have := hit_good h.1 h.2; exact ⟨this.1, this.2.1⟩)
  unfold nearL
  split
  · rename_i hc; exact (all_ahead hc.1).take _
  · exact List.Pairwise.nil
theorem within_ok (ms : List Mk) (q : List Int) (most : Int) : hitsB (withinL ms q most) = true := by
  refine hitsB_of ?_ (fun x hx => by have h := within_mem hx; have := hit_good h.1 h.2.1; exact ⟨this.1, this.2.1⟩)
  unfold withinL
  split
  · rename_i hc; exact (all_ahead hc.1).filter _
  · exact List.Pairwise.nil

/-- At or ahead of the last. -/
def uptoB (l x : Ht) : Bool := decide (x.2 < l.2) || (decide (x.2 = l.2) && decide (x.1 ≤ l.1))
theorem upto_le (l x : Ht) : uptoB l x = true ↔ leH x l := by unfold uptoB leH; simp
theorem count_take {ss : List Ht} (hs : AheadAll ss) (m : Nat) (hm : m < ss.length) : ss.countP (uptoB (hnth ss m)) = m + 1 := by
  have hsplit : ss = ss.take (m + 1) ++ ss.drop (m + 1) := (List.take_append_drop _ _).symm
  have hat : ∀ i, i < ss.length → hnth ss i = ss[i]! := fun i hi => by simp [hnth, List.getD, hi]
  have h1 : (ss.take (m + 1)).countP (uptoB (hnth ss m)) = m + 1 := by
    have : (ss.take (m + 1)).countP (uptoB (hnth ss m)) = (ss.take (m + 1)).length := by
      rw [List.countP_eq_length]
      intro x hx
      obtain ⟨i, hi, rfl⟩ := List.getElem_of_mem hx
      have hi2 : i < m + 1 ∧ i < ss.length := by simp at hi; omega
      rw [upto_le]
      have e : hnth ss m = ss[m] := by simp [hnth, List.getD, hm]
      rw [e, List.getElem_take]
      rcases Nat.lt_or_ge i m with h | h
      · exact leH_of_ahead ((List.pairwise_iff_getElem.1 hs) i m hi2.2 hm h)
      · have : i = m := by omega
        subst this; exact leH_refl _
    rw [this]; simp; omega
  have h2 : (ss.drop (m + 1)).countP (uptoB (hnth ss m)) = 0 := by
    rw [List.countP_eq_zero]
    intro x hx
    obtain ⟨i, hi, rfl⟩ := List.getElem_of_mem hx
    have hi2 : m + 1 + i < ss.length := by simp at hi; omega
    rw [List.getElem_drop]
    intro hc
    rw [upto_le] at hc
    have e : hnth ss m = ss[m] := by simp [hnth, List.getD, hm]
    rw [e] at hc
    have := (List.pairwise_iff_getElem.1 hs) m (m + 1 + i) hm hi2 (by omega)
    rw [aheadB_iff] at this
    unfold leH at hc
    omega
  rw [hsplit, List.countP_append, ← hsplit, h1, h2]

end Go.Proofs.Ytbmljcpeonopmaa
namespace Go.Proofs.Ytbmljcpeonopmaa

/-- Two lists in strict order with the same hits are one. -/
theorem ahead_unique {l m : List Ht} (hl : AheadAll l) (hm : AheadAll m) (h : ∀ x, x ∈ l ↔ x ∈ m) : l = m := by
  unfold AheadAll at *
  induction l generalizing m with
  | nil =>
    cases m with
    | nil => rfl
    | cons y ys => exact absurd ((h y).2 (List.mem_cons_self ..)) (by simp)
  | cons x xs ih =>
    cases m with
    | nil => exact absurd ((h x).1 (List.mem_cons_self ..)) (by simp)
    | cons y ys =>
      rw [List.pairwise_cons] at hl hm
      have irr : ∀ a b : Ht, aheadB a b = true → aheadB b a = true → False := fun a b h1 h2 => by rw [aheadB_iff] at h1 h2; omega
      have hxy : x = y := by
        rcases List.mem_cons.1 ((h x).1 (List.mem_cons_self ..)) with e | e
        · exact e
        · rcases List.mem_cons.1 ((h y).2 (List.mem_cons_self ..)) with e2 | e2
          · exact e2.symm
          · exact absurd (hm.1 x e) (fun h1 => irr _ _ h1 (hl.1 y e2))
      subst hxy
      rw [ih hl.2 hm.2 (fun z => by
        have hz := h z
        simp only [List.mem_cons] at hz
        constructor
        · intro hzx
          rcases hz.1 (Or.inr hzx) with e | e
          · subst e; exact absurd (hl.1 z hzx) (fun h1 => irr _ _ h1 h1)
          · exact e
        · intro hzy
          rcases hz.2 (Or.inr hzy) with e | e
          · subst e; exact absurd (hm.1 z hzy) (fun h1 => irr _ _ h1 h1)
          · exact e)]
theorem onceG_sub (ids : List Int) (l : List Ht) : (onceG ids l).Sublist l := by
  induction l generalizing ids with
  | nil => exact List.Sublist.refl _
  | cons x xs ih =>
    unfold onceG
    split
    · exact (ih ids).cons x
    · exact (ih _).cons_cons x
theorem onceG_new (ids : List Int) (l : List Ht) : ∀ x ∈ onceG ids l, x.1 ∉ ids := by
  induction l generalizing ids with
  | nil => intro x hx; cases hx
  | cons y ys ih =>
    intro x hx
    unfold onceG at hx
    split at hx
    · exact ih ids x hx
    · rename_i hb
      rcases List.mem_cons.1 hx with e | e
      · subst e; intro hc; exact hb (by simpa [hasB] using hc)
      · intro hc; exact ih _ x e (List.mem_append_left _ hc)
theorem onceG_distinct (ids : List Int) (l : List Ht) : (onceG ids l).Pairwise (fun a b => a.1 ≠ b.1) := by
  induction l generalizing ids with
  | nil => exact List.Pairwise.nil
  | cons y ys ih =>
    unfold onceG
    split
    · exact ih ids
    · refine List.pairwise_cons.2 ⟨fun z hz e => ?_, ih _⟩
      exact onceG_new _ ys z hz (by rw [← e]; exact List.mem_append_right _ (List.mem_singleton.2 rfl))
theorem onceG_has (ids : List Int) (l : List Ht) (x : Ht) (hx : x ∈ l) : x.1 ∈ ids ∨ ∃ y ∈ onceG ids l, y.1 = x.1 := by
  induction l generalizing ids with
  | nil => cases hx
  | cons y ys ih =>
    unfold onceG
    split
    · rename_i hb
      rcases List.mem_cons.1 hx with e | e
      · subst e; left; simpa [hasB] using hb
      · exact ih ids e
    · rcases List.mem_cons.1 hx with e | e
      · subst e; exact Or.inr ⟨x, List.mem_cons_self .., rfl⟩
      · rcases ih (ids ++ [y.1]) e with h | ⟨z, hz, ez⟩
        · rcases List.mem_append.1 h with h | h
          · exact Or.inl h
          · exact Or.inr ⟨y, List.mem_cons_self .., (List.mem_singleton.1 h).symm⟩
        · exact Or.inr ⟨z, List.mem_cons_of_mem _ hz, ez⟩
/-- A strict order's part that has its first ones has them first. -/
theorem take_part {S U : List Ht} (hS : AheadAll S) (hU : AheadAll U) (hsub : ∀ x ∈ U, x ∈ S) (k : Nat) (hfst : ∀ x ∈ S.take k, x ∈ U) : U.take k = S.take k := by
  have e : U = S.filter (fun x => decide (x ∈ U)) := ahead_unique hU (hS.filter _) (fun x => by
    simp only [List.mem_filter, decide_eq_true_eq]
    exact ⟨fun h => ⟨hsub x h, h⟩, fun h => h.2⟩)
  have e2 : S.filter (fun x => decide (x ∈ U)) = S.take k ++ (S.drop k).filter (fun x => decide (x ∈ U)) := by
    conv => lhs; rw [← List.take_append_drop k S, List.filter_append]
    congr 1
    rw [List.filter_eq_self]
    intro x hx
    simpa using hfst x hx
  rcases Nat.lt_or_ge S.length k with h | h
  · have eS : S.take k = S := List.take_of_length_le (by omega)
    rw [eS] at hfst
    have : U = S := ahead_unique hU hS (fun x => ⟨hsub x, hfst x⟩)
    rw [this]
  · conv => lhs; rw [e, e2]
    rw [List.take_append_of_le_length (by simp; omega), List.take_of_length_le (by simp; omega)]
theorem merged_part {S P : List Ht} (hS : AheadAll S) (hd : S.Pairwise (fun a b => a.1 ≠ b.1)) (hsub : ∀ x ∈ P, x ∈ S) (k : Nat) (hfst : ∀ x ∈ S.take k, x ∈ P) : (onceL (sortL P)).take k = S.take k := by
  have hsame : ∀ a ∈ S, ∀ b ∈ S, a.1 = b.1 → a = b := fun a ha b hb e => by
    obtain ⟨i, hi, rfl⟩ := List.getElem_of_mem ha
    obtain ⟨j, hj, rfl⟩ := List.getElem_of_mem hb
    rcases Nat.lt_trichotomy i j with h | h | h
    · exact absurd e ((List.pairwise_iff_getElem.1 hd) i j hi hj h)
    · subst h; rfl
    · exact absurd e.symm ((List.pairwise_iff_getElem.1 hd) j i hj hi h)
  have hin : ∀ x ∈ onceL (sortL P), x ∈ P := fun x hx => (sortL_perm P).mem_iff.1 ((onceG_sub [] _).subset hx)
  refine take_part hS ?_ (fun x hx => hsub x (hin x hx)) k (fun x hx => ?_)
  · refine sorted_ahead ?_ (onceG_distinct [] _)
    exact List.Pairwise.sublist (onceG_sub [] _) (sortL_sorted P)
  · have hxP := hfst x hx
    rcases onceG_has [] (sortL P) x ((sortL_perm P).mem_iff.2 hxP) with h | ⟨y, hy, e⟩
    · cases h
    · have : y = x := hsame y (hsub y (hin y hy)) x (hsub x hxP) e
      rw [← this]; exact hy
/-- The first of all that are of a part are among the first of the part. -/
theorem first_part {S T : List Ht} (hS : AheadAll S) (hT : AheadAll T) (hsub : ∀ x ∈ T, x ∈ S) (k : Nat) {x : Ht} (hx : x ∈ S.take k) (hxT : x ∈ T) : x ∈ T.take k := by
  have e : T = S.filter (fun x => decide (x ∈ T)) := ahead_unique hT (hS.filter _) (fun x => by
    simp only [List.mem_filter, decide_eq_true_eq]
    exact ⟨fun h => ⟨hsub x h, h⟩, fun h => h.2⟩)
  have e2 : S.filter (fun x => decide (x ∈ T)) = (S.take k).filter (fun x => decide (x ∈ T)) ++ (S.drop k).filter (fun x => decide (x ∈ T)) := by
    conv => lhs; rw [← List.take_append_drop k S, List.filter_append]
  have hl : ((S.take k).filter (fun x => decide (x ∈ T))).length ≤ k := Nat.le_trans (List.length_filter_le _ _) (by simp; omega)
  have hm : x ∈ (S.take k).filter (fun x => decide (x ∈ T)) := List.mem_filter.2 ⟨hx, by simpa using hxT⟩
  rw [e, e2, List.take_append, List.take_of_length_le hl]
  exact List.mem_append_left _ hm

end Go.Proofs.Ytbmljcpeonopmaa
namespace Go.Proofs.Ytbmljcpeonopmaa

def swapL (l : List Ht) (i j : Nat) : List Ht := (l.set i (hnth l j)).set j (hnth l i)
theorem swapL_length (l : List Ht) (i j : Nat) : (swapL l i j).length = l.length := by simp [swapL]
theorem hnth_set (l : List Ht) (i k : Nat) (x : Ht) (hk : k < l.length) : hnth (l.set i x) k = if k = i then x else hnth l k := by
  unfold hnth
  by_cases h : k = i
  · subst h; simp [List.getD, hk]
  · simp [List.getD, h, Ne.symm h]
theorem swapL_at (l : List Ht) (i j k : Nat) (_hi : i < l.length) (_hj : j < l.length) (hk : k < l.length) : hnth (swapL l i j) k = if k = j then hnth l i else if k = i then hnth l j else hnth l k := by
  unfold swapL
  rw [hnth_set _ _ _ _ (by simp; exact hk)]
  split
  · rfl
  · rw [hnth_set _ _ _ _ hk]
theorem swapL_perm (l : List Ht) (i j : Nat) (hi : i < l.length) (hj : j < l.length) : (swapL l i j).Perm l := by
  have e1 : hnth l j = l[j] := by simp [hnth, List.getD, hj]
  have e2 : hnth l i = l[i] := by simp [hnth, List.getD, hi]
  unfold swapL
  rw [e1, e2]
  exact List.set_set_perm hi hj
def par (c : Nat) : Nat := (c - 1) / 2
/-- The first n are a heap. -/
def HeapN (l : List Ht) (n : Nat) : Prop := ∀ c, 0 < c → c < n → leH (hnth l (par c)) (hnth l c)
/-- A heap but for what stands above j. -/
def UpAt (l : List Ht) (n j : Nat) : Prop := (∀ c, 0 < c → c < n → c ≠ j → leH (hnth l (par c)) (hnth l c)) ∧ ∀ c, 0 < c → c < n → par c = j → 0 < j → leH (hnth l (par j)) (hnth l c)
/-- A heap but for what stands below i. -/
def DownAt (l : List Ht) (n i : Nat) : Prop := (∀ c, 0 < c → c < n → par c ≠ i → leH (hnth l (par c)) (hnth l c)) ∧ ∀ c, 0 < c → c < n → par c = i → 0 < i → leH (hnth l (par i)) (hnth l c)

theorem heap_first {l : List Ht} {n : Nat} (h : HeapN l n) (c : Nat) (hc : c < n) : leH (hnth l 0) (hnth l c) := by
  induction c using Nat.strongRecOn with
  | _ c ih =>
    rcases Nat.eq_zero_or_pos c with h0 | h0
    · subst h0; exact leH_refl _
    · have hp : par c < c := by unfold par; omega
      exact leH_trans (ih (par c) hp (by omega)) (h c h0 hc)
theorem up_done {l : List Ht} {n j : Nat} (h : UpAt l n j) (hj : j = 0 ∨ leH (hnth l (par j)) (hnth l j)) : HeapN l n := fun c h0 hc => by
  by_cases e : c = j
  · subst e
    rcases hj with hj | hj
    · omega
    · exact hj
  · exact h.1 c h0 hc e
theorem up_step {l : List Ht} {n j : Nat} (h : UpAt l n j) (hn : n ≤ l.length) (h0 : 0 < j) (hj : j < n) (ha : aheadB (hnth l j) (hnth l (par j)) = true) : UpAt (swapL l (par j) j) n (par j) := by
  have hp : par j < j := by unfold par; omega
  have hle := leH_of_ahead ha
  have at' : ∀ k, k < n → hnth (swapL l (par j) j) k = if k = j then hnth l (par j) else if k = par j then hnth l j else hnth l k := fun k hk => swapL_at l (par j) j k (by omega) (by omega) (by omega)
  refine ⟨fun c hc0 hc hne => ?_, fun c hc0 hc hpc hp0 => ?_⟩
  · have hpc : par c < c := by unfold par; omega
    rw [at' c hc, at' (par c) (by omega)]
    by_cases e1 : c = j
    · subst e1
      rw [if_pos rfl, if_neg (by omega), if_pos rfl]
      exact hle
    · rw [if_neg e1, if_neg hne]
      by_cases e2 : par c = j
      · rw [if_pos e2]
        exact h.2 c hc0 hc e2 h0
      · rw [if_neg e2]
        by_cases e3 : par c = par j
        · rw [if_pos e3]
          have := h.1 c hc0 hc e1
          rw [e3] at this
          exact leH_trans hle this
        · rw [if_neg e3]
          exact h.1 c hc0 hc e1
  · have hpp : par (par j) < par j := by unfold par at *; omega
    have hpc2 : par c < c := by unfold par; omega
    rw [at' c hc, at' (par (par j)) (by omega), if_neg (by omega), if_neg (by omega)]
    have hgp := h.1 (par j) hp0 (by omega) (by omega)
    by_cases e1 : c = j
    · rw [if_pos e1]; exact hgp
    · rw [if_neg e1, if_neg (by omega)]
      have := h.1 c hc0 hc e1
      rw [hpc] at this
      exact leH_trans hgp this
theorem up_start {l : List Ht} (h : HeapN l l.length) (x : Ht) : UpAt (l ++ [x]) (l.length + 1) l.length := by
  have at' : ∀ k, k < l.length → hnth (l ++ [x]) k = hnth l k := fun k hk => by simp [hnth, List.getD, List.getElem?_append_left hk]
  refine ⟨fun c h0 hc hne => ?_, fun c h0 hc hp h1 => ?_⟩
  · have hp : par c < c := by unfold par; omega
    rw [at' c (by omega), at' (par c) (by omega)]
    exact h c h0 (by omega)
  · exfalso; unfold par at hp; omega
theorem down_done {l : List Ht} {n i : Nat} (h : DownAt l n i) (hc : ∀ c, 0 < c → c < n → par c = i → leH (hnth l i) (hnth l c)) : HeapN l n := fun c h0 h1 => by
  by_cases e : par c = i
  · rw [e]; exact hc c h0 h1 e
  · exact h.1 c h0 h1 e
theorem down_step {l : List Ht} {n i j : Nat} (h : DownAt l n i) (hn : n ≤ l.length) (hj : j < n) (hj0 : 0 < j) (hp : par j = i) (hmin : ∀ c, 0 < c → c < n → par c = i → leH (hnth l j) (hnth l c)) (ha : aheadB (hnth l j) (hnth l i) = true) : DownAt (swapL l i j) n j := by
  have hij : i < j := by rw [← hp]; unfold par; omega
  have hle := leH_of_ahead ha
  have at' : ∀ k, k < n → hnth (swapL l i j) k = if k = j then hnth l i else if k = i then hnth l j else hnth l k := fun k hk => swapL_at l i j k (by omega) (by omega) (by omega)
  refine ⟨fun c hc0 hc hne => ?_, fun c hc0 hc hpc hp0 => ?_⟩
  · have hpc : par c < c := by unfold par; omega
    rw [at' c hc, at' (par c) (by omega), if_neg hne]
    by_cases e1 : c = j
    · rw [if_pos e1, if_pos (by rw [e1]; exact hp)]; exact hle
    · rw [if_neg e1]
      by_cases e2 : c = i
      · rw [if_pos e2]
        have e3 : par c ≠ i := by omega
        rw [if_neg e3]
        have := h.2 j hj0 hj hp (by omega)
        rw [← e2] at this
        exact this
      · rw [if_neg e2]
        by_cases e3 : par c = i
        · rw [if_pos e3]; exact hmin c hc0 hc e3
        · rw [if_neg e3]; exact h.1 c hc0 hc e3
  · have hpc2 : par c < c := by unfold par; omega
    rw [hp, at' c hc, at' i (by omega), if_neg (show ¬ c = j by omega), if_neg (show ¬ c = i by omega), if_neg (show ¬ i = j by omega), if_pos rfl]
    have := h.1 c hc0 hc (by omega)
    rw [hpc] at this
    exact this
theorem down_start {l : List Ht} {n : Nat} (h : HeapN l (n + 1)) (hn : n < l.length) : DownAt (swapL l 0 n) n 0 := by
  have at' : ∀ k, k < n → hnth (swapL l 0 n) k = if k = n then hnth l 0 else if k = 0 then hnth l n else hnth l k := fun k hk => swapL_at l 0 n k (by omega) (by omega) (by omega)
  refine ⟨fun c h0 hc hne => ?_, fun c h0 hc hp h1 => by omega⟩
  have hpc : par c < c := by unfold par; omega
  rw [at' c hc, at' (par c) (by omega), if_neg (show ¬ c = n by omega), if_neg (show ¬ c = 0 by omega), if_neg (show ¬ par c = n by omega), if_neg hne]
  exact h c h0 (by omega)

/-- From s on the first n are a heap. -/
def HeapS (s : Nat) (l : List Ht) (n : Nat) : Prop := ∀ c, 0 < c → c < n → s ≤ par c → leH (hnth l (par c)) (hnth l c)
/-- From s on a heap but for what stands below i. -/
def DownS (s : Nat) (l : List Ht) (n i : Nat) : Prop := (∀ c, 0 < c → c < n → s ≤ par c → par c ≠ i → leH (hnth l (par c)) (hnth l c)) ∧ ∀ c, 0 < c → c < n → par c = i → 0 < i → s ≤ par i → leH (hnth l (par i)) (hnth l c)
theorem heapS_zero {l : List Ht} {n : Nat} (h : HeapS 0 l n) : HeapN l n := fun c h0 hc => h c h0 hc (Nat.zero_le _)
theorem heapS_half (l : List Ht) (n : Nat) : HeapS (n / 2) l n := fun c h0 hc hp => by exfalso; unfold par at hp; omega
theorem downS_init {l : List Ht} {n i : Nat} (h : HeapS (i + 1) l n) : DownS i l n i :=
  ⟨fun c h0 hc hp hne => h c h0 hc (by omega), fun c h0 hc hp hi hs => by exfalso; unfold par at hs; omega⟩
theorem downS_pop {l : List Ht} {n : Nat} (h : HeapN l (n + 1)) (hn : n < l.length) : DownS 0 (swapL l 0 n) n 0 := by
  obtain ⟨h1, h2⟩ := down_start h hn
  exact ⟨fun c h0 hc _ hne => h1 c h0 hc hne, fun c h0 hc hp hi _ => h2 c h0 hc hp hi⟩
theorem downS_done {s : Nat} {l : List Ht} {n i : Nat} (h : DownS s l n i) (hc : ∀ c, 0 < c → c < n → par c = i → leH (hnth l i) (hnth l c)) : HeapS s l n := fun c h0 h1 h2 => by
  by_cases e : par c = i
  · rw [e]; exact hc c h0 h1 e
  · exact h.1 c h0 h1 h2 e
theorem downS_step {s : Nat} {l : List Ht} {n i j : Nat} (h : DownS s l n i) (hs : s ≤ i) (hn : n ≤ l.length) (hj : j < n) (hj0 : 0 < j) (hp : par j = i) (hmin : ∀ c, 0 < c → c < n → par c = i → leH (hnth l j) (hnth l c)) (ha : aheadB (hnth l j) (hnth l i) = true) : DownS s (swapL l i j) n j := by
  have hij : i < j := by rw [← hp]; unfold par; omega
  have hle := leH_of_ahead ha
  have at' : ∀ k, k < n → hnth (swapL l i j) k = if k = j then hnth l i else if k = i then hnth l j else hnth l k := fun k hk => swapL_at l i j k (by omega) (by omega) (by omega)
  refine ⟨fun c hc0 hc hsc hne => ?_, fun c hc0 hc hpc hp0 hsp => ?_⟩
  · have hpc : par c < c := by unfold par; omega
    rw [at' c hc, at' (par c) (by omega), if_neg hne]
    by_cases e1 : c = j
    · rw [if_pos e1, if_pos (by rw [e1]; exact hp)]; exact hle
    · rw [if_neg e1]
      by_cases e2 : c = i
      · rw [if_pos e2]
        have e3 : par c ≠ i := by omega
        rw [if_neg e3]
        have := h.2 j hj0 hj hp (by omega) (by rw [← e2]; exact hsc)
        rw [← e2] at this
        exact this
      · rw [if_neg e2]
        by_cases e3 : par c = i
        · rw [if_pos e3]; exact hmin c hc0 hc e3
        · rw [if_neg e3]; exact h.1 c hc0 hc hsc e3
  · have hpc2 : par c < c := by unfold par; omega
    rw [hp, at' c hc, at' i (by omega), if_neg (show ¬ c = j by omega), if_neg (show ¬ c = i by omega), if_neg (show ¬ i = j by omega), if_pos rfl]
    have := h.1 c hc0 hc (by omega) (by omega)
    rw [hpc] at this
    exact this
/-- The children of i. -/
theorem kids (c i : Nat) (h0 : 0 < c) (hp : par c = i) : c = 2 * i + 1 ∨ c = 2 * i + 2 := by unfold par at hp; omega
theorem par_left (i : Nat) : par (2 * i + 1) = i := by unfold par; omega
theorem par_right (i : Nat) : par (2 * i + 2) = i := by unfold par; omega

end Go.Proofs.Ytbmljcpeonopmaa
namespace Go.Proofs.Ytbmljcpeonopmaa
open Go

def WalkOk (ms : List Mk) (ls : List (List Int)) (q : List Int) : List Int → Prop
  | [] => False
  | [y] => 0 ≤ zFind ms y ∧ stepW ms ls q y = y
  | y :: z :: l => 0 ≤ zFind ms y ∧ z = stepW ms ls q y ∧ z ≠ y ∧ WalkOk ms ls q (z :: l)
theorem walkG_head (ms : List Mk) (ls : List (List Int)) (q : List Int) (x : Int) : ∃ l, walkG ms ls q x = x :: l := by
  unfold walkG
  cases rkW ms q x with
  | zero => exact ⟨_, rfl⟩
  | succ n =>
    simp only [walkF]
    split
    · exact ⟨_, rfl⟩
    · exact ⟨_, rfl⟩
theorem walkG_ok {ms : List Mk} {ls : List (List Int)} {q : List Int} (h : webB ms ls = true) : ∀ (n : Nat) (x : Int), rkW ms q x ≤ n → 0 ≤ zFind ms x → WalkOk ms ls q (walkG ms ls q x) := by
  intro n
  induction n with
  | zero =>
    intro x hr hx
    by_cases hs : stepW ms ls q x = x
    · rw [walkG_end hs]; exact ⟨hx, hs⟩
    · have := step_rk (q := q) h hx hs
      omega
  | succ n ih =>
    intro x hr hx
    by_cases hs : stepW ms ls q x = x
    · rw [walkG_end hs]; exact ⟨hx, hs⟩
    · have h1 := step_rk (q := q) h hx hs
      have h2 := ih (stepW ms ls q x) (by omega) (step_find h hx)
      rw [walkG_step h hx hs]
      obtain ⟨l, e⟩ := walkG_head ms ls q (stepW ms ls q x)
      rw [e] at h2 ⊢
      exact ⟨hx, rfl, hs, h2⟩
/-- By index. -/
theorem walk_at {ms : List Mk} {ls : List (List Int)} {q : List Int} : ∀ (l : List Int), WalkOk ms ls q l → ∀ i, i < l.length → 0 ≤ zFind ms (nth l i) ∧ (i + 1 < l.length → nth l (i + 1) = stepW ms ls q (nth l i) ∧ nth l (i + 1) ≠ nth l i) ∧ (i + 1 = l.length → stepW ms ls q (nth l i) = nth l i) := by
  intro l
  induction l with
  | nil => intro h; exact h.elim
  | cons y l ih =>
    intro h i hi
    cases l with
    | nil =>
      have : i = 0 := by simp at hi; exact hi
      subst this
      exact ⟨h.1, fun h' => by simp at h', fun _ => h.2⟩
    | cons z l =>
      cases i with
      | zero => exact ⟨h.1, fun _ => ⟨h.2.1, h.2.2.1⟩, fun h' => by simp at h'⟩
      | succ i =>
        obtain ⟨a, b, c⟩ := ih h.2.2.2 i (by simpa using hi)
        exact ⟨a, fun h' => b (by simpa using h'), fun h' => c (by simpa using h')⟩
/-- A step: over a link, in both its ways, and ahead. -/
theorem walk_over {ms : List Mk} {ls : List (List Int)} {q : List Int} (h : webB ms ls = true) {x : Int} (hx : 0 ≤ zFind ms x) (hs : stepW ms ls q x ≠ x) : aheadB (hitOf ms q (stepW ms ls q x)) (hitOf ms q x) = true ∧ x ∈ cn ls (zIdx ms (stepW ms ls q x)) := by
  obtain ⟨h1, h2, h3⟩ := stepW_ok ms ls q x
  rcases h1 with e | ⟨hm, ha⟩
  · exact absurd e hs
  · obtain ⟨a, b, c⟩ := zIdx_lt hx
    obtain ⟨d1, d2, d3, d4, d5⟩ := web_link h a hm
    rw [c] at d5
    exact ⟨ha, d5⟩
/-- At the end none that is linked is ahead. -/
theorem walk_still {ms : List Mk} {ls : List (List Int)} {q : List Int} {x : Int} (hs : stepW ms ls q x = x) {y : Int} (hy : y ∈ cn ls (zIdx ms x)) : leH (hitOf ms q x) (hitOf ms q y) := by
  obtain ⟨h1, h2, h3⟩ := stepW_ok ms ls q x
  have := h3 y hy
  rw [hs] at this
  exact this
/-- A walk that is told, by index. -/
theorem walkL_at {ms : List Mk} {ls : List (List Int)} {q : List Int} {fr : Int} (ht : toldW ms ls fr q = true) : nth (walkL ms ls fr q) 0 = fr ∧ 0 < (walkL ms ls fr q).length ∧ ∀ i, i < (walkL ms ls fr q).length → 0 ≤ zFind ms (nth (walkL ms ls fr q) i) ∧
    (i + 1 < (walkL ms ls fr q).length → aheadB (hitOf ms q (nth (walkL ms ls fr q) (i + 1))) (hitOf ms q (nth (walkL ms ls fr q) i)) = true ∧ nth (walkL ms ls fr q) i ∈ cn ls (zIdx ms (nth (walkL ms ls fr q) (i + 1)))) ∧
    (i + 1 = (walkL ms ls fr q).length → ∀ y ∈ cn ls (zIdx ms (nth (walkL ms ls fr q) i)), leH (hitOf ms q (nth (walkL ms ls fr q) i)) (hitOf ms q y)) := by
  have hh : webB ms ls = true ∧ 0 ≤ zFind ms fr := by
    unfold toldW at ht
    simp only [Bool.and_eq_true, decide_eq_true_eq] at ht
    exact ⟨ht.1.1, ht.2⟩
  have e : walkL ms ls fr q = walkG ms ls q fr := by unfold walkL; rw [if_pos ht]
  rw [e]
  obtain ⟨l, el⟩ := walkG_head ms ls q fr
  refine ⟨by rw [el]; rfl, by rw [el]; simp, fun i hi => ?_⟩
  obtain ⟨a, b, c⟩ := walk_at _ (walkG_ok hh.1 _ fr (Nat.le_refl _) hh.2) i hi
  refine ⟨a, fun h1 => ?_, fun h1 y hy => walk_still (c h1) hy⟩
  obtain ⟨b1, b2⟩ := b h1
  rw [b1] at b2 ⊢
  exact walk_over hh.1 a b2

end Go.Proofs.Ytbmljcpeonopmaa
