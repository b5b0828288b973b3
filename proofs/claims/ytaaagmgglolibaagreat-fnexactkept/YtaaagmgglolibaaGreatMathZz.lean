/-
  Plain mathematics for the laws of chapter 1 (no program is named here): what a point is, the sums over two points, and what holds of them.
  Plain mathematics of Steps, Reach, Far and Dot over two and three points (no program is named here).
  Plain mathematics for the laws of chapter 2 (no program is named here): marks, the distance by kind, the diameter and the middle.
  Plain mathematics for the laws of chapter 3 (no program is named here): hits, their order, the sorted list, the first ones, each number once.
  Plain mathematics for the laws of chapter 5 (no program is named here): marks by a number of theirs, the tree of halves, its knots in a list, its height.
  Plain mathematics for the laws of chapter 4 (no program is named here): boxes.
  Plain mathematics for the laws of chapter 11 (no program is named here): the least distance to some, the radius, who is chosen, and Gonzalez' bound.
  Plain mathematics for the laws of chapter 11: the least radius of any k of n.
  Plain mathematics for the laws of chapter 11: the distance of marks by kind, and what the third side allows.
  Plain mathematics for the laws of chapter 11: marks told by their numbers.
  Plain mathematics for the laws of chapter 7 (no program is named here): numbers divided and rounded down, the cell of a point.
  Plain mathematics for the laws of chapter 10 (no program is named here): centers, the nearest of them, groups, means, and what shifting costs.
  Plain mathematics for the laws of chapter 13 (no program is named here): levels, what a number is coded as, what is decoded.
  Plain mathematics for the laws of chapter 14 (no program is named here): webs, walks, beams, islands.
  Plain mathematics for chapter 14: islands.
  Plain mathematics for chapter 14: one more mark, linked to its nearest.
  Plain mathematics for chapter 14: beams.
  Plain mathematics for chapter 14: how the program looks about (no program is named here).
  Plain mathematics for the given l14Linked: the lists of links while the nearest are gone through.
  Plain mathematics for the laws of the nearest (no program is named here).
  Plain mathematics for the law of merging (no program is named here).
  Plain mathematics of a heap of hits in a list (no program is named here): what a step up and a step down keep, and that the first is the least.
  What holds of a walk: each step goes over a link and comes ahead; at its end none that is linked is ahead. Plain.
-/
namespace Go.Proofs.YtaaagmgglolibaaGreat

/-- The i-th number, 0 behind the end. -/
def nth (xs : List Int) (i : Nat) : Int := xs.getD i 0
def inB (x : Int) : Bool := decide (-1000 ≤ x) && decide (x ≤ 1000)
def okB (xs : List Int) : Bool := decide (1 ≤ xs.length) && decide (xs.length ≤ 4) && xs.all inB
def twoB (a b : List Int) : Bool := okB a && okB b && decide (a.length = b.length)
def sumTo (f : Nat → Int) : Nat → Int
  | 0 => 0
  | k + 1 => sumTo f k + f k
def maxTo (f : Nat → Int) : Nat → Int
  | 0 => 0
  | k + 1 => max (maxTo f k) (f k)
def sqF (a b : List Int) (i : Nat) : Int := (nth a i - nth b i) * (nth a i - nth b i)
def gapF (a b : List Int) (i : Nat) : Int := max (nth a i - nth b i) (nth b i - nth a i)
def farV (a b : List Int) : Int := if twoB a b = true then sumTo (sqF a b) a.length else -1
def stepsV (a b : List Int) : Int := if twoB a b = true then sumTo (gapF a b) a.length else -1
def reachV (a b : List Int) : Int := if twoB a b = true then maxTo (gapF a b) a.length else -1
def tabL (f : Nat → Int) (n : Nat) : List Int := (List.range n).map f
theorem inB_iff (x : Int) : inB x = true ↔ -1000 ≤ x ∧ x ≤ 1000 := by simp [inB]

theorem okB_len {xs : List Int} (h : okB xs = true) : 1 ≤ xs.length ∧ xs.length ≤ 4 := by
  simp [okB] at h; omega

theorem okB_at {xs : List Int} (h : okB xs = true) (i : Nat) : -1000 ≤ nth xs i ∧ nth xs i ≤ 1000 := by
  simp only [okB, Bool.and_eq_true, List.all_eq_true] at h
  by_cases hi : i < xs.length
  · have := h.2 xs[i] (List.getElem_mem hi)
    rw [inB_iff] at this
    simpa [nth, List.getD, hi] using this
  · simp [nth, List.getD, hi]

theorem okB_mk {xs : List Int} (h1 : 1 ≤ xs.length) (h4 : xs.length ≤ 4) (h : ∀ i, i < xs.length → -1000 ≤ nth xs i ∧ nth xs i ≤ 1000) : okB xs = true := by
  simp only [okB, Bool.and_eq_true, List.all_eq_true, decide_eq_true_eq]
  refine ⟨⟨h1, h4⟩, fun x hx => ?_⟩
  obtain ⟨i, hi, rfl⟩ := List.getElem_of_mem hx
  rw [inB_iff]
  have := h i hi
  simpa [nth, List.getD, hi] using this

theorem okB_short {xs : List Int} (h : xs.length < 1) : okB xs = false := by simp [okB]; omega
theorem okB_long {xs : List Int} (h : 4 < xs.length) : okB xs = false := by simp [okB]; omega
theorem okB_out {xs : List Int} (i : Nat) (h : nth xs i < -1000 ∨ 1000 < nth xs i) : okB xs = false := by
  rcases hb : okB xs with _ | _
  · rfl
  · have := okB_at hb i; omega

theorem twoB_of {a b : List Int} (h : twoB a b = true) : okB a = true ∧ okB b = true ∧ a.length = b.length := by
  simp [twoB] at h; exact ⟨h.1.1, h.1.2, h.2⟩

theorem sumTo_le (f : Nat → Int) (lo hi : Int) (h : ∀ i, lo ≤ f i ∧ f i ≤ hi) (k : Nat) : lo * k ≤ sumTo f k ∧ sumTo f k ≤ hi * k := by
  induction k with
  | zero => simp [sumTo]
  | succ k ih =>
    have := h k
    simp only [sumTo]
    rw [show ((k + 1 : Nat) : Int) = (k : Int) + 1 by omega, Int.mul_add, Int.mul_add]
    omega

theorem maxTo_le (f : Nat → Int) (hi : Int) (h0 : 0 ≤ hi) (h : ∀ i, f i ≤ hi) (k : Nat) : 0 ≤ maxTo f k ∧ maxTo f k ≤ hi := by
  induction k with
  | zero => simp [maxTo]; exact h0
  | succ k ih => have := h k; simp only [maxTo]; omega

theorem sq_nonneg (x : Int) : 0 ≤ x * x := by
  rcases Int.le_total 0 x with h | h
  · exact Int.mul_nonneg h h
  · have := Int.mul_nonneg (a := -x) (b := -x) (by omega) (by omega)
    rwa [Int.neg_mul_neg] at this

theorem mul_bd {x y m : Int} (_hm : 0 ≤ m) (hx : -m ≤ x ∧ x ≤ m) (hy : -m ≤ y ∧ y ≤ m) : -(m * m) ≤ x * y ∧ x * y ≤ m * m := by
  have a1 := Int.mul_nonneg (a := m - x) (b := m + y) (by omega) (by omega)
  have a2 := Int.mul_nonneg (a := m + x) (b := m - y) (by omega) (by omega)
  have a3 := Int.mul_nonneg (a := m - x) (b := m - y) (by omega) (by omega)
  have a4 := Int.mul_nonneg (a := m + x) (b := m + y) (by omega) (by omega)
  simp only [Int.mul_add, Int.add_mul, Int.mul_sub, Int.sub_mul] at a1 a2 a3 a4
  rw [Int.mul_comm m y] at *
  generalize x * y = p at *
  generalize x * m = q at *
  generalize y * m = r at *
  generalize m * m = s at *
  omega

theorem sqF_bd {a b : List Int} (ha : okB a = true) (hb : okB b = true) (i : Nat) : 0 ≤ sqF a b i ∧ sqF a b i ≤ 4000000 := by
  have h1 := okB_at ha i; have h2 := okB_at hb i
  refine ⟨sq_nonneg _, ?_⟩
  have := (mul_bd (x := nth a i - nth b i) (y := nth a i - nth b i) (m := 2000) (by omega) (by omega) (by omega)).2
  simpa [sqF] using this

theorem gapF_bd {a b : List Int} (ha : okB a = true) (hb : okB b = true) (i : Nat) : 0 ≤ gapF a b i ∧ gapF a b i ≤ 2000 := by
  have h1 := okB_at ha i; have h2 := okB_at hb i
  unfold gapF; omega

theorem tabL_length (f : Nat → Int) (n : Nat) : (tabL f n).length = n := by simp [tabL]
theorem tabL_getD (f : Nat → Int) (n i : Nat) (h : i < n) : nth (tabL f n) i = f i := by simp [nth, tabL, List.getD, h]
theorem tabL_succ (f : Nat → Int) (n : Nat) : tabL f (n + 1) = tabL f n ++ [f n] := by simp [tabL, List.range_succ]
theorem sumTo_congr (f g : Nat → Int) (n : Nat) (h : ∀ i, i < n → f i = g i) : sumTo f n = sumTo g n := by
  induction n with
  | zero => rfl
  | succ n ih => simp only [sumTo]; rw [ih (fun i hi => h i (by omega)), h n (by omega)]
theorem twoB_true {a b : List Int} (ha : okB a = true) (hb : okB b = true) (hl : a.length = b.length) : twoB a b = true := by simp [twoB, ha, hb, hl]
theorem twoB_left {a b : List Int} (ha : okB a = false) : twoB a b = false := by simp [twoB, ha]
theorem twoB_right {a b : List Int} (hb : okB b = false) : twoB a b = false := by simp [twoB, hb]
theorem twoB_len {a b : List Int} (hl : ¬ a.length = b.length) : twoB a b = false := by simp [twoB, hl]

end Go.Proofs.YtaaagmgglolibaaGreat
namespace Go.Proofs.YtaaagmgglolibaaGreat
set_option linter.unusedSimpArgs false

theorem list_eq_of_nth {xs ys : List Int} (hl : xs.length = ys.length) (h : ∀ j, j < xs.length → nth xs j = nth ys j) : xs = ys := by
  apply List.ext_getElem hl
  intro i h1 h2
  have := h i h1
  simpa [nth, List.getD, h1, h2] using this
theorem sqF_gap (a b : List Int) (i : Nat) : sqF a b i = gapF a b i * gapF a b i := by
  unfold sqF gapF
  rcases Int.le_total (nth a i - nth b i) (nth b i - nth a i) with h | h
  · rw [Int.max_eq_right h, show nth b i - nth a i = -(nth a i - nth b i) by omega, Int.neg_mul_neg]
  · rw [Int.max_eq_left h]
theorem sum_third (f g h : Nat → Int) (H : ∀ i, f i ≤ g i + h i) (n : Nat) : sumTo f n ≤ sumTo g n + sumTo h n := by
  induction n with
  | zero => simp [sumTo]
  | succ n ih => have := H n; simp only [sumTo]; omega
theorem max_third (f g h : Nat → Int) (H : ∀ i, f i ≤ g i + h i) (n : Nat) : maxTo f n ≤ maxTo g n + maxTo h n := by
  induction n with
  | zero => simp [maxTo]
  | succ n ih => have := H n; simp only [maxTo]; omega
theorem gap_third (a b c : List Int) (i : Nat) : gapF a b i ≤ gapF a c i + gapF c b i := by unfold gapF; omega

theorem max_le_sum (g : Nat → Int) (h : ∀ i, 0 ≤ g i) (n : Nat) : maxTo g n ≤ sumTo g n := by
  have h0 : ∀ n, 0 ≤ sumTo g n := fun n => by
    induction n with
    | zero => simp [sumTo]
    | succ n ih => have := h n; simp only [sumTo]; omega
  induction n with
  | zero => simp [maxTo, sumTo]
  | succ n ih => have := h n; have := h0 n; simp only [maxTo, sumTo]; omega
theorem sum_le_max (g : Nat → Int) (n : Nat) : sumTo g n ≤ n * maxTo g n := by
  induction n with
  | zero => simp [sumTo]
  | succ n ih =>
    simp only [sumTo, maxTo]
    have h1 : (n : Int) * maxTo g n ≤ n * max (maxTo g n) (g n) := Int.mul_le_mul_of_nonneg_left (by omega) (by omega)
    rw [show ((n + 1 : Nat) : Int) = (n : Int) + 1 by omega, Int.add_mul]
    omega
theorem sumsq_nonneg (g : Nat → Int) (n : Nat) : 0 ≤ sumTo (fun i => g i * g i) n := by
  induction n with
  | zero => simp [sumTo]
  | succ n ih => have := sq_nonneg (g n); simp only [sumTo]; omega
theorem max_sq (g : Nat → Int) (n : Nat) : maxTo g n * maxTo g n ≤ sumTo (fun i => g i * g i) n := by
  induction n with
  | zero => simp [maxTo, sumTo]
  | succ n ih =>
    simp only [maxTo, sumTo]
    have h1 := sq_nonneg (g n)
    have h2 := sumsq_nonneg g n
    rcases Int.le_total (maxTo g n) (g n) with h | h
    · rw [Int.max_eq_right h]; omega
    · rw [Int.max_eq_left h]; omega
theorem sumsq_le (g : Nat → Int) (h : ∀ i, 0 ≤ g i) (n : Nat) : 0 ≤ sumTo g n ∧ sumTo (fun i => g i * g i) n ≤ sumTo g n * sumTo g n := by
  induction n with
  | zero => simp [sumTo]
  | succ n ih =>
    have h1 := h n
    have h2 := Int.mul_nonneg ih.1 h1
    simp only [sumTo]
    refine ⟨by omega, ?_⟩
    rw [Int.mul_add, Int.add_mul, Int.add_mul, Int.mul_comm (g n) (sumTo g n)]
    omega
theorem sum_sq_le (g : Nat → Int) (n : Nat) : sumTo g n * sumTo g n ≤ n * sumTo (fun i => g i * g i) n := by
  induction n with
  | zero => simp [sumTo]
  | succ n ih =>
    simp only [sumTo]
    generalize hs : sumTo g n = s at *
    generalize hq : sumTo (fun i => g i * g i) n = q at *
    generalize hx : g n = x at *
    rcases Nat.eq_zero_or_pos n with h0 | h0
    · subst h0
      have e1 : s = 0 := by rw [← hs]; rfl
      have e2 : q = 0 := by rw [← hq]; rfl
      rw [e1, e2]; simp
    · have hk : (0 : Int) < (n : Int) := by omega
      rw [show ((n + 1 : Nat) : Int) = (n : Int) + 1 by omega]
      generalize (n : Int) = k at *
      have h1 : 0 ≤ k * (q + k * (x * x) - 2 * (s * x)) := by
        have := sq_nonneg (s - k * x)
        have e : (s - k * x) * (s - k * x) = s * s + k * (k * (x * x) - 2 * (s * x)) := by (try simp only [Int.two_mul]); simp only [Int.mul_add, Int.add_mul, Int.mul_sub, Int.sub_mul, Int.one_mul, Int.mul_one, Int.mul_comm, Int.mul_left_comm, Int.mul_assoc]; omega
        have e2 : k * (q + k * (x * x) - 2 * (s * x)) = k * q + k * (k * (x * x) - 2 * (s * x)) := by (try simp only [Int.two_mul]); simp only [Int.mul_add, Int.add_mul, Int.mul_sub, Int.sub_mul, Int.one_mul, Int.mul_one, Int.mul_comm, Int.mul_left_comm, Int.mul_assoc]; omega
        omega
      have h2 : 0 ≤ q + k * (x * x) - 2 * (s * x) := by
        rcases Int.lt_or_le (q + k * (x * x) - 2 * (s * x)) 0 with h | h
        · have := Int.mul_lt_mul_of_pos_left h hk
          omega
        · exact h
      have e3 : (s + x) * (s + x) = s * s + 2 * (s * x) + x * x := by (try simp only [Int.two_mul]); simp only [Int.mul_add, Int.add_mul, Int.mul_sub, Int.sub_mul, Int.one_mul, Int.mul_one, Int.mul_comm, Int.mul_left_comm, Int.mul_assoc]; omega
      have e4 : (k + 1) * (q + x * x) = k * q + q + k * (x * x) + x * x := by (try simp only [Int.two_mul]); simp only [Int.mul_add, Int.add_mul, Int.mul_sub, Int.sub_mul, Int.one_mul, Int.mul_one, Int.mul_comm, Int.mul_left_comm, Int.mul_assoc]; omega
      omega
theorem sum_zero (g : Nat → Int) (h : ∀ i, 0 ≤ g i) (n : Nat) (hz : sumTo g n = 0) : ∀ i, i < n → g i = 0 := by
  induction n with
  | zero => intro i hi; omega
  | succ n ih =>
    have h1 := h n
    have h2 := (sumsq_le g h n).1
    simp only [sumTo] at hz
    intro i hi
    rcases Nat.lt_or_ge i n with h3 | h3
    · exact ih (by omega) i h3
    · rw [show i = n by omega]; omega

/-- What the law of the third side asks, of two points a, b and a third one c. -/
theorem third {a b c : List Int} (hab : twoB a b = true) (hac : twoB a c = true) :
    0 ≤ stepsV a b ∧ stepsV a b ≤ 8000 ∧ 0 ≤ reachV a b ∧ reachV a b ≤ 2000 ∧ 0 ≤ farV a b ∧ farV a b ≤ 16000000 ∧
    0 ≤ stepsV a c ∧ stepsV a c ≤ 8000 ∧ 0 ≤ stepsV c b ∧ stepsV c b ≤ 8000 ∧ 0 ≤ reachV a c ∧ reachV a c ≤ 2000 ∧ 0 ≤ reachV c b ∧ reachV c b ≤ 2000 ∧
    (stepsV a b = 0 ↔ a = b) ∧ stepsV a b ≤ stepsV a c + stepsV c b ∧ reachV a b ≤ reachV a c + reachV c b ∧ reachV a b ≤ stepsV a b ∧
    stepsV a b ≤ a.length * reachV a b ∧ reachV a b * reachV a b ≤ farV a b ∧ farV a b ≤ stepsV a b * stepsV a b ∧ stepsV a b * stepsV a b ≤ a.length * farV a b := by
  obtain ⟨ha, hb, hl⟩ := twoB_of hab
  obtain ⟨_, hc, hl'⟩ := twoB_of hac
  have hcb : twoB c b = true := twoB_true hc hb (by omega)
  have h4 := okB_len ha
  have e1 : stepsV a b = sumTo (gapF a b) a.length := by unfold stepsV; rw [if_pos hab]
  have e2 : reachV a b = maxTo (gapF a b) a.length := by unfold reachV; rw [if_pos hab]
  have e3 : farV a b = sumTo (fun i => gapF a b i * gapF a b i) a.length := by unfold farV; rw [if_pos hab]; exact sumTo_congr _ _ _ (fun i _ => sqF_gap a b i)
  have e4 : stepsV a c = sumTo (gapF a c) a.length := by unfold stepsV; rw [if_pos hac]
  have e5 : stepsV c b = sumTo (gapF c b) a.length := by unfold stepsV; rw [if_pos hcb, hl']
  have e6 : reachV a c = maxTo (gapF a c) a.length := by unfold reachV; rw [if_pos hac]
  have e7 : reachV c b = maxTo (gapF c b) a.length := by unfold reachV; rw [if_pos hcb, hl']
  have e8 : farV a b = sumTo (sqF a b) a.length := by unfold farV; rw [if_pos hab]
  have hab0 := fun i => (gapF_bd ha hb i).1
  have b1 := sumTo_le (gapF a b) 0 2000 (gapF_bd ha hb) a.length
  have b2 := maxTo_le (gapF a b) 2000 (by omega) (fun i => (gapF_bd ha hb i).2) a.length
  have b3 := sumTo_le (sqF a b) 0 4000000 (sqF_bd ha hb) a.length
  have b4 := sumTo_le (gapF a c) 0 2000 (gapF_bd ha hc) a.length
  have b5 := sumTo_le (gapF c b) 0 2000 (gapF_bd hc hb) a.length
  have b6 := maxTo_le (gapF a c) 2000 (by omega) (fun i => (gapF_bd ha hc i).2) a.length
  have b7 := maxTo_le (gapF c b) 2000 (by omega) (fun i => (gapF_bd hc hb i).2) a.length
  refine ⟨by omega, by omega, by omega, by omega, by omega, by omega, by omega, by omega, by omega, by omega, by omega, by omega, by omega, by omega, ?_, ?_, ?_, ?_, ?_, ?_, ?_, ?_⟩
  · rw [e1]
    constructor
    · intro hz
      refine list_eq_of_nth hl (fun j hj => ?_)
      have := sum_zero (gapF a b) hab0 a.length hz j hj
      unfold gapF at this; omega
    · rintro rfl
      have : sumTo (gapF a a) a.length = sumTo (fun _ => 0) a.length := sumTo_congr _ _ _ (fun i _ => by unfold gapF; omega)
      rw [this]
      have := sumTo_le (fun _ => (0 : Int)) 0 0 (fun _ => ⟨Int.le_refl _, Int.le_refl _⟩) a.length
      omega
  · rw [e1, e4, e5]; exact sum_third _ _ _ (gap_third a b c) _
  · rw [e2, e6, e7]; exact max_third _ _ _ (gap_third a b c) _
  · rw [e1, e2]; exact max_le_sum _ hab0 _
  · rw [e1, e2]; exact sum_le_max _ _
  · rw [e2, e3]; exact max_sq _ _
  · rw [e1, e3]; exact (sumsq_le _ hab0 _).2
  · rw [e1, e3]; exact sum_sq_le _ _

end Go.Proofs.YtaaagmgglolibaaGreat
namespace Go.Proofs.YtaaagmgglolibaaGreat

abbrev Mk := Int × List Int
def mid (ms : List Mk) (i : Nat) : Int := (ms.getD i (0, [])).1
def mat (ms : List Mk) (i : Nat) : List Int := (ms.getD i (0, [])).2
def mOkAt (ms : List Mk) (i : Nat) : Bool :=
  decide (1 ≤ mid ms i) && decide (mid ms i ≤ 1000000) && okB (mat ms i) && decide ((mat ms i).length = (mat ms 0).length) && (decide (i = 0) || decide (mid ms (i - 1) < mid ms i))
def marksB (ms : List Mk) : Bool := decide (ms.length ≤ 60) && (List.range ms.length).all (mOkAt ms)
def kindB (k : Int) : Bool := decide (1 ≤ k) && decide (k ≤ 3)
def betV (a b : List Int) (k : Int) : Int := if k = 1 then farV a b else if k = 2 then stepsV a b else if k = 3 then reachV a b else -1
def betF (ms : List Mk) (p : List Int) (k : Int) (i : Nat) : Int := betV p (mat ms i) k
def mostV (ms : List Mk) (p : List Int) (k : Int) : Int := maxTo (betF ms p k) ms.length
def mostF (ms : List Mk) (k : Int) (i : Nat) : Int := mostV ms (mat ms i) k
def noneB (ms : List Mk) (k : Int) : Bool := decide (ms.length = 0) || !marksB ms || !kindB k
def diaV (ms : List Mk) (k : Int) : Int := if noneB ms k = true then -1 else maxTo (mostF ms k) ms.length
def bestI (ms : List Mk) (k : Int) : Nat → Nat
  | 0 => 0
  | n + 1 => if mostF ms k n < mostF ms k (bestI ms k n) then n else bestI ms k n
def midV (ms : List Mk) (k : Int) : Int := if noneB ms k = true then 0 else mid ms (bestI ms k ms.length)

theorem mOkAt_iff (ms : List Mk) (i : Nat) : mOkAt ms i = true ↔ 1 ≤ mid ms i ∧ mid ms i ≤ 1000000 ∧ okB (mat ms i) = true ∧ (mat ms i).length = (mat ms 0).length ∧ (i = 0 ∨ mid ms (i - 1) < mid ms i) := by
  simp [mOkAt, and_assoc]
theorem marksB_len {ms : List Mk} (h : marksB ms = true) : ms.length ≤ 60 := by simp [marksB] at h; exact h.1
theorem marksB_at {ms : List Mk} (h : marksB ms = true) {i : Nat} (hi : i < ms.length) : mOkAt ms i = true := by
  simp only [marksB, Bool.and_eq_true, List.all_eq_true] at h
  exact h.2 i (List.mem_range.2 hi)
theorem marksB_long {ms : List Mk} (h : 60 < ms.length) : marksB ms = false := by simp [marksB]; omega
theorem marksB_out {ms : List Mk} {i : Nat} (hi : i < ms.length) (h : mOkAt ms i = false) : marksB ms = false := by
  rcases hb : marksB ms with _ | _
  · rfl
  · rw [marksB_at hb hi] at h; cases h
theorem marksB_mk {ms : List Mk} (hl : ms.length ≤ 60) (h : ∀ i, i < ms.length → mOkAt ms i = true) : marksB ms = true := by
  simp only [marksB, Bool.and_eq_true, List.all_eq_true, decide_eq_true_eq]
  exact ⟨hl, fun i hi => h i (List.mem_range.1 hi)⟩
theorem mOkAt_false (ms : List Mk) (i : Nat) (h : ¬ (1 ≤ mid ms i ∧ mid ms i ≤ 1000000 ∧ okB (mat ms i) = true ∧ (mat ms i).length = (mat ms 0).length ∧ (i = 0 ∨ mid ms (i - 1) < mid ms i))) : mOkAt ms i = false := by
  rcases hb : mOkAt ms i with _ | _
  · rfl
  · exact absurd ((mOkAt_iff ms i).1 hb) h
end Go.Proofs.YtaaagmgglolibaaGreat
namespace Go.Proofs.YtaaagmgglolibaaGreat

/-- A hit: its number, and how far. -/
abbrev Ht := Int × Int
def aheadB (a b : Ht) : Bool := decide (a.2 < b.2) || (decide (a.2 = b.2) && decide (a.1 < b.1))
/-- In order, or alike. -/
def leH (a b : Ht) : Prop := a.2 < b.2 ∨ (a.2 = b.2 ∧ a.1 ≤ b.1)
def hnth (hs : List Ht) (i : Nat) : Ht := hs.getD i (0, 0)
def putL : List Ht → Ht → List Ht
  | [], h => [h]
  | x :: xs, h => if aheadB h x = true then h :: x :: xs else x :: putL xs h
def sortL (l : List Ht) : List Ht := l.foldl putL []
def SortedH (l : List Ht) : Prop := l.Pairwise leH

theorem aheadB_iff (a b : Ht) : aheadB a b = true ↔ a.2 < b.2 ∨ (a.2 = b.2 ∧ a.1 < b.1) := by simp [aheadB]
theorem aheadB_false (a b : Ht) : aheadB a b = false ↔ leH b a := by
  unfold leH
  rcases h : aheadB a b with _ | _
  · have : ¬ (a.2 < b.2 ∨ (a.2 = b.2 ∧ a.1 < b.1)) := fun hh => by rw [(aheadB_iff a b).2 hh] at h; cases h
    constructor
    · intro _; omega
    · intro _; rfl
  · have := (aheadB_iff a b).1 h
    constructor
    · intro hh; cases hh
    · intro hh; omega
theorem leH_refl (a : Ht) : leH a a := by unfold leH; omega
theorem leH_trans {a b c : Ht} (h : leH a b) (k : leH b c) : leH a c := by unfold leH at *; omega
theorem leH_antisymm {a b : Ht} (h : leH a b) (k : leH b a) : a = b := by
  unfold leH at *
  exact Prod.ext (by omega) (by omega)
theorem leH_of_ahead {a b : Ht} (h : aheadB a b = true) : leH a b := by rw [aheadB_iff] at h; unfold leH; omega

theorem putL_perm (l : List Ht) (h : Ht) : (putL l h).Perm (h :: l) := by
  induction l with
  | nil => exact List.Perm.refl _
  | cons x xs ih =>
    unfold putL
    split
    · exact List.Perm.refl _
    · exact (List.Perm.cons x ih).trans (List.Perm.swap h x xs)
theorem putL_length (l : List Ht) (h : Ht) : (putL l h).length = l.length + 1 := by rw [(putL_perm l h).length_eq]; rfl
theorem putL_sorted {l : List Ht} (hl : SortedH l) (h : Ht) : SortedH (putL l h) := by
  unfold SortedH at *
  induction l with
  | nil => simp [putL]
  | cons x xs ih =>
    rw [List.pairwise_cons] at hl
    unfold putL
    split
    · rename_i ha
      have hx := leH_of_ahead ha
      exact List.pairwise_cons.2 ⟨fun y hy => by
        rcases List.mem_cons.1 hy with rfl | hy
        · exact hx
        · exact leH_trans hx (hl.1 y hy), List.pairwise_cons.2 hl⟩
    · rename_i ha
      have hx : leH x h := (aheadB_false h x).1 (by simpa using ha)
      refine List.pairwise_cons.2 ⟨fun y hy => ?_, ih hl.2⟩
      rcases List.mem_cons.1 ((putL_perm xs h).mem_iff.1 hy) with rfl | hy
      · exact hx
      · exact hl.1 y hy
theorem fold_perm (l acc : List Ht) : (l.foldl putL acc).Perm (acc ++ l) := by
  induction l generalizing acc with
  | nil => simp
  | cons x xs ih =>
    refine (ih (putL acc x)).trans ?_
    refine ((putL_perm acc x).append_right xs).trans ?_
    exact (List.perm_middle (a := x) (l₁ := acc) (l₂ := xs)).symm
theorem fold_sorted (l acc : List Ht) (h : SortedH acc) : SortedH (l.foldl putL acc) := by
  induction l generalizing acc with
  | nil => exact h
  | cons x xs ih => exact ih _ (putL_sorted h x)
theorem sortL_perm (l : List Ht) : (sortL l).Perm l := by simpa [sortL] using fold_perm l []
theorem sortL_sorted (l : List Ht) : SortedH (sortL l) := fold_sorted l [] List.Pairwise.nil
theorem sortL_length (l : List Ht) : (sortL l).length = l.length := (sortL_perm l).length_eq
theorem sortL_snoc (l : List Ht) (h : Ht) : sortL (l ++ [h]) = putL (sortL l) h := by simp [sortL, List.foldl_append]
/-- Two sorted lists of the same hits are one. -/
theorem sorted_unique {l m : List Ht} (hl : SortedH l) (hm : SortedH m) (hp : l.Perm m) : l = m := by
  unfold SortedH at *
  induction l generalizing m with
  | nil => exact (List.nil_perm.1 hp).symm
  | cons x xs ih =>
    cases m with
    | nil => exact absurd hp.length_eq (by simp)
    | cons y ys =>
      rw [List.pairwise_cons] at hl hm
      have hxy : leH x y := by
        rcases List.mem_cons.1 (hp.mem_iff.2 (List.mem_cons_self ..) : y ∈ x :: xs) with h | h
        · rw [h]; exact leH_refl x
        · exact hl.1 y h
      have hyx : leH y x := by
        rcases List.mem_cons.1 (hp.mem_iff.1 (List.mem_cons_self ..) : x ∈ y :: ys) with h | h
        · rw [h]; exact leH_refl y
        · exact hm.1 x h
      obtain rfl := leH_antisymm hxy hyx
      rw [ih hl.2 hm.2 (List.Perm.cons_inv hp)]
theorem sortL_unique {l m : List Ht} (hm : SortedH m) (hp : m.Perm l) : m = sortL l := sorted_unique hm (sortL_sorted l) (hp.trans (sortL_perm l).symm)
theorem sortL_congr {l m : List Ht} (hp : l.Perm m) : sortL l = sortL m := sorted_unique (sortL_sorted l) (sortL_sorted m) ((sortL_perm l).trans (hp.trans (sortL_perm m).symm))

def hasB (ids : List Int) (x : Int) : Bool := ids.contains x
/-- Each number once, its first. -/
def onceG (ids : List Int) : List Ht → List Ht
  | [] => []
  | x :: xs => if hasB ids x.1 = true then onceG ids xs else x :: onceG (ids ++ [x.1]) xs
def onceL (l : List Ht) : List Ht := onceG [] l

/-- Are marks and a place as told. -/
def toldB (ms : List Mk) (q : List Int) : Bool := marksB ms && okB q && (decide (ms.length = 0) || decide ((mat ms 0).length = q.length))
def hitF (q : List Int) (m : Mk) : Ht := (m.1, farV m.2 q)
def hitsL (ms : List Mk) (q : List Int) : List Ht := ms.map (hitF q)
def countB (k : Int) : Bool := decide (1 ≤ k) && decide (k ≤ 60)
def nearL (ms : List Mk) (q : List Int) (k : Int) : List Ht := if toldB ms q = true ∧ countB k = true then (sortL (hitsL ms q)).take k.toNat else []
theorem toldB_bad {ms : List Mk} {q : List Int} (h : marksB ms = false) : toldB ms q = false := by simp [toldB, h]
theorem toldB_no {ms : List Mk} {q : List Int} (h : okB q = false) : toldB ms q = false := by simp [toldB, h]

end Go.Proofs.YtaaagmgglolibaaGreat
namespace Go.Proofs.YtaaagmgglolibaaGreat

/-- An order in which two that are neither ahead of the other are one, on those of a list. -/
structure Parts {α : Type} (lt : α → α → Bool) (P : α → Prop) : Prop where
  trans : ∀ a b c, P a → P b → P c → lt a b = true → lt b c = true → lt a c = true
  one : ∀ a b, P a → P b → lt a b = false → lt b a = false → a = b
  asym : ∀ a b, P a → P b → lt a b = true → lt b a = false

/-- No two of one number. -/
def Sole (ms : List Mk) : Prop := ∀ a ∈ ms, ∀ b ∈ ms, a.1 = b.1 → a = b
theorem Sole.sub {ms ns : List Mk} (h : Sole ms) (hs : ∀ a ∈ ns, a ∈ ms) : Sole ns := fun a ha b hb e => h a (hs a ha) b (hs b hb) e
/-- The tree of halves. -/
inductive Tr where
  | leaf : Tr
  | node (m : Mk) (ax : Nat) (l r : Tr) : Tr
/-- A knot: its mark, its axis, less, more. -/
abbrev Kn := Mk × Int × Int × Int
def Tr.size : Tr → Nat
  | .leaf => 0
  | .node _ _ l r => l.size + r.size + 1
def Tr.place : Tr → Nat → Int
  | .leaf, _ => -1
  | .node .., p => (p : Int)
def Tr.marks : Tr → List Mk
  | .leaf => []
  | .node m _ l r => m :: (l.marks ++ r.marks)
end Go.Proofs.YtaaagmgglolibaaGreat
namespace Go.Proofs.YtaaagmgglolibaaGreat

end Go.Proofs.YtaaagmgglolibaaGreat
namespace Go.Proofs.YtaaagmgglolibaaGreat

/-- The least so far (none: below 0), and one more. -/
def zStep (n d : Int) : Int := if n < 0 ∨ d < n then d else n
/-- The least D of i to those of C; -1 of none. -/
def zNear (D : Nat → Nat → Int) (i : Nat) (C : List Nat) : Int := C.foldl (fun n c => zStep n (D i c)) (-1)
def zRad (D : Nat → Nat → Int) (n : Nat) (C : List Nat) : Int := maxTo (fun i => zNear D i C) n
end Go.Proofs.YtaaagmgglolibaaGreat
namespace Go.Proofs.YtaaagmgglolibaaGreat

end Go.Proofs.YtaaagmgglolibaaGreat
namespace Go.Proofs.YtaaagmgglolibaaGreat

/-- The distance of two marks by their places in the list. -/
def zD (ms : List Mk) (kd : Int) (i j : Nat) : Int := max 0 (betV (mat ms i) (mat ms j) kd)
end Go.Proofs.YtaaagmgglolibaaGreat
namespace Go.Proofs.YtaaagmgglolibaaGreat

/-- Of the first m the first one with this number; -1 of none. -/
def zFindTo (ms : List Mk) (id : Int) : Nat → Int
  | 0 => -1
  | m + 1 => if 0 ≤ zFindTo ms id m then zFindTo ms id m else if mid ms m = id then (m : Int) else -1
def zFind (ms : List Mk) (id : Int) : Int := zFindTo ms id ms.length
def zIdx (ms : List Mk) (id : Int) : Nat := (zFind ms id).toNat
theorem zFindTo_bd (ms : List Mk) (id : Int) (m : Nat) : -1 ≤ zFindTo ms id m ∧ zFindTo ms id m < m ∧ (0 ≤ zFindTo ms id m → mid ms (zFindTo ms id m).toNat = id) := by
  induction m with
  | zero => simp [zFindTo]
  | succ m ih =>
    simp only [zFindTo]
    split
    · exact ⟨ih.1, by omega, ih.2.2⟩
    · split
      · rename_i h
        exact ⟨by omega, by omega, fun _ => by simpa using h⟩
      · exact ⟨by omega, by omega, fun h => by omega⟩
theorem zFindTo_no {ms : List Mk} {id : Int} {m : Nat} (h : zFindTo ms id m < 0) : ∀ j, j < m → mid ms j ≠ id := by
  induction m with
  | zero => intro j hj; omega
  | succ m ih =>
    simp only [zFindTo] at h
    intro j hj
    by_cases h0 : 0 ≤ zFindTo ms id m
    · rw [if_pos h0] at h; omega
    · rw [if_neg h0] at h
      rcases Nat.lt_or_ge j m with h1 | h1
      · exact ih (by omega) j h1
      · rw [show j = m by omega]
        intro e
        rw [if_pos e] at h
        omega
theorem zIdx_lt {ms : List Mk} {id : Int} (h : 0 ≤ zFind ms id) : zIdx ms id < ms.length ∧ ((zIdx ms id : Nat) : Int) = zFind ms id ∧ mid ms (zIdx ms id) = id := by
  have := zFindTo_bd ms id ms.length
  unfold zIdx zFind at *
  exact ⟨by omega, by omega, this.2.2 h⟩
theorem zmid_rises {ms : List Mk} (h : marksB ms = true) {i j : Nat} (hij : i < j) (hj : j < ms.length) : mid ms i < mid ms j := by
  induction j with
  | zero => omega
  | succ j ih =>
    have h1 := ((mOkAt_iff ms (j + 1)).1 (marksB_at h hj)).2.2.2.2
    simp at h1
    rcases Nat.lt_or_ge i j with h2 | h2
    · have := ih h2 (by omega); omega
    · rw [show i = j by omega]; exact h1
theorem zmid_inj {ms : List Mk} (h : marksB ms = true) {i j : Nat} (hi : i < ms.length) (hj : j < ms.length) (e : mid ms i = mid ms j) : i = j := by
  rcases Nat.lt_trichotomy i j with h1 | h1 | h1
  · have := zmid_rises h h1 hj; omega
  · exact h1
  · have := zmid_rises h h1 hi; omega
theorem zFind_mid {ms : List Mk} (h : marksB ms = true) {i : Nat} (hi : i < ms.length) : zFind ms (mid ms i) = i ∧ zIdx ms (mid ms i) = i := by
  have hp : 0 ≤ zFind ms (mid ms i) := by
    rcases Int.lt_or_le (zFind ms (mid ms i)) 0 with h1 | h1
    · exact absurd rfl (zFindTo_no h1 i hi)
    · exact h1
  obtain ⟨a, b, c⟩ := zIdx_lt hp
  have e := zmid_inj h a hi c
  exact ⟨by omega, e⟩
/-- The least distance of a place to those with some numbers. -/
def zNearI (ms : List Mk) (kd : Int) (p : List Int) (ids : List Int) : Int := ids.foldl (fun n id => zStep n (betV p (mat ms (zIdx ms id)) kd)) (-1)
def radB (ms : List Mk) (ids : List Int) (kd : Int) : Bool := marksB ms && decide (ids.length ≠ 0) && kindB kd && ids.all (fun id => decide (0 ≤ zFind ms id))
def radI (ms : List Mk) (ids : List Int) (kd : Int) : Int := if radB ms ids kd = true then zRad (zD ms kd) ms.length (ids.map (zIdx ms)) else -1
end Go.Proofs.YtaaagmgglolibaaGreat
namespace Go.Proofs.YtaaagmgglolibaaGreat

end Go.Proofs.YtaaagmgglolibaaGreat
namespace Go.Proofs.YtaaagmgglolibaaGreat

/-- The i-th center. -/
def cn (cs : List (List Int)) (i : Nat) : List Int := cs.getD i []
theorem cn_at {cs : List (List Int)} {i : Nat} (h : i < cs.length) : cn cs i = cs[i] := by simp [cn, List.getD, h]
end Go.Proofs.YtaaagmgglolibaaGreat
namespace Go.Proofs.YtaaagmgglolibaaGreat

def lvRiseTo (l : List Int) : Nat → Bool
  | 0 => true
  | k + 1 => lvRiseTo l k && decide (nth l k < nth l (k + 1))
/-- Does it rise? -/
def lvRise (l : List Int) : Bool := lvRiseTo l (l.length - 1)
theorem lvRiseTo_iff (l : List Int) (n : Nat) : lvRiseTo l n = true ↔ ∀ j, j < n → nth l j < nth l (j + 1) := by
  induction n with
  | zero => simp [lvRiseTo]
  | succ n ih =>
    simp only [lvRiseTo, Bool.and_eq_true, decide_eq_true_eq, ih]
    constructor
    · rintro ⟨h1, h2⟩ j hj
      rcases Nat.lt_or_ge j n with h | h
      · exact h1 j h
      · obtain rfl : j = n := by omega
        exact h2
    · exact fun h => ⟨fun j hj => h j (by omega), h n (by omega)⟩
theorem lvRise_iff (l : List Int) : lvRise l = true ↔ ∀ j, j + 1 < l.length → nth l j < nth l (j + 1) := by
  unfold lvRise
  rw [lvRiseTo_iff]
  exact ⟨fun h j hj => h j (by omega), fun h j hj => h j (by omega)⟩
theorem lvRise_no {l : List Int} {j : Nat} (hj : j + 1 < l.length) (h : nth l (j + 1) ≤ nth l j) : lvRise l = false := by
  rcases e : lvRise l with _ | _
  · rfl
  · have := (lvRise_iff l).1 e j hj; omega
theorem lvRise_lt {l : List Int} (h : lvRise l = true) {i j : Nat} (hij : i < j) (hj : j < l.length) : nth l i < nth l j := by
  have h' := (lvRise_iff l).1 h
  induction j with
  | zero => omega
  | succ j ih =>
    have h1 := h' j hj
    rcases Nat.lt_or_ge i j with h2 | h2
    · have := ih h2 (by omega); omega
    · obtain rfl : i = j := by omega
      exact h1
end Go.Proofs.YtaaagmgglolibaaGreat
namespace Go.Proofs.YtaaagmgglolibaaGreat

theorem hasB_iff (l : List Int) (x : Int) : hasB l x = true ↔ x ∈ l := by simp [hasB]
theorem hasB_no (l : List Int) (x : Int) : hasB l x = false ↔ x ∉ l := by
  rw [← hasB_iff]; simp
theorem hasB_nth {l : List Int} {k : Nat} (h : k < l.length) : hasB l (nth l k) = true := by
  rw [hasB_iff]
  simp [nth, List.getD, h]
theorem mem_nth {l : List Int} {x : Int} (h : x ∈ l) : ∃ k, k < l.length ∧ nth l k = x := by
  obtain ⟨k, hk, e⟩ := List.mem_iff_getElem.1 h
  exact ⟨k, hk, by simp [nth, List.getD, hk, e]⟩

/-- May the mark with number x be linked to mark i? -/
def linkB (ms : List Mk) (ls : List (List Int)) (i : Nat) (x : Int) : Bool :=
  decide (0 ≤ zFind ms x) && decide (zFind ms x ≠ (i : Int)) && hasB (cn ls (zIdx ms x)) (mid ms i)
def webAt (ms : List Mk) (ls : List (List Int)) (i : Nat) : Bool := lvRise (cn ls i) && (cn ls i).all (linkB ms ls i)
/-- A web. -/
def webB (ms : List Mk) (ls : List (List Int)) : Bool := marksB ms && decide (ls.length = ms.length) && (List.range ls.length).all (webAt ms ls)
theorem linkB_iff (ms : List Mk) (ls : List (List Int)) (i : Nat) (x : Int) : linkB ms ls i x = true ↔ 0 ≤ zFind ms x ∧ zFind ms x ≠ (i : Int) ∧ hasB (cn ls (zIdx ms x)) (mid ms i) = true := by
  simp [linkB, and_assoc]
theorem webAt_iff (ms : List Mk) (ls : List (List Int)) (i : Nat) : webAt ms ls i = true ↔ lvRise (cn ls i) = true ∧ ∀ k, k < (cn ls i).length → linkB ms ls i (nth (cn ls i) k) = true := by
  simp only [webAt, Bool.and_eq_true, List.all_eq_true]
  constructor
  · rintro ⟨h1, h2⟩
    exact ⟨h1, fun k hk => h2 _ ((hasB_iff _ _).1 (hasB_nth hk))⟩
  · rintro ⟨h1, h2⟩
    refine ⟨h1, fun x hx => ?_⟩
    obtain ⟨k, hk, rfl⟩ := mem_nth hx
    exact h2 k hk
theorem webB_iff (ms : List Mk) (ls : List (List Int)) : webB ms ls = true ↔ marksB ms = true ∧ ls.length = ms.length ∧ ∀ i, i < ls.length → webAt ms ls i = true := by
  simp [webB, and_assoc]
theorem webB_no {ms : List Mk} {ls : List (List Int)} {i : Nat} (hi : i < ls.length) (h : webAt ms ls i = false) : webB ms ls = false := by
  rcases e : webB ms ls with _ | _
  · rfl
  · have := ((webB_iff ms ls).1 e).2.2 i hi
    rw [this] at h; cases h
theorem webAt_link {ms : List Mk} {ls : List (List Int)} {i k : Nat} (hk : k < (cn ls i).length) (h : linkB ms ls i (nth (cn ls i) k) = false) : webAt ms ls i = false := by
  rcases e : webAt ms ls i with _ | _
  · rfl
  · have := ((webAt_iff ms ls i).1 e).2 k hk
    rw [this] at h; cases h
theorem webAt_rise {ms : List Mk} {ls : List (List Int)} {i : Nat} (h : lvRise (cn ls i) = false) : webAt ms ls i = false := by simp [webAt, h]

theorem web_marks {ms : List Mk} {ls : List (List Int)} (h : webB ms ls = true) : marksB ms = true := ((webB_iff ms ls).1 h).1
theorem web_len {ms : List Mk} {ls : List (List Int)} (h : webB ms ls = true) : ls.length = ms.length := ((webB_iff ms ls).1 h).2.1
/-- What is linked to a mark is a mark, another one, and it is linked to that. -/
theorem web_link {ms : List Mk} {ls : List (List Int)} (h : webB ms ls = true) {i : Nat} (hi : i < ms.length) {x : Int} (hx : x ∈ cn ls i) : 0 ≤ zFind ms x ∧ zIdx ms x < ms.length ∧ mid ms (zIdx ms x) = x ∧ zIdx ms x ≠ i ∧ mid ms i ∈ cn ls (zIdx ms x) := by
  obtain ⟨k, hk, rfl⟩ := mem_nth hx
  have hl := web_len h
  have h1 := (linkB_iff _ _ _ _).1 (((webAt_iff _ _ _).1 (((webB_iff ms ls).1 h).2.2 i (by omega))).2 k hk)
  obtain ⟨a, b, c⟩ := zIdx_lt h1.1
  exact ⟨h1.1, a, c, fun e => h1.2.1 (by omega), (hasB_iff _ _).1 h1.2.2⟩
theorem web_rise {ms : List Mk} {ls : List (List Int)} (h : webB ms ls = true) {i : Nat} (hi : i < ms.length) : lvRise (cn ls i) = true :=
  ((webAt_iff _ _ _).1 (((webB_iff ms ls).1 h).2.2 i (by have := web_len h; omega))).1
/-- A list of links is no longer than there are marks. -/
theorem rise_pairs {l : List Int} (h : lvRise l = true) : l.Pairwise (fun a b => a < b) := by
  rw [List.pairwise_iff_getElem]
  intro i j hi' hj' hij
  have := lvRise_lt h hij hj'
  simpa [nth, List.getD, hi', hj'] using this
theorem idx_short {n : Nat} (l : List Int) (f : Int → Nat) (hd : l.Nodup) (hf : ∀ x ∈ l, f x < n) (hi : ∀ x ∈ l, ∀ y ∈ l, f x = f y → x = y) : l.length ≤ n := by
  have hnd : (l.map f).Nodup := by
    rw [List.Nodup, List.pairwise_map]
    exact List.Pairwise.imp_of_mem (fun {a b} ha hb hab e => hab (hi a ha b hb e)) hd
  have h2 := hnd.length_le_of_subset (l₂ := List.range n) (fun y hy => by
    obtain ⟨x, hx, rfl⟩ := List.mem_map.1 hy
    exact List.mem_range.2 (hf x hx))
  simpa using h2
theorem ids_short {ms : List Mk} {l : List Int} (hd : l.Nodup) (hf : ∀ x ∈ l, 0 ≤ zFind ms x) : l.length ≤ ms.length :=
  idx_short l (zIdx ms) hd (fun x hx => (zIdx_lt (hf x hx)).1) (fun x hx y hy e => by
    have a := (zIdx_lt (hf x hx)).2.2
    have b := (zIdx_lt (hf y hy)).2.2
    rw [e] at a; omega)
theorem links_short {ms : List Mk} {ls : List (List Int)} (h : webB ms ls = true) {i : Nat} (hi : i < ms.length) : (cn ls i).length ≤ ms.length :=
  ids_short (List.Pairwise.imp (fun {a b} hab e => by omega) (rise_pairs (web_rise h hi))) (fun x hx => (web_link h hi hx).1)

/-- A mark's hit, by its number. -/
def hitOf (ms : List Mk) (q : List Int) (x : Int) : Ht := (x, farV (mat ms (zIdx ms x)) q)
/-- The first by (Far, Id) of b and of the first k of l. -/
def bestTo (ms : List Mk) (q : List Int) (l : List Int) (b : Ht) : Nat → Ht
  | 0 => b
  | k + 1 => if aheadB (hitOf ms q (nth l k)) (bestTo ms q l b k) = true then hitOf ms q (nth l k) else bestTo ms q l b k
theorem bestTo_ok (ms : List Mk) (q : List Int) (l : List Int) (b : Ht) (n : Nat) : (bestTo ms q l b n = b ∨ ∃ k, k < n ∧ bestTo ms q l b n = hitOf ms q (nth l k) ∧ aheadB (bestTo ms q l b n) b = true) ∧ leH (bestTo ms q l b n) b ∧ ∀ k, k < n → leH (bestTo ms q l b n) (hitOf ms q (nth l k)) := by
  induction n with
  | zero => exact ⟨Or.inl rfl, leH_refl _, fun k hk => by omega⟩
  | succ n ih =>
    obtain ⟨h1, h2, h3⟩ := ih
    simp only [bestTo]
    by_cases ha : aheadB (hitOf ms q (nth l n)) (bestTo ms q l b n) = true
    · rw [if_pos ha]
      have hle := leH_of_ahead ha
      refine ⟨Or.inr ⟨n, by omega, rfl, ?_⟩, leH_trans hle h2, fun k hk => ?_⟩
      · rw [aheadB_iff] at ha ⊢
        unfold leH at h2
        omega
      · rcases Nat.lt_or_ge k n with h | h
        · exact leH_trans hle (h3 k h)
        · obtain rfl : k = n := by omega
          exact leH_refl _
    · rw [if_neg ha]
      refine ⟨?_, h2, fun k hk => ?_⟩
      · rcases h1 with h | ⟨k, hk, e, e'⟩
        · exact Or.inl h
        · exact Or.inr ⟨k, by omega, e, e'⟩
      · rcases Nat.lt_or_ge k n with h | h
        · exact h3 k h
        · obtain rfl : k = n := by omega
          exact (aheadB_false _ _).1 (by simpa using ha)
/-- Where one goes from a mark. -/
def stepH (ms : List Mk) (ls : List (List Int)) (q : List Int) (x : Int) : Ht := bestTo ms q (cn ls (zIdx ms x)) (hitOf ms q x) (cn ls (zIdx ms x)).length
def stepW (ms : List Mk) (ls : List (List Int)) (q : List Int) (x : Int) : Int := (stepH ms ls q x).1
theorem stepW_ok (ms : List Mk) (ls : List (List Int)) (q : List Int) (x : Int) : (stepW ms ls q x = x ∨ (stepW ms ls q x ∈ cn ls (zIdx ms x) ∧ aheadB (hitOf ms q (stepW ms ls q x)) (hitOf ms q x) = true)) ∧ stepH ms ls q x = hitOf ms q (stepW ms ls q x) ∧ ∀ y ∈ cn ls (zIdx ms x), leH (hitOf ms q (stepW ms ls q x)) (hitOf ms q y) := by
  obtain ⟨h1, h2, h3⟩ := bestTo_ok ms q (cn ls (zIdx ms x)) (hitOf ms q x) (cn ls (zIdx ms x)).length
  have he : stepH ms ls q x = hitOf ms q (stepW ms ls q x) := by
    unfold stepW stepH
    rcases h1 with h | ⟨k, hk, e, -⟩
    · rw [h]; rfl
    · rw [e]; rfl
  refine ⟨?_, he, fun y hy => ?_⟩
  · rcases h1 with h | ⟨k, hk, e, ha⟩
    · left; unfold stepW stepH; rw [h]; rfl
    · right
      have e' : stepW ms ls q x = nth (cn ls (zIdx ms x)) k := by unfold stepW stepH; rw [e]; rfl
      constructor
      · rw [e']; exact (hasB_iff _ _).1 (hasB_nth hk)
      · rw [← he]; exact ha
  · obtain ⟨k, hk, rfl⟩ := mem_nth hy
    rw [← he]
    exact h3 k hk
/-- How many are ahead of it. -/
def rkW (ms : List Mk) (q : List Int) (x : Int) : Nat := ((List.range ms.length).filter (fun i => aheadB (hitOf ms q (mid ms i)) (hitOf ms q x))).length
theorem filter_lt {P Q : Nat → Bool} (L : List Nat) (h : ∀ i, P i = true → Q i = true) {a : Nat} (ha : a ∈ L) (hq : Q a = true) (hp : P a = false) : (L.filter P).length < (L.filter Q).length := by
  induction L with
  | nil => cases ha
  | cons b L ih =>
    have hle : (L.filter P).length ≤ (L.filter Q).length := by
      rw [← List.countP_eq_length_filter, ← List.countP_eq_length_filter]
      exact List.countP_mono_left (fun x _ => h x)
    rcases List.mem_cons.1 ha with e | e
    · subst e
      simp [hq, hp]; omega
    · have := ih e
      rcases hb : P b with _ | _
      · rcases hb' : Q b with _ | _ <;> simp [hb, hb'] <;> omega
      · have := h b hb
        simp [hb, this]; omega
theorem aheadB_trans {a b c : Ht} (h : aheadB a b = true) (k : aheadB b c = true) : aheadB a c = true := by
  rw [aheadB_iff] at *; omega
theorem aheadB_irr (a : Ht) : aheadB a a = false := by
  rw [aheadB_false]; exact leH_refl a
theorem rkW_lt {ms : List Mk} (q : List Int) {x y : Int} (hy : 0 ≤ zFind ms y) (h : aheadB (hitOf ms q y) (hitOf ms q x) = true) : rkW ms q y < rkW ms q x := by
  obtain ⟨a, b, c⟩ := zIdx_lt hy
  refine filter_lt _ (fun i hi => aheadB_trans hi h) (List.mem_range.2 a) ?_ ?_
  · rw [c]; exact h
  · rw [c]; exact aheadB_irr _
/-- A walk. -/
def walkF (ms : List Mk) (ls : List (List Int)) (q : List Int) : Nat → Int → List Int
  | 0, x => [x]
  | f + 1, x => if stepW ms ls q x = x then [x] else x :: walkF ms ls q f (stepW ms ls q x)
def walkG (ms : List Mk) (ls : List (List Int)) (q : List Int) (x : Int) : List Int := walkF ms ls q (rkW ms q x) x
theorem step_find {ms : List Mk} {ls : List (List Int)} {q : List Int} (h : webB ms ls = true) {x : Int} (hx : 0 ≤ zFind ms x) : 0 ≤ zFind ms (stepW ms ls q x) := by
  rcases (stepW_ok ms ls q x).1 with e | ⟨e, -⟩
  · rw [e]; exact hx
  · exact (web_link h (zIdx_lt hx).1 e).1
theorem step_rk {ms : List Mk} {ls : List (List Int)} {q : List Int} (h : webB ms ls = true) {x : Int} (hx : 0 ≤ zFind ms x) (hne : stepW ms ls q x ≠ x) : rkW ms q (stepW ms ls q x) < rkW ms q x := by
  rcases (stepW_ok ms ls q x).1 with e | ⟨-, e⟩
  · exact absurd e hne
  · exact rkW_lt q (step_find h hx) e
theorem walkF_more {ms : List Mk} {ls : List (List Int)} {q : List Int} (h : webB ms ls = true) : ∀ (f g : Nat) (x : Int), 0 ≤ zFind ms x → rkW ms q x ≤ f → rkW ms q x ≤ g → walkF ms ls q f x = walkF ms ls q g x := by
  intro f
  induction f with
  | zero =>
    intro g x hx hf hg
    have hs : stepW ms ls q x = x := by
      rcases Int.lt_trichotomy (stepW ms ls q x) x with e | e | e
      · have := step_rk (q := q) h hx (by omega); omega
      · exact e
      · have := step_rk (q := q) h hx (by omega); omega
    cases g with
    | zero => rfl
    | succ g => simp [walkF, hs]
  | succ f ih =>
    intro g x hx hf hg
    by_cases hs : stepW ms ls q x = x
    · cases g with
      | zero => simp [walkF, hs]
      | succ g => simp [walkF, hs]
    · have hr := step_rk (q := q) h hx hs
      cases g with
      | zero => omega
      | succ g =>
        simp only [walkF, if_neg hs]
        rw [ih g _ (step_find h hx) (by omega) (by omega)]
theorem walkG_end {ms : List Mk} {ls : List (List Int)} {q : List Int} {x : Int} (hs : stepW ms ls q x = x) : walkG ms ls q x = [x] := by
  unfold walkG
  cases rkW ms q x with
  | zero => rfl
  | succ n => simp [walkF, hs]
theorem walkG_step {ms : List Mk} {ls : List (List Int)} {q : List Int} (h : webB ms ls = true) {x : Int} (hx : 0 ≤ zFind ms x) (hs : stepW ms ls q x ≠ x) : walkG ms ls q x = x :: walkG ms ls q (stepW ms ls q x) := by
  have hr := step_rk (q := q) h hx hs
  unfold walkG
  obtain ⟨n, hn⟩ : ∃ n, rkW ms q x = n + 1 := ⟨rkW ms q x - 1, by omega⟩
  rw [hn]
  simp only [walkF, if_neg hs]
  rw [walkF_more h n _ _ (step_find h hx) (by omega) (Nat.le_refl _)]
theorem web_small {ms : List Mk} {ls : List (List Int)} (h : webB ms ls = true) : ms.length ≤ 60 ∧ (∀ i, (mat ms i).length ≤ 4) ∧ ls.length ≤ 60 ∧ ∀ i, (cn ls i).length ≤ 60 := by
  have hm := web_marks h
  have h60 := marksB_len hm
  have hl := web_len h
  refine ⟨h60, fun i => ?_, by omega, fun i => ?_⟩
  · rcases Nat.lt_or_ge i ms.length with hi | hi
    · have := ((mOkAt_iff ms i).1 (marksB_at hm hi)).2.2.1
      exact (okB_len this).2
    · have : mat ms i = [] := by simp [mat, List.getD, hi]
      rw [this]; simp
  · rcases Nat.lt_or_ge i ms.length with hi | hi
    · have := links_short h hi; omega
    · have : cn ls i = [] := by simp [cn, List.getD, show ls.length ≤ i by omega]
      rw [this]; simp

end Go.Proofs.YtaaagmgglolibaaGreat
namespace Go.Proofs.YtaaagmgglolibaaGreat

/-- From the one mark one comes to the other. -/
inductive Con (ms : List Mk) (ls : List (List Int)) (i : Nat) : Nat → Prop
  | refl : Con ms ls i i
  | step {j k : Nat} : Con ms ls i j → j < ms.length → k < ms.length → mid ms k ∈ cn ls j → Con ms ls i k
theorem Con.trans {ms : List Mk} {ls : List (List Int)} {i j k : Nat} (h : Con ms ls i j) (h' : Con ms ls j k) : Con ms ls i k := by
  induction h' with
  | refl => exact h
  | step _ h1 h2 h3 ih => exact ih.step h1 h2 h3
theorem Con.one {ms : List Mk} {ls : List (List Int)} {i j : Nat} (hi : i < ms.length) (hj : j < ms.length) (h : mid ms j ∈ cn ls i) : Con ms ls i j := Con.refl.step hi hj h
theorem Con.symm {ms : List Mk} {ls : List (List Int)} (hw : webB ms ls = true) {i j : Nat} (h : Con ms ls i j) : Con ms ls j i := by
  induction h with
  | refl => exact Con.refl
  | @step j k _ h1 h2 h3 ih =>
    have h4 := web_link hw h1 h3
    rw [(zFind_mid (web_marks hw) h2).2] at h4
    exact (Con.one h2 h1 h4.2.2.2.2).trans ih
theorem Con.lt {ms : List Mk} {ls : List (List Int)} {i j : Nat} (h : Con ms ls i j) (hi : i < ms.length) : j < ms.length := by
  cases h with
  | refl => exact hi
  | step _ _ h2 _ => exact h2
/-- What has been seen: closed. -/
structure SeenOk (ms : List Mk) (ls : List (List Int)) (S : List Int) : Prop where
  nd : S.Nodup
  find : ∀ x ∈ S, 0 ≤ zFind ms x
theorem SeenOk.more {ms : List Mk} {ls : List (List Int)} {S : List Int} {x : Int} (h : SeenOk ms ls S) (hx : 0 ≤ zFind ms x) (hn : x ∉ S) : SeenOk ms ls (S ++ [x]) := by
  refine ⟨?_, fun y hy => ?_⟩
  · rw [List.nodup_append]
    refine ⟨h.nd, by simp, fun a ha b hb e => ?_⟩
    simp at hb
    exact hn (by rw [← hb, ← e]; exact ha)
  · rcases List.mem_append.1 hy with e | e
    · exact h.find y e
    · simp at e; rw [e]; exact hx
theorem SeenOk.short {ms : List Mk} {ls : List (List Int)} {S : List Int} (h : SeenOk ms ls S) : S.length ≤ ms.length := ids_short h.nd h.find
def Closed (ms : List Mk) (ls : List (List Int)) (S : List Int) : Prop := ∀ x ∈ S, ∀ y ∈ cn ls (zIdx ms x), y ∈ S
/-- While the island of mark i is flooded: S0 had been seen before; T is to do. -/
structure Flood (ms : List Mk) (ls : List (List Int)) (S0 : List Int) (i : Nat) (S T : List Int) : Prop where
  ok : SeenOk ms ls S
  sub : ∀ x ∈ S0, x ∈ S
  tf : ∀ x ∈ T, 0 ≤ zFind ms x
  cl : ∀ x ∈ S, ∀ y ∈ cn ls (zIdx ms x), y ∈ S ∨ y ∈ T
  own : mid ms i ∈ S ∨ mid ms i ∈ T
  con : ∀ x, x ∈ S ∨ x ∈ T → x ∈ S0 ∨ Con ms ls i (zIdx ms x)
theorem Flood.start {ms : List Mk} {ls : List (List Int)} (hw : webB ms ls = true) {S0 : List Int} {i : Nat} (h : SeenOk ms ls S0) (hc : Closed ms ls S0) (hi : i < ms.length) : Flood ms ls S0 i S0 [mid ms i] := by
  have hf := zFind_mid (web_marks hw) hi
  refine ⟨h, fun x hx => hx, fun x hx => ?_, fun x hx y hy => Or.inl (hc x hx y hy), Or.inr (by simp), fun x hx => ?_⟩
  · simp at hx; rw [hx, hf.1]; omega
  · rcases hx with e | e
    · exact Or.inl e
    · simp at e; right; rw [e, hf.2]; exact Con.refl
theorem Flood.skip {ms : List Mk} {ls : List (List Int)} {S0 S T : List Int} {i : Nat} {x : Int} (h : Flood ms ls S0 i S (x :: T)) (hx : x ∈ S) : Flood ms ls S0 i S T := by
  refine ⟨h.ok, h.sub, fun y hy => h.tf y (List.mem_cons_of_mem _ hy), fun y hy z hz => ?_, ?_, fun y hy => h.con y (hy.imp id (List.mem_cons_of_mem _))⟩
  · rcases h.cl y hy z hz with e | e
    · exact Or.inl e
    · rcases List.mem_cons.1 e with e' | e'
      · left; rw [e']; exact hx
      · exact Or.inr e'
  · rcases h.own with e | e
    · exact Or.inl e
    · rcases List.mem_cons.1 e with e' | e'
      · left; rw [e']; exact hx
      · exact Or.inr e'
theorem Flood.take {ms : List Mk} {ls : List (List Int)} (hw : webB ms ls = true) {S0 S T : List Int} {i : Nat} {x : Int} (h : Flood ms ls S0 i S (x :: T)) (hx : x ∉ S) : Flood ms ls S0 i (S ++ [x]) (T ++ cn ls (zIdx ms x)) := by
  have hf := h.tf x (by simp)
  obtain ⟨a, b, c⟩ := zIdx_lt hf
  refine ⟨h.ok.more hf hx, fun y hy => by simp [h.sub y hy], fun y hy => ?_, fun y hy z hz => ?_, ?_, fun y hy => ?_⟩
  · rcases List.mem_append.1 hy with e | e
    · exact h.tf y (List.mem_cons_of_mem _ e)
    · exact (web_link hw a e).1
  · rcases List.mem_append.1 hy with e | e
    · rcases h.cl y e z hz with e' | e'
      · left; simp [e']
      · rcases List.mem_cons.1 e' with e'' | e''
        · left; simp [e'']
        · right; simp [e'']
    · simp at e; rw [e] at hz; right; simp [hz]
  · rcases h.own with e | e
    · left; simp [e]
    · rcases List.mem_cons.1 e with e' | e'
      · left; simp [e']
      · right; simp [e']
  · have hxc : x ∈ S0 ∨ Con ms ls i (zIdx ms x) := h.con x (Or.inr (by simp))
    have hxn : Con ms ls i (zIdx ms x) := by
      rcases hxc with e | e
      · exact absurd (h.sub x e) hx
      · exact e
    rcases hy with e | e
    · rcases List.mem_append.1 e with e' | e'
      · exact h.con y (Or.inl e')
      · simp at e'; rw [e']; exact Or.inr hxn
    · rcases List.mem_append.1 e with e' | e'
      · exact h.con y (Or.inr (List.mem_cons_of_mem _ e'))
      · have hl := web_link hw a e'
        right
        exact hxn.step a hl.2.1 (by rw [hl.2.2.1]; exact e')
theorem Flood.done {ms : List Mk} {ls : List (List Int)} {S0 S : List Int} {i : Nat} (h : Flood ms ls S0 i S []) : Closed ms ls S ∧ mid ms i ∈ S := by
  refine ⟨fun x hx y hy => ?_, ?_⟩
  · rcases h.cl x hx y hy with e | e
    · exact e
    · simp at e
  · rcases h.own with e | e
    · exact e
    · simp at e
/-- What has been seen when the first i marks have been looked at. -/
structure Seen (ms : List Mk) (ls : List (List Int)) (i : Nat) (S : List Int) : Prop where
  ok : SeenOk ms ls S
  cl : Closed ms ls S
  own : ∀ j, j < i → mid ms j ∈ S
  con : ∀ x ∈ S, ∃ j, j < i ∧ Con ms ls j (zIdx ms x)
theorem Seen.start {ms : List Mk} {ls : List (List Int)} : Seen ms ls 0 [] := ⟨⟨by simp, fun x hx => by simp at hx⟩, fun x hx => by simp at hx, fun j hj => by omega, fun x hx => by simp at hx⟩
end Go.Proofs.YtaaagmgglolibaaGreat
namespace Go.Proofs.YtaaagmgglolibaaGreat

/-- A number into a list that rises, once. -/
def insI : List Int → Int → List Int
  | [], n => [n]
  | x :: l, n => if x < n then x :: insI l n else if x = n then x :: l else n :: x :: l
def ownI (ids : List Int) : List Int := ids.foldl insI []
theorem mem_insI (l : List Int) (n y : Int) : y ∈ insI l n ↔ y = n ∨ y ∈ l := by
  induction l with
  | nil => simp [insI]
  | cons x l ih =>
    simp only [insI]
    by_cases h1 : x < n
    · rw [if_pos h1, List.mem_cons, ih, List.mem_cons]
      constructor
      · rintro (h | h | h)
        · exact Or.inr (Or.inl h)
        · exact Or.inl h
        · exact Or.inr (Or.inr h)
      · rintro (h | h | h)
        · exact Or.inr (Or.inl h)
        · exact Or.inl h
        · exact Or.inr (Or.inr h)
    · rw [if_neg h1]
      by_cases h2 : x = n
      · rw [if_pos h2, h2]; simp
      · rw [if_neg h2]; simp
theorem insI_pairs {l : List Int} (h : l.Pairwise (fun a b => a < b)) (n : Int) : (insI l n).Pairwise (fun a b => a < b) := by
  induction l with
  | nil => simp [insI]
  | cons x l ih =>
    obtain ⟨h1, h2⟩ := List.pairwise_cons.1 h
    simp only [insI]
    by_cases hx : x < n
    · rw [if_pos hx, List.pairwise_cons]
      refine ⟨fun y hy => ?_, ih h2⟩
      rcases (mem_insI l n y).1 hy with e | e
      · rw [e]; exact hx
      · exact h1 y e
    · rw [if_neg hx]
      by_cases he : x = n
      · rw [if_pos he]; exact h
      · rw [if_neg he, List.pairwise_cons]
        refine ⟨fun y hy => ?_, h⟩
        rcases List.mem_cons.1 hy with e | e
        · rw [e]; omega
        · have := h1 y e; omega
theorem ownI_fold (ids acc : List Int) (h : acc.Pairwise (fun a b => a < b)) : (ids.foldl insI acc).Pairwise (fun a b => a < b) ∧ ∀ y, y ∈ ids.foldl insI acc ↔ y ∈ acc ∨ y ∈ ids := by
  induction ids generalizing acc with
  | nil => exact ⟨h, fun y => by simp⟩
  | cons x ids ih =>
    obtain ⟨h1, h2⟩ := ih (insI acc x) (insI_pairs h x)
    refine ⟨h1, fun y => ?_⟩
    rw [List.foldl_cons, h2, mem_insI, List.mem_cons]
    constructor
    · rintro ((e | e) | e)
      · exact Or.inr (Or.inl e)
      · exact Or.inl e
      · exact Or.inr (Or.inr e)
    · rintro (e | e | e)
      · exact Or.inl (Or.inr e)
      · exact Or.inl (Or.inl e)
      · exact Or.inr e
theorem ownI_mem (ids : List Int) (y : Int) : y ∈ ownI ids ↔ y ∈ ids := by
  have := (ownI_fold ids [] List.Pairwise.nil).2 y
  simpa [ownI] using this
theorem pairs_rise {l : List Int} (h : l.Pairwise (fun a b => a < b)) : lvRise l = true := by
  rw [lvRise_iff]
  intro j hj
  have h' := List.pairwise_iff_getElem.1 h j (j + 1) (by omega) hj (by omega)
  have e1 : nth l j = l[j] := by simp [nth, List.getD, show j < l.length by omega]
  have e2 : nth l (j + 1) = l[j + 1] := by simp [nth, List.getD, hj]
  rw [e1, e2]
  exact h'
theorem ownI_rise (ids : List Int) : lvRise (ownI ids) = true := pairs_rise (ownI_fold ids [] List.Pairwise.nil).1

def lnkI (ms : List Mk) (ls : List (List Int)) (ids : List Int) (x : Int) (i : Nat) : List Int := if hasB ids (mid ms i) = true then cn ls i ++ [x] else cn ls i
def lnkL (ms : List Mk) (ls : List (List Int)) (ids : List Int) (x : Int) : List (List Int) := (List.range ms.length).map (lnkI ms ls ids x) ++ [ownI ids]
theorem lnkL_len (ms : List Mk) (ls : List (List Int)) (ids : List Int) (x : Int) : (lnkL ms ls ids x).length = ms.length + 1 := by simp [lnkL]
theorem lnkL_at {ms : List Mk} {ls : List (List Int)} {ids : List Int} {x : Int} {i : Nat} (h : i < ms.length) : cn (lnkL ms ls ids x) i = lnkI ms ls ids x i := by
  simp [cn, lnkL, List.getD, h, List.getElem?_append_left]
theorem lnkL_last (ms : List Mk) (ls : List (List Int)) (ids : List Int) (x : Int) : cn (lnkL ms ls ids x) ms.length = ownI ids := by
  simp [cn, lnkL, List.getD]
theorem lnkI_mem {ms : List Mk} {ls : List (List Int)} {ids : List Int} {x y : Int} {i : Nat} : y ∈ lnkI ms ls ids x i ↔ y ∈ cn ls i ∨ (y = x ∧ hasB ids (mid ms i) = true) := by
  unfold lnkI
  by_cases h : hasB ids (mid ms i) = true
  · rw [if_pos h]; simp [h]
  · rw [if_neg h]; simp [h]
theorem mid_snoc {ms : List Mk} {m : Mk} {i : Nat} (h : i < ms.length) : mid (ms ++ [m]) i = mid ms i := by simp [mid, List.getD, h, List.getElem?_append_left]
theorem mat_snoc {ms : List Mk} {m : Mk} {i : Nat} (h : i < ms.length) : mat (ms ++ [m]) i = mat ms i := by simp [mat, List.getD, h, List.getElem?_append_left]
theorem mid_last (ms : List Mk) (m : Mk) : mid (ms ++ [m]) ms.length = m.1 := by simp [mid, List.getD]
theorem mat_last (ms : List Mk) (m : Mk) : mat (ms ++ [m]) ms.length = m.2 := by simp [mat, List.getD]
/-- A web with one more mark is a web. -/
theorem linked_web {ms : List Mk} {ls : List (List Int)} {ids : List Int} {m : Mk} (hw : webB ms ls = true) (hm : marksB (ms ++ [m]) = true) (hids : ∀ x ∈ ids, 0 ≤ zFind ms x) : webB (ms ++ [m]) (lnkL ms ls ids m.1) = true := by
  have hmw := web_marks hw
  have hlen := web_len hw
  have hz : ∀ {j}, j < ms.length → zFind (ms ++ [m]) (mid ms j) = (j : Int) ∧ zIdx (ms ++ [m]) (mid ms j) = j := fun {j} hj => by
    have := zFind_mid hm (i := j) (by simp; omega)
    rwa [mid_snoc hj] at this
  have hzl : zFind (ms ++ [m]) m.1 = (ms.length : Int) ∧ zIdx (ms ++ [m]) m.1 = ms.length := by
    have := zFind_mid hm (i := ms.length) (by simp)
    rwa [mid_last] at this
  have hidx : ∀ x ∈ ids, ∃ j, j < ms.length ∧ mid ms j = x := fun x hx => ⟨zIdx ms x, (zIdx_lt (hids x hx)).1, (zIdx_lt (hids x hx)).2.2⟩
  refine (webB_iff _ _).2 ⟨hm, by rw [lnkL_len]; simp, fun i hi => ?_⟩
  rw [lnkL_len] at hi
  refine (webAt_iff _ _ _).2 ?_
  rcases Nat.lt_or_ge i ms.length with h | h
  · rw [lnkL_at h]
    constructor
    · refine pairs_rise ?_
      have hp := rise_pairs (web_rise hw h)
      unfold lnkI
      by_cases hb : hasB ids (mid ms i) = true
      · rw [if_pos hb, List.pairwise_append]
        refine ⟨hp, by simp, fun a ha b hb' => ?_⟩
        simp at hb'
        have hl := web_link hw h ha
        have := zmid_rises hm (i := zIdx ms a) (j := ms.length) hl.2.1 (by simp)
        rw [mid_snoc hl.2.1, mid_last, hl.2.2.1] at this
        rw [hb']
        exact this
      · rw [if_neg hb]; exact hp
    · intro k hk
      have hx : nth (lnkI ms ls ids m.1 i) k ∈ lnkI ms ls ids m.1 i := (hasB_iff _ _).1 (hasB_nth hk)
      generalize nth (lnkI ms ls ids m.1 i) k = x at hx
      rw [linkB_iff, mid_snoc h]
      rcases lnkI_mem.1 hx with hx | ⟨rfl, hxb⟩
      · have hl := web_link hw h hx
        have h2 := hz hl.2.1
        rw [hl.2.2.1] at h2
        refine ⟨by omega, by have := hl.2.2.2.1; omega, ?_⟩
        rw [h2.2, lnkL_at hl.2.1, hasB_iff]
        exact lnkI_mem.2 (Or.inl hl.2.2.2.2)
      · refine ⟨by omega, by omega, ?_⟩
        rw [hzl.2, lnkL_last, hasB_iff, ownI_mem]
        exact (hasB_iff _ _).1 hxb
  · obtain rfl : i = ms.length := by omega
    rw [lnkL_last]
    refine ⟨ownI_rise ids, fun k hk => ?_⟩
    have hx : nth (ownI ids) k ∈ ids := (ownI_mem _ _).1 ((hasB_iff _ _).1 (hasB_nth hk))
    generalize nth (ownI ids) k = x at hx
    obtain ⟨j, hj, rfl⟩ := hidx x hx
    rw [linkB_iff, mid_last, (hz hj).1, (hz hj).2, lnkL_at hj, hasB_iff]
    exact ⟨by omega, by omega, lnkI_mem.2 (Or.inr ⟨rfl, (hasB_iff _ _).2 hx⟩)⟩
/-- Linked. -/
def nearI (ms : List Mk) (p : List Int) (most : Int) : List Int := (nearL ms p most).map (fun h => h.1)
def mostB (most : Int) : Bool := decide (1 ≤ most) && decide (most ≤ 8)
def linkedB (ms : List Mk) (ls : List (List Int)) (m : Mk) (most : Int) : Bool := webB ms ls && mostB most && marksB (ms ++ [m])
theorem nearI_find {ms : List Mk} (hm : marksB ms = true) {p : List Int} {most : Int} : ∀ x ∈ nearI ms p most, 0 ≤ zFind ms x := by
  intro x hx
  obtain ⟨h, hh, rfl⟩ := List.mem_map.1 hx
  unfold nearL at hh
  split at hh
  · have h1 := (sortL_perm _).mem_iff.1 (List.mem_of_mem_take hh)
    obtain ⟨mk, hmk, rfl⟩ := List.mem_map.1 h1
    obtain ⟨i, hi, e⟩ := List.mem_iff_getElem.1 hmk
    have e2 : mid ms i = mk.1 := by simp [mid, List.getD, hi, e]
    show 0 ≤ zFind ms mk.1
    rw [← e2, (zFind_mid hm hi).1]
    omega
  · simp at hh

end Go.Proofs.YtaaagmgglolibaaGreat
namespace Go.Proofs.YtaaagmgglolibaaGreat

/-- Of the first n that are seen the first that was not opened; -1 of none. -/
def outTo (s : List Ht) (op : List Int) : Nat → Int
  | 0 => -1
  | k + 1 => if 0 ≤ outTo s op k then outTo s op k else if hasB op (hnth s k).1 = true then -1 else (k : Int)
theorem outTo_ok (s : List Ht) (op : List Int) (n : Nat) : -1 ≤ outTo s op n ∧ outTo s op n < n ∧ (0 ≤ outTo s op n → hasB op (hnth s (outTo s op n).toNat).1 = false) ∧ (outTo s op n < 0 → ∀ k, k < n → hasB op (hnth s k).1 = true) := by
  induction n with
  | zero => simp [outTo]
  | succ n ih =>
    obtain ⟨h1, h2, h3, h4⟩ := ih
    simp only [outTo]
    by_cases h : 0 ≤ outTo s op n
    · rw [if_pos h]
      exact ⟨h1, by omega, h3, fun h' => by omega⟩
    · rw [if_neg h]
      rcases hb : hasB op (hnth s n).1 with _ | _
      · simp only [Bool.false_eq_true, if_false]
        exact ⟨by omega, by omega, fun _ => by simpa using hb, fun h' => by omega⟩
      · simp only [if_true]
        refine ⟨by omega, by omega, fun h' => by omega, fun _ k hk => ?_⟩
        rcases Nat.lt_or_ge k n with e | e
        · exact h4 (by omega) k e
        · obtain rfl : k = n := by omega
          exact hb
/-- What holds while one looks. -/
structure BeamOk (ms : List Mk) (q : List Int) (s : List Ht) (ids : List Int) : Prop where
  nd : ids.Nodup
  find : ∀ x ∈ ids, 0 ≤ zFind ms x
  sn : s = sortL (ids.map (hitOf ms q))
structure OpenOk (ms : List Mk) (ls : List (List Int)) (ids op : List Int) : Prop where
  nd : op.Nodup
  sub : ∀ x ∈ op, x ∈ ids
  all : ∀ x ∈ op, ∀ y ∈ cn ls (zIdx ms x), y ∈ ids
theorem BeamOk.len {ms : List Mk} {q : List Int} {s : List Ht} {ids : List Int} (h : BeamOk ms q s ids) : s.length = ids.length := by rw [h.sn, sortL_length, List.length_map]
theorem BeamOk.short {ms : List Mk} {q : List Int} {s : List Ht} {ids : List Int} (h : BeamOk ms q s ids) : ids.length ≤ ms.length := ids_short h.nd h.find
theorem BeamOk.at {ms : List Mk} {q : List Int} {s : List Ht} {ids : List Int} (h : BeamOk ms q s ids) {k : Nat} (hk : k < s.length) : (hnth s k).1 ∈ ids ∧ hnth s k = hitOf ms q (hnth s k).1 := by
  have hm : hnth s k ∈ ids.map (hitOf ms q) := by
    have h1 : hnth s k ∈ s := by simp [hnth, List.getD, hk]
    rw [h.sn] at h1
    rw [h.sn]
    exact (sortL_perm _).mem_iff.1 h1
  obtain ⟨x, hx, e⟩ := List.mem_map.1 hm
  rw [← e]
  exact ⟨hx, rfl⟩
end Go.Proofs.YtaaagmgglolibaaGreat
namespace Go.Proofs.YtaaagmgglolibaaGreat

/-- The numbers of what is seen. -/
def idsH (s : List Ht) : List Int := s.map (fun h => h.1)
theorem idsH_len (s : List Ht) : (idsH s).length = s.length := by simp [idsH]
theorem idsH_mem {s : List Ht} {x : Int} : x ∈ idsH s ↔ ∃ h ∈ s, h.1 = x := by simp [idsH]
theorem idsH_nth {s : List Ht} {k : Nat} (hk : k < s.length) : (hnth s k).1 ∈ idsH s := idsH_mem.2 ⟨_, by simp [hnth, List.getD, hk], rfl⟩
theorem idsH_at {s : List Ht} {x : Int} (h : x ∈ idsH s) : ∃ k, k < s.length ∧ (hnth s k).1 = x := by
  obtain ⟨h, hm, e⟩ := idsH_mem.1 h
  obtain ⟨k, hk, e'⟩ := List.mem_iff_getElem.1 hm
  exact ⟨k, hk, by simp [hnth, List.getD, hk, e', e]⟩
theorem hnth_in14 {s : List Ht} {k : Nat} (hk : k < s.length) : hnth s k ∈ s := by simp [hnth, List.getD, hk]
/-- One more is seen; dd tells how far it is. -/
def seeD (dd : Int → Int) (s : List Ht) (x : Int) : List Ht := if hasB (idsH s) x = true then s else putL s (x, dd x)
def seesD (dd : Int → Int) (s : List Ht) (l : List Int) : List Ht := l.foldl (seeD dd) s
/-- What is seen: in order, each once, with its distance. -/
structure LookD (dd : Int → Int) (s : List Ht) : Prop where
  so : SortedH s
  nd : (idsH s).Nodup
  far : ∀ h ∈ s, h.2 = dd h.1
theorem idsH_put (s : List Ht) (h : Ht) (x : Int) : x ∈ idsH (putL s h) ↔ x = h.1 ∨ x ∈ idsH s := by
  simp only [idsH_mem, (putL_perm s h).mem_iff, List.mem_cons]
  constructor
  · rintro ⟨g, e | e, rfl⟩
    · left; rw [e]
    · right; exact ⟨g, e, rfl⟩
  · rintro (rfl | ⟨g, e, rfl⟩)
    · exact ⟨h, Or.inl rfl, rfl⟩
    · exact ⟨g, Or.inr e, rfl⟩
theorem LookD.nil (dd : Int → Int) : LookD dd [] := ⟨List.Pairwise.nil, by simp [idsH], fun h hh => by cases hh⟩
theorem LookD.see {dd : Int → Int} {s : List Ht} (h : LookD dd s) (x : Int) : LookD dd (seeD dd s x) := by
  unfold seeD
  rcases hb : hasB (idsH s) x with _ | _
  · simp only [Bool.false_eq_true, if_false]
    have hno := (hasB_no _ _).1 hb
    refine ⟨putL_sorted h.so _, ?_, fun g hg => ?_⟩
    · have hp : (idsH (putL s (x, dd x))).Perm (x :: idsH s) := by simpa [idsH] using (putL_perm s (x, dd x)).map (fun h => h.1)
      rw [hp.nodup_iff, List.nodup_cons]
      exact ⟨hno, h.nd⟩
    · rcases List.mem_cons.1 ((putL_perm s (x, dd x)).mem_iff.1 hg) with e | e
      · rw [e]
      · exact h.far g e
  · simp only [if_true]; exact h
theorem seeD_mem {dd : Int → Int} {s : List Ht} {x y : Int} : y ∈ idsH (seeD dd s x) ↔ y = x ∨ y ∈ idsH s := by
  unfold seeD
  rcases hb : hasB (idsH s) x with _ | _
  · simp only [Bool.false_eq_true, if_false]
    exact idsH_put _ _ _
  · simp only [if_true]
    constructor
    · exact Or.inr
    · rintro (rfl | e)
      · exact (hasB_iff _ _).1 hb
      · exact e
theorem seesD_ok {dd : Int → Int} {s : List Ht} (h : LookD dd s) (l : List Int) : LookD dd (seesD dd s l) ∧ ∀ y, y ∈ idsH (seesD dd s l) ↔ y ∈ l ∨ y ∈ idsH s := by
  induction l generalizing s with
  | nil => exact ⟨h, fun y => by simp [seesD]⟩
  | cons x l ih =>
    obtain ⟨h1, h2⟩ := ih (h.see x)
    refine ⟨h1, fun y => ?_⟩
    have e := h2 y
    show y ∈ idsH (seesD dd (seeD dd s x) l) ↔ _
    rw [e, seeD_mem, List.mem_cons]
    constructor
    · rintro (a | a | a)
      · exact Or.inl (Or.inr a)
      · exact Or.inl (Or.inl a)
      · exact Or.inr a
    · rintro ((a | a) | a)
      · exact Or.inr (Or.inl a)
      · exact Or.inl a
      · exact Or.inr (Or.inr a)
/-- What holds while the program looks. -/
structure LkOk (ms : List Mk) (ls : List (List Int)) (dd : Int → Int) (s : List Ht) (op : List Int) : Prop where
  look : LookD dd s
  find : ∀ x ∈ idsH s, 0 ≤ zFind ms x
  nd : op.Nodup
  sub : ∀ x ∈ op, x ∈ idsH s
  all : ∀ x ∈ op, ∀ y ∈ cn ls (zIdx ms x), y ∈ idsH s
theorem LkOk.short {ms : List Mk} {ls : List (List Int)} {dd : Int → Int} {s : List Ht} {op : List Int} (h : LkOk ms ls dd s op) : s.length ≤ ms.length := by
  have := ids_short h.look.nd h.find
  rwa [idsH_len] at this
theorem LkOk.nil (ms : List Mk) (ls : List (List Int)) (dd : Int → Int) : LkOk ms ls dd [] [] := ⟨LookD.nil dd, fun x hx => (by simp [idsH] at hx), (by simp), fun x hx => (by simp at hx), fun x hx => (by simp at hx)⟩
theorem LkOk.see {ms : List Mk} {ls : List (List Int)} {dd : Int → Int} {s : List Ht} {op : List Int} (h : LkOk ms ls dd s op) {x : Int} (hx : 0 ≤ zFind ms x) : LkOk ms ls dd (seeD dd s x) op :=
  ⟨h.look.see x, fun y hy => by
    rcases seeD_mem.1 hy with e | e
    · rw [e]; exact hx
    · exact h.find y e, h.nd, fun y hy => seeD_mem.2 (Or.inr (h.sub y hy)), fun y hy z hz => seeD_mem.2 (Or.inr (h.all y hy z hz))⟩
/-- The one that is opened next. -/
def nextI (s : List Ht) (op : List Int) (wd : Nat) : Int := (hnth s (outTo s op (min s.length wd)).toNat).1
theorem next_ok {s : List Ht} {op : List Int} {wd : Nat} (h : 0 ≤ outTo s op (min s.length wd)) : (outTo s op (min s.length wd)).toNat < s.length ∧ nextI s op wd ∈ idsH s ∧ nextI s op wd ∉ op := by
  obtain ⟨h1, h2, h3, -⟩ := outTo_ok s op (min s.length wd)
  have hlt : (outTo s op (min s.length wd)).toNat < s.length := by omega
  exact ⟨hlt, idsH_nth hlt, (hasB_no _ _).1 (h3 h)⟩
theorem LkOk.opened {ms : List Mk} {ls : List (List Int)} (hw : webB ms ls = true) {dd : Int → Int} {s : List Ht} {op : List Int} (h : LkOk ms ls dd s op) {x : Int} (hx : x ∈ idsH s) (hn : x ∉ op) : LkOk ms ls dd (seesD dd s (cn ls (zIdx ms x))) (op ++ [x]) := by
  have hf := zIdx_lt (h.find x hx)
  obtain ⟨h1, h2⟩ := seesD_ok h.look (cn ls (zIdx ms x))
  refine ⟨h1, fun y hy => ?_, ?_, fun y hy => ?_, fun y hy z hz => ?_⟩
  · rcases (h2 y).1 hy with e | e
    · exact (web_link hw hf.1 e).1
    · exact h.find y e
  · rw [List.nodup_append]
    refine ⟨h.nd, by simp, fun a ha b hb e => ?_⟩
    simp at hb
    exact hn (by rw [← hb, ← e]; exact ha)
  · rcases List.mem_append.1 hy with e | e
    · exact (h2 y).2 (Or.inr (h.sub y e))
    · simp at e; rw [e]; exact (h2 x).2 (Or.inr hx)
  · rcases List.mem_append.1 hy with e | e
    · exact (h2 z).2 (Or.inr (h.all y e z hz))
    · simp at e; rw [e] at hz; exact (h2 z).2 (Or.inl hz)
/-- From what was seen and opened one comes to this. -/
inductive LkTo (ms : List Mk) (ls : List (List Int)) (dd : Int → Int) (wd : Nat) (s0 : List Ht) (op0 : List Int) : List Ht → List Int → Prop
  | refl : LkTo ms ls dd wd s0 op0 s0 op0
  | step {s : List Ht} {op : List Int} : LkTo ms ls dd wd s0 op0 s op → 0 ≤ outTo s op (min s.length wd) → LkTo ms ls dd wd s0 op0 (seesD dd s (cn ls (zIdx ms (nextI s op wd)))) (op ++ [nextI s op wd])
theorem LkTo.ok {ms : List Mk} {ls : List (List Int)} (hw : webB ms ls = true) {dd : Int → Int} {wd : Nat} {s0 s : List Ht} {op0 op : List Int} (h : LkTo ms ls dd wd s0 op0 s op) (h0 : LkOk ms ls dd s0 op0) : LkOk ms ls dd s op := by
  induction h with
  | refl => exact h0
  | step _ h2 ih => exact ih.opened hw (next_ok h2).2.1 (next_ok h2).2.2
/-- A step can be made only while some are not opened. -/
theorem LkOk.room {ms : List Mk} {ls : List (List Int)} {dd : Int → Int} {s : List Ht} {op : List Int} (h : LkOk ms ls dd s op) {x : Int} (hx : x ∈ idsH s) (hn : x ∉ op) : op.length < ms.length := by
  have := ids_short (ms := ms) (l := op ++ [x]) (by
    rw [List.nodup_append]
    refine ⟨h.nd, by simp, fun a ha b hb e => ?_⟩
    simp at hb
    exact hn (by rw [← hb, ← e]; exact ha)) (fun y hy => by
    rcases List.mem_append.1 hy with e | e
    · exact h.find y (h.sub y e)
    · simp at e; rw [e]; exact h.find x hx)
  simp at this
  omega

/-- How far a mark is, by its number. -/
def farD (ms : List Mk) (q : List Int) (x : Int) : Int := farV (mat ms (zIdx ms x)) q
theorem look_start {ms : List Mk} {ls : List (List Int)} {dd : Int → Int} {fr : Int} (hf : 0 ≤ zFind ms fr) : seeD dd [] fr = [(fr, dd fr)] ∧ LkOk ms ls dd [(fr, dd fr)] [] := by
  have e : seeD dd [] fr = [(fr, dd fr)] := rfl
  refine ⟨e, ?_⟩
  rw [← e]
  exact (LkOk.nil ms ls dd).see hf
/-- The first of all that are seen. -/
theorem head_least {dd : Int → Int} {s : List Ht} (h : LookD dd s) {x : Int} (hx : x ∈ idsH s) (hl : ∀ y ∈ idsH s, leH (x, dd x) (y, dd y)) : 0 < s.length ∧ hnth s 0 = (x, dd x) := by
  obtain ⟨k, hk, e⟩ := idsH_at hx
  have h0 : 0 < s.length := by omega
  refine ⟨h0, ?_⟩
  have hf0 := h.far _ (hnth_in14 h0)
  have hfk := h.far _ (hnth_in14 hk)
  have e0 : hnth s 0 = ((hnth s 0).1, dd (hnth s 0).1) := by rw [← hf0]
  have ek : hnth s k = (x, dd x) := by rw [← e, ← hfk]
  refine leH_antisymm ?_ (by rw [e0]; exact hl _ (idsH_nth h0))
  rw [← ek]
  rcases Nat.eq_zero_or_pos k with c | c
  · rw [c]; exact leH_refl _
  · have := List.pairwise_iff_getElem.1 h.so _ _ h0 hk c
    simpa [hnth, List.getD, h0, hk] using this
theorem head_le {dd : Int → Int} {s : List Ht} (h : LookD dd s) {x : Int} (hx : x ∈ idsH s) : leH (hnth s 0) (x, dd x) := by
  obtain ⟨k, hk, e⟩ := idsH_at hx
  have h0 : 0 < s.length := by omega
  have hfk := h.far _ (hnth_in14 hk)
  have ek : hnth s k = (x, dd x) := by rw [← e, ← hfk]
  rw [← ek]
  rcases Nat.eq_zero_or_pos k with c | c
  · rw [c]; exact leH_refl _
  · have := List.pairwise_iff_getElem.1 h.so _ _ h0 hk c
    simpa [hnth, List.getD, h0, hk] using this
/-- While the program looks with one alone, it walks. -/
theorem LkTo.walk {ms : List Mk} {ls : List (List Int)} (hw : webB ms ls = true) {q : List Int} {fr : Int} (hf : 0 ≤ zFind ms fr) {s : List Ht} {op : List Int} (h : LkTo ms ls (farD ms q) 1 [(fr, farD ms q fr)] [] s op) :
    ∃ x, 0 < s.length ∧ hnth s 0 = (x, farD ms q x) ∧ 0 ≤ zFind ms x ∧ ((x ∉ op ∧ walkG ms ls q fr = op ++ walkG ms ls q x) ∨ (x ∈ op ∧ walkG ms ls q fr = op)) := by
  have hok0 := (look_start (ls := ls) (dd := farD ms q) hf).2
  induction h with
  | refl => exact ⟨fr, by simp, rfl, hf, Or.inl ⟨by simp, by simp⟩⟩
  | @step s op h1 h2 ih =>
    obtain ⟨x, hl, e0, hx, hc⟩ := ih
    have hok := h1.ok hw hok0
    have hmin : min s.length 1 = 1 := by omega
    have hxs : x ∈ idsH s := by have := idsH_nth hl; rw [e0] at this; exact this
    rcases hc with ⟨hno, hwk⟩ | ⟨hyes, -⟩
    · have ho : outTo s op (min s.length 1) = 0 := by
        rw [hmin]
        simp only [outTo, e0]
        rw [if_neg (by omega), if_neg (by rw [(hasB_no _ _).2 hno]; simp)]
        rfl
      have hn : nextI s op 1 = x := by unfold nextI; rw [ho]; simp [e0]
      rw [hn]
      have hok' := hok.opened hw hxs hno
      obtain ⟨-, hmem⟩ := seesD_ok hok.look (cn ls (zIdx ms x))
      obtain ⟨s1, s2, s3⟩ := stepW_ok ms ls q x
      have hle : leH (hitOf ms q (stepW ms ls q x)) (hitOf ms q x) := by
        rcases s1 with e | ⟨-, e⟩
        · rw [e]; exact leH_refl _
        · exact leH_of_ahead e
      have hin : stepW ms ls q x ∈ idsH (seesD (farD ms q) s (cn ls (zIdx ms x))) := by
        rcases s1 with e | ⟨e, -⟩
        · rw [e]; exact (hmem x).2 (Or.inr hxs)
        · exact (hmem _).2 (Or.inl e)
      obtain ⟨k1, k2⟩ := head_least hok'.look hin (fun y hy => by
        rcases (hmem y).1 hy with e | e
        · exact s3 y e
        · have := head_le hok.look e
          rw [e0] at this
          exact leH_trans hle this)
      refine ⟨stepW ms ls q x, k1, k2, step_find hw hx, ?_⟩
      by_cases hs : stepW ms ls q x = x
      · right
        refine ⟨by rw [hs]; simp, ?_⟩
        rw [hwk, walkG_end hs]
      · left
        have ha : aheadB (hitOf ms q (stepW ms ls q x)) (hitOf ms q x) = true := by
          rcases s1 with e | ⟨-, e⟩
          · exact absurd e hs
          · exact e
        refine ⟨fun hm => ?_, ?_⟩
        · rcases List.mem_append.1 hm with e | e
          · have := head_le hok.look (hok.sub _ e)
            rw [e0] at this
            have := (aheadB_false _ _).2 this
            rw [show ((stepW ms ls q x, farD ms q (stepW ms ls q x)) : Ht) = hitOf ms q (stepW ms ls q x) from rfl, show ((x, farD ms q x) : Ht) = hitOf ms q x from rfl, ha] at this
            cases this
          · simp at e; exact hs e
        · rw [hwk, walkG_step hw hx hs]; simp
    · exfalso
      have hlt : outTo s op (min s.length 1) < 0 := by
        rw [hmin]
        simp only [outTo, e0]
        rw [if_neg (by omega), if_pos ((hasB_iff _ _).2 hyes)]
        omega
      omega
/-- When all that are seen are opened, what is seen is closed. -/
theorem look_closed {ms : List Mk} {ls : List (List Int)} {dd : Int → Int} {s : List Ht} {op : List Int} {wd : Nat} (h : LkOk ms ls dd s op) (hwd : ms.length ≤ wd) (he : outTo s op (min s.length wd) < 0) : Closed ms ls (idsH s) ∧ ∀ x ∈ idsH s, x ∈ op := by
  have hl := h.short
  have hmin : min s.length wd = s.length := by omega
  rw [hmin] at he
  have hall := (outTo_ok s op s.length).2.2.2 he
  have ho : ∀ x ∈ idsH s, x ∈ op := by
    intro x hx
    obtain ⟨k, hk, e⟩ := idsH_at hx
    have := hall k hk
    rw [e] at this
    exact (hasB_iff _ _).1 this
  exact ⟨fun x hx y hy => h.all x (ho x hx) y hy, ho⟩
theorem LkTo.con {ms : List Mk} {ls : List (List Int)} (hw : webB ms ls = true) {dd : Int → Int} {wd : Nat} {s0 s : List Ht} {op0 op : List Int} {i : Nat} {S : List Int} (h : LkTo ms ls dd wd s0 op0 s op) (h0 : LkOk ms ls dd s0 op0) (hop : ∀ x ∈ S, x ∈ op0) (hc : ∀ x ∈ idsH s0, x ∈ S ∨ Con ms ls i (zIdx ms x)) : (∀ x ∈ idsH s0, x ∈ idsH s) ∧ (∀ x ∈ op0, x ∈ op) ∧ ∀ x ∈ idsH s, x ∈ S ∨ Con ms ls i (zIdx ms x) := by
  induction h with
  | refl => exact ⟨fun x hx => hx, fun x hx => hx, hc⟩
  | @step s op h1 h2 ih =>
    obtain ⟨k1, k2, k3⟩ := ih
    have hok := h1.ok hw h0
    obtain ⟨-, hin, hno⟩ := next_ok h2
    obtain ⟨-, hmem⟩ := seesD_ok hok.look (cn ls (zIdx ms (nextI s op wd)))
    have hf := zIdx_lt (hok.find _ hin)
    have hcx : Con ms ls i (zIdx ms (nextI s op wd)) := by
      rcases k3 _ hin with e | e
      · exact absurd (k2 _ (hop _ e)) hno
      · exact e
    refine ⟨fun x hx => (hmem x).2 (Or.inr (k1 x hx)), fun x hx => by simp [k2 x hx], fun x hx => ?_⟩
    rcases (hmem x).1 hx with e | e
    · have hl := web_link hw hf.1 e
      exact Or.inr (hcx.step hf.1 hl.2.1 (by rw [hl.2.2.1]; exact e))
    · exact k3 x e
/-- What the program has seen when it has looked at the first i marks. -/
structure IslOk (ms : List Mk) (ls : List (List Int)) (dd : Int → Int) (i : Nat) (s : List Ht) (op : List Int) : Prop where
  ok : LkOk ms ls dd s op
  opn : ∀ x ∈ idsH s, x ∈ op
  seen : Seen ms ls i (idsH s)
theorem IslOk.start (ms : List Mk) (ls : List (List Int)) (dd : Int → Int) : IslOk ms ls dd 0 [] [] :=
  ⟨LkOk.nil ms ls dd, fun x hx => by simp [idsH] at hx, Seen.start⟩
theorem IslOk.more {ms : List Mk} {ls : List (List Int)} (hw : webB ms ls = true) {dd : Int → Int} {i wd : Nat} {s0 s : List Ht} {op0 op : List Int} (h : IslOk ms ls dd i s0 op0) (hi : i < ms.length) (hwd : ms.length ≤ wd) (ht : LkTo ms ls dd wd (seeD dd s0 (mid ms i)) op0 s op) (he : outTo s op (min s.length wd) < 0) : IslOk ms ls dd (i + 1) s op := by
  have hf := zFind_mid (web_marks hw) hi
  have h0 := h.ok.see (x := mid ms i) (by omega)
  have hok := ht.ok hw h0
  obtain ⟨c1, c2⟩ := look_closed hok hwd he
  obtain ⟨k1, k2, k3⟩ := ht.con hw h0 (i := i) (S := idsH s0) h.opn (fun x hx => by
    rcases seeD_mem.1 hx with e | e
    · right; rw [e, hf.2]; exact Con.refl
    · exact Or.inl e)
  refine ⟨hok, c2, ⟨hok.look.nd, hok.find⟩, c1, fun j hj => ?_, fun x hx => ?_⟩
  · rcases Nat.lt_or_ge j i with e | e
    · exact k1 _ (seeD_mem.2 (Or.inr (h.seen.own j e)))
    · rw [show j = i by omega]; exact k1 _ (seeD_mem.2 (Or.inl rfl))
  · rcases k3 x hx with e | e
    · obtain ⟨j, hj, hc⟩ := h.seen.con x e
      exact ⟨j, by omega, hc⟩
    · exact ⟨i, by omega, e⟩
end Go.Proofs.YtaaagmgglolibaaGreat
namespace Go.Proofs.YtaaagmgglolibaaGreat

theorem insI_len (l : List Int) (n : Int) : (insI l n).length ≤ l.length + 1 := by
  induction l with
  | nil => simp [insI]
  | cons x l ih =>
    simp only [insI]
    split
    · simp; omega
    · split <;> simp
theorem fold_len14 (ids acc : List Int) : (ids.foldl insI acc).length ≤ acc.length + ids.length := by
  induction ids generalizing acc with
  | nil => simp
  | cons x ids ih =>
    have h1 := ih (insI acc x)
    have h2 := insI_len acc x
    simp only [List.foldl_cons, List.length_cons]
    omega
def lnkT (ms : List Mk) (ls : List (List Int)) (ids : List Int) (y : Int) : List (List Int) := (List.range ms.length).map (lnkI ms ls ids y)
theorem lnkT_len (ms : List Mk) (ls : List (List Int)) (ids : List Int) (y : Int) : (lnkT ms ls ids y).length = ms.length := by simp [lnkT]
theorem lnkT_at {ms : List Mk} {ls : List (List Int)} {ids : List Int} {y : Int} {j : Nat} (h : j < ms.length) : (lnkT ms ls ids y)[j]? = some (lnkI ms ls ids y j) := by simp [lnkT, h]
theorem lnkT_nil {ms : List Mk} {ls : List (List Int)} (hl : ls.length = ms.length) (y : Int) : lnkT ms ls [] y = ls := by
  apply List.ext_getElem?
  intro k
  rcases Nat.lt_or_ge k ms.length with h | h
  · rw [lnkT_at h]
    have h' : k < ls.length := by omega
    simp [lnkI, hasB, cn, List.getD, h']
  · rw [List.getElem?_eq_none (by rw [lnkT_len]; exact h), List.getElem?_eq_none (by omega)]
theorem take_mem {ids : List Int} {i : Nat} (h : i < ids.length) (z : Int) : z ∈ ids.take (i + 1) ↔ z ∈ ids.take i ∨ z = nth ids i := by
  rw [List.take_add_one, List.mem_append]
  have e : ids[i]?.toList = [nth ids i] := by simp [nth, List.getD, h]
  rw [e]; simp
theorem nodup_take {ids : List Int} (hd : ids.Nodup) {i : Nat} (h : i < ids.length) : nth ids i ∉ ids.take i := by
  intro hm
  obtain ⟨k, hk, e⟩ := List.mem_iff_getElem.1 hm
  rw [List.length_take] at hk
  rw [List.getElem_take] at e
  have e2 : nth ids i = ids[i] := by simp [nth, List.getD, h]
  rw [e2] at e
  have := List.pairwise_iff_getElem.1 hd k i (by omega) h (by omega)
  exact this e
/-- One more of the nearest. -/
theorem lnkT_step {ms : List Mk} {ls : List (List Int)} (hm : marksB ms = true) {ids : List Int} (hd : ids.Nodup) {i j : Nat} (hi : i < ids.length) (hj : j < ms.length) (hx : nth ids i = mid ms j) (y : Int) :
    lnkI ms ls (ids.take i) y j = cn ls j ∧ (lnkT ms ls (ids.take i) y).set j (cn ls j ++ [y]) = lnkT ms ls (ids.take (i + 1)) y := by
  have hno : hasB (ids.take i) (mid ms j) = false := by rw [hasB_no, ← hx]; exact nodup_take hd hi
  refine ⟨by simp [lnkI, hno], ?_⟩
  apply List.ext_getElem?
  intro k
  rcases Nat.lt_or_ge k ms.length with h | h
  · rw [lnkT_at h]
    by_cases hk : j = k
    · subst hk
      rw [List.getElem?_set_self (by rw [lnkT_len]; exact h)]
      have : hasB (ids.take (i + 1)) (mid ms j) = true := by rw [hasB_iff, take_mem hi]; exact Or.inr hx.symm
      simp [lnkI, this]
    · rw [List.getElem?_set_ne hk, lnkT_at h]
      have : hasB (ids.take (i + 1)) (mid ms k) = hasB (ids.take i) (mid ms k) := by
        rw [Bool.eq_iff_iff, hasB_iff, hasB_iff, take_mem hi, hx]
        constructor
        · rintro (e | e)
          · exact e
          · exact absurd (zmid_inj hm h hj e).symm hk
        · exact Or.inl
      simp [lnkI, this]
  · rw [List.getElem?_eq_none (by rw [List.length_set, lnkT_len]; exact h), List.getElem?_eq_none (by rw [lnkT_len]; exact h)]
theorem lnkT_all (ms : List Mk) (ls : List (List Int)) (ids : List Int) (y : Int) : lnkT ms ls ids y ++ [ownI ids] = lnkL ms ls ids y := rfl
/-- The nearest are each another mark. -/
theorem nearI_nodup {ms : List Mk} (hm : marksB ms = true) (p : List Int) (most : Int) : (nearI ms p most).Nodup := by
  unfold nearI nearL
  split
  · have h1 : ((hitsL ms p).map (fun h => h.1)).Nodup := by
      rw [hitsL, List.map_map, List.Nodup, List.pairwise_map, List.pairwise_iff_getElem]
      intro i j hi hj hij e
      have := zmid_rises hm hij hj
      have e1 : mid ms i = ms[i].1 := by simp [mid, List.getD, hi]
      have e2 : mid ms j = ms[j].1 := by simp [mid, List.getD, hj]
      have e' : ms[i].1 = ms[j].1 := e
      omega
    have h2 : ((sortL (hitsL ms p)).map (fun h => h.1)).Nodup := (((sortL_perm (hitsL ms p)).map (fun h => h.1)).nodup_iff).2 h1
    rw [List.map_take]
    exact List.Nodup.sublist (List.take_sublist _ _) h2
  · simp
theorem near_len14 (ms : List Mk) (q : List Int) (k : Int) : (nearL ms q k).length ≤ 60 := by
  unfold nearL
  split
  · rename_i h
    rw [List.length_take]
    have : countB k = true := h.2
    simp [countB] at this
    omega
  · simp
end Go.Proofs.YtaaagmgglolibaaGreat
namespace Go.Proofs.YtaaagmgglolibaaGreat

def AheadAll (l : List Ht) : Prop := l.Pairwise (fun a b => aheadB a b = true)
theorem perm_distinct {l m : List Ht} (hp : l.Perm m) (h : l.Pairwise (fun a b => a.1 ≠ b.1)) : m.Pairwise (fun a b => a.1 ≠ b.1) :=
  (hp.pairwise_iff (fun h e => h e.symm)).1 h
theorem marks_distinct {ms : List Mk} (hm : marksB ms = true) (q : List Int) : (hitsL ms q).Pairwise (fun a b => a.1 ≠ b.1) := by
  rw [List.pairwise_iff_getElem]
  intro i j hi hj hij
  simp only [hitsL, List.length_map] at hi hj
  have hr : mid ms i < mid ms j := by
    clear hi
    induction j with
    | zero => omega
    | succ j ih =>
      have h1 := ((mOkAt_iff ms (j + 1)).1 (marksB_at hm hj)).2.2.2.2
      simp at h1
      rcases Nat.lt_or_ge i j with h2 | h2
      · have := ih (by omega) h2; omega
      · rw [show i = j by omega]; exact h1
  simp only [hitsL, List.getElem_map, hitF]
  simp only [mid, List.getD, List.getElem?_eq_getElem hi, List.getElem?_eq_getElem hj, Option.getD_some] at hr
  omega
theorem told_marks {ms : List Mk} {q : List Int} (ht : toldB ms q = true) : marksB ms = true := by
  simp [toldB] at ht; exact ht.1.1
theorem AheadAll.take {l : List Ht} (h : AheadAll l) (k : Nat) : AheadAll (l.take k) := List.Pairwise.sublist (List.take_sublist k l) h
theorem AheadAll.filter {l : List Ht} (h : AheadAll l) (p : Ht → Bool) : AheadAll (l.filter p) := List.Pairwise.sublist List.filter_sublist h
end Go.Proofs.YtaaagmgglolibaaGreat
namespace Go.Proofs.YtaaagmgglolibaaGreat

end Go.Proofs.YtaaagmgglolibaaGreat
namespace Go.Proofs.YtaaagmgglolibaaGreat

def swapL (l : List Ht) (i j : Nat) : List Ht := (l.set i (hnth l j)).set j (hnth l i)
theorem swapL_length (l : List Ht) (i j : Nat) : (swapL l i j).length = l.length := by simp [swapL]
theorem hnth_set (l : List Ht) (i k : Nat) (x : Ht) (hk : k < l.length) : hnth (l.set i x) k = if k = i then x else hnth l k := by
  unfold hnth
  by_cases h : k = i
  · subst h; simp [List.getD, hk]
  · simp [List.getD, h, Ne.symm h]
theorem swapL_at (l : List Ht) (i j k : Nat) (_hi : i < l.length) (_hj : j < l.length) (hk : k < l.length) : hnth (swapL l i j) k = if k = j then hnth l i else if k = i then hnth l j else hnth l k := by
  unfold swapL
  rw [hnth_set _ _ _ _ (by simp; exact hk)]
  split
  · rfl
  · rw [hnth_set _ _ _ _ hk]
theorem swapL_perm (l : List Ht) (i j : Nat) (hi : i < l.length) (hj : j < l.length) : (swapL l i j).Perm l := by
  have e1 : hnth l j = l[j] := by simp [hnth, List.getD, hj]
  have e2 : hnth l i = l[i] := by simp [hnth, List.getD, hi]
  unfold swapL
  rw [e1, e2]
  exact List.set_set_perm hi hj
def par (c : Nat) : Nat := (c - 1) / 2
/-- The first n are a heap. -/
def HeapN (l : List Ht) (n : Nat) : Prop := ∀ c, 0 < c → c < n → leH (hnth l (par c)) (hnth l c)
/-- A heap but for what stands below i. -/
def DownAt (l : List Ht) (n i : Nat) : Prop := (∀ c, 0 < c → c < n → par c ≠ i → leH (hnth l (par c)) (hnth l c)) ∧ ∀ c, 0 < c → c < n → par c = i → 0 < i → leH (hnth l (par i)) (hnth l c)

theorem heap_first {l : List Ht} {n : Nat} (h : HeapN l n) (c : Nat) (hc : c < n) : leH (hnth l 0) (hnth l c) := by
  induction c using Nat.strongRecOn with
  | _ c ih =>
    rcases Nat.eq_zero_or_pos c with h0 | h0
    · subst h0; exact leH_refl _
    · have hp : par c < c := by unfold par; omega
      exact leH_trans (ih (par c) hp (by omega)) (h c h0 hc)
theorem down_start {l : List Ht} {n : Nat} (h : HeapN l (n + 1)) (hn : n < l.length) : DownAt (swapL l 0 n) n 0 := by
  have at' : ∀ k, k < n → hnth (swapL l 0 n) k = if k = n then hnth l 0 else if k = 0 then hnth l n else hnth l k := fun k hk => swapL_at l 0 n k (by omega) (by omega) (by omega)
  refine ⟨fun c h0 hc hne => ?_, fun c h0 hc hp h1 => by omega⟩
  have hpc : par c < c := by unfold par; omega
  rw [at' c hc, at' (par c) (by omega), if_neg (show ¬ c = n by omega), if_neg (show ¬ c = 0 by omega), if_neg (show ¬ par c = n by omega), if_neg hne]
  exact h c h0 (by omega)

/-- From s on the first n are a heap. -/
def HeapS (s : Nat) (l : List Ht) (n : Nat) : Prop := ∀ c, 0 < c → c < n → s ≤ par c → leH (hnth l (par c)) (hnth l c)
/-- From s on a heap but for what stands below i. -/
def DownS (s : Nat) (l : List Ht) (n i : Nat) : Prop := (∀ c, 0 < c → c < n → s ≤ par c → par c ≠ i → leH (hnth l (par c)) (hnth l c)) ∧ ∀ c, 0 < c → c < n → par c = i → 0 < i → s ≤ par i → leH (hnth l (par i)) (hnth l c)
theorem heapS_zero {l : List Ht} {n : Nat} (h : HeapS 0 l n) : HeapN l n := fun c h0 hc => h c h0 hc (Nat.zero_le _)
theorem heapS_half (l : List Ht) (n : Nat) : HeapS (n / 2) l n := fun c h0 hc hp => by exfalso; unfold par at hp; omega
theorem downS_init {l : List Ht} {n i : Nat} (h : HeapS (i + 1) l n) : DownS i l n i :=
  ⟨fun c h0 hc hp hne => h c h0 hc (by omega), fun c h0 hc hp hi hs => by exfalso; unfold par at hs; omega⟩
theorem downS_pop {l : List Ht} {n : Nat} (h : HeapN l (n + 1)) (hn : n < l.length) : DownS 0 (swapL l 0 n) n 0 := by
  obtain ⟨h1, h2⟩ := down_start h hn
  exact ⟨fun c h0 hc _ hne => h1 c h0 hc hne, fun c h0 hc hp hi _ => h2 c h0 hc hp hi⟩
theorem downS_done {s : Nat} {l : List Ht} {n i : Nat} (h : DownS s l n i) (hc : ∀ c, 0 < c → c < n → par c = i → leH (hnth l i) (hnth l c)) : HeapS s l n := fun c h0 h1 h2 => by
  by_cases e : par c = i
  · rw [e]; exact hc c h0 h1 e
  · exact h.1 c h0 h1 h2 e
theorem downS_step {s : Nat} {l : List Ht} {n i j : Nat} (h : DownS s l n i) (hs : s ≤ i) (hn : n ≤ l.length) (hj : j < n) (hj0 : 0 < j) (hp : par j = i) (hmin : ∀ c, 0 < c → c < n → par c = i → leH (hnth l j) (hnth l c)) (ha : aheadB (hnth l j) (hnth l i) = true) : DownS s (swapL l i j) n j := by
  have hij : i < j := by rw [← hp]; unfold par; omega
  have hle := leH_of_ahead ha
  have at' : ∀ k, k < n → hnth (swapL l i j) k = if k = j then hnth l i else if k = i then hnth l j else hnth l k := fun k hk => swapL_at l i j k (by omega) (by omega) (by omega)
  refine ⟨fun c hc0 hc hsc hne => ?_, fun c hc0 hc hpc hp0 hsp => ?_⟩
  · have hpc : par c < c := by unfold par; omega
    rw [at' c hc, at' (par c) (by omega), if_neg hne]
    by_cases e1 : c = j
    · rw [if_pos e1, if_pos (by rw [e1]; exact hp)]; exact hle
    · rw [if_neg e1]
      by_cases e2 : c = i
      · rw [if_pos e2]
        have e3 : par c ≠ i := by omega
        rw [if_neg e3]
        have := h.2 j hj0 hj hp (by omega) (by rw [← e2]; exact hsc)
        rw [← e2] at this
        exact this
      · rw [if_neg e2]
        by_cases e3 : par c = i
        · rw [if_pos e3]; exact hmin c hc0 hc e3
        · rw [if_neg e3]; exact h.1 c hc0 hc hsc e3
  · have hpc2 : par c < c := by unfold par; omega
    rw [hp, at' c hc, at' i (by omega), if_neg (show ¬ c = j by omega), if_neg (show ¬ c = i by omega), if_neg (show ¬ i = j by omega), if_pos rfl]
    have := h.1 c hc0 hc (by omega) (by omega)
    rw [hpc] at this
    exact this
/-- The children of i. -/
theorem kids (c i : Nat) (h0 : 0 < c) (hp : par c = i) : c = 2 * i + 1 ∨ c = 2 * i + 2 := by unfold par at hp; omega
end Go.Proofs.YtaaagmgglolibaaGreat
namespace Go.Proofs.YtaaagmgglolibaaGreat
open Go

end Go.Proofs.YtaaagmgglolibaaGreat
