/-
  Plain mathematics for the laws of chapter 10 (no program is named here): centers, the nearest of them, groups, means, and what shifting costs.
-/
import Derived.Test.YthkaiienfkihmaaHits
import Derived.Test.YthkaiienfkihmaaGMath
namespace Go.Proofs.Ythkaiienfkihmaa

/-- The i-th center. -/
def cn (cs : List (List Int)) (i : Nat) : List Int := cs.getD i []
def pairB (cs : List (List Int)) : Bool := (List.range cs.length).all (fun i => twoB (cn cs i) (cn cs 0))
def ctrsB (ms : List Mk) (cs : List (List Int)) : Bool := decide (1 ≤ cs.length) && decide (cs.length ≤ 8) && pairB cs && toldB ms (cn cs 0)
/-- Of the first ones the number of the nearest, the first of alike ones. -/
def givI (cs : List (List Int)) (p : List Int) : Nat → Nat
  | 0 => 0
  | n + 1 => if farV p (cn cs n) < farV p (cn cs (givI cs p n)) then n else givI cs p n
def givN (ms : List Mk) (cs : List (List Int)) (j : Nat) : Nat := givI cs (mat ms j) cs.length
def givF (ms : List Mk) (cs : List (List Int)) (j : Nat) : Int := (givN ms cs j : Int)
def givenL (ms : List Mk) (cs : List (List Int)) : List Int := if ctrsB ms cs = true then tabL (givF ms cs) ms.length else []
def costF (ms : List Mk) (cs : List (List Int)) (j : Nat) : Int := farV (mat ms j) (cn cs (givN ms cs j))
def costV (ms : List Mk) (cs : List (List Int)) : Int := if ctrsB ms cs = true then sumTo (costF ms cs) ms.length else -1

/-- How many of the first n are given to i. -/
def cntG (g : Nat → Nat) (i : Nat) : Nat → Int
  | 0 => 0
  | n + 1 => if g n = i then cntG g i n + 1 else cntG g i n
def sumG (g : Nat → Nat) (f : Nat → Int) (i : Nat) : Nat → Int
  | 0 => 0
  | n + 1 => if g n = i then sumG g f i n + f n else sumG g f i n
def ownG (g : Nat → Nat) (f : Nat → Int) (i : Nat) : Nat → List Int
  | 0 => []
  | n + 1 => if g n = i then ownG g f i n ++ [f n] else ownG g f i n
def meanN (s n : Int) : Int := (2 * s + n - 1) / (2 * n)
def ptF (ms : List Mk) (k j : Nat) : Int := nth (mat ms j) k
def shiftF (ms : List Mk) (cs : List (List Int)) (i k : Nat) : Int :=
  if cntG (givN ms cs) i ms.length = 0 then nth (cn cs i) k else meanN (sumG (givN ms cs) (ptF ms k) i ms.length) (cntG (givN ms cs) i ms.length)
def shiftP (ms : List Mk) (cs : List (List Int)) (i : Nat) : List Int := tabL (shiftF ms cs i) (cn cs i).length
def shiftL (ms : List Mk) (cs : List (List Int)) : List (List Int) := if ctrsB ms cs = true then (List.range cs.length).map (shiftP ms cs) else []
def stillB (ms : List Mk) (cs : List (List Int)) : Bool := ctrsB ms cs && decide (shiftL ms cs = cs)

theorem cn_at {cs : List (List Int)} {i : Nat} (h : i < cs.length) : cn cs i = cs[i] := by simp [cn, List.getD, h]
theorem pairB_at {cs : List (List Int)} (h : pairB cs = true) {i : Nat} (hi : i < cs.length) : twoB (cn cs i) (cn cs 0) = true := by
  simp only [pairB, List.all_eq_true] at h
  exact h i (List.mem_range.2 hi)
theorem pairB_mk {cs : List (List Int)} (h : ∀ i, i < cs.length → twoB (cn cs i) (cn cs 0) = true) : pairB cs = true := by
  simp only [pairB, List.all_eq_true]
  exact fun i hi => h i (List.mem_range.1 hi)
theorem pairB_out {cs : List (List Int)} {i : Nat} (hi : i < cs.length) (h : twoB (cn cs i) (cn cs 0) = false) : pairB cs = false := by
  rcases hb : pairB cs with _ | _
  · rfl
  · rw [pairB_at hb hi] at h; cases h
theorem toldB_of {ms : List Mk} {q : List Int} (h : toldB ms q = true) : marksB ms = true ∧ okB q = true ∧ (ms.length = 0 ∨ (mat ms 0).length = q.length) := by
  simp only [toldB, Bool.and_eq_true, Bool.or_eq_true, decide_eq_true_eq] at h
  exact ⟨h.1.1, h.1.2, h.2⟩
theorem ctrsB_of {ms : List Mk} {cs : List (List Int)} (h : ctrsB ms cs = true) : 1 ≤ cs.length ∧ cs.length ≤ 8 ∧ pairB cs = true ∧ toldB ms (cn cs 0) = true := by
  simp only [ctrsB, Bool.and_eq_true, decide_eq_true_eq] at h
  exact ⟨h.1.1.1, h.1.1.2, h.1.2, h.2⟩
theorem ctrsB_mk {ms : List Mk} {cs : List (List Int)} (h1 : 1 ≤ cs.length) (h2 : cs.length ≤ 8) (h3 : pairB cs = true) (h4 : toldB ms (cn cs 0) = true) : ctrsB ms cs = true := by
  simp [ctrsB, h1, h2, h3, h4]
theorem ctrsB_few {ms : List Mk} {cs : List (List Int)} (h : ¬ 1 ≤ cs.length) : ctrsB ms cs = false := by
  simp only [ctrsB, h, decide_false, Bool.false_and]
theorem ctrsB_many {ms : List Mk} {cs : List (List Int)} (h : ¬ cs.length ≤ 8) : ctrsB ms cs = false := by
  simp only [ctrsB, h, decide_false, Bool.false_and, Bool.and_false]
theorem ctrsB_pair {ms : List Mk} {cs : List (List Int)} (h : pairB cs = false) : ctrsB ms cs = false := by simp [ctrsB, h]
theorem ctrsB_told {ms : List Mk} {cs : List (List Int)} (h : toldB ms (cn cs 0) = false) : ctrsB ms cs = false := by simp [ctrsB, h]
theorem ctrs_len {ms : List Mk} {cs : List (List Int)} (h : ctrsB ms cs = true) {i : Nat} (hi : i < cs.length) : okB (cn cs i) = true ∧ (cn cs i).length = (cn cs 0).length := by
  obtain ⟨_, _, h3, _⟩ := ctrsB_of h
  obtain ⟨a, _, c⟩ := twoB_of (pairB_at h3 hi)
  exact ⟨a, c⟩
theorem ctrs_mark {ms : List Mk} {cs : List (List Int)} (h : ctrsB ms cs = true) {j : Nat} (hj : j < ms.length) : okB (mat ms j) = true ∧ (mat ms j).length = (cn cs 0).length := by
  obtain ⟨_, _, _, h4⟩ := ctrsB_of h
  obtain ⟨hm, _, hl⟩ := toldB_of h4
  have a := (mOkAt_iff ms j).1 (marksB_at hm hj)
  exact ⟨a.2.2.1, by omega⟩
theorem ctrs_two {ms : List Mk} {cs : List (List Int)} (h : ctrsB ms cs = true) {i j : Nat} (hi : i < cs.length) (hj : j < ms.length) : twoB (mat ms j) (cn cs i) = true :=
  twoB_true (ctrs_mark h hj).1 (ctrs_len h hi).1 (by have := (ctrs_mark h hj).2; have := (ctrs_len h hi).2; omega)

theorem givI_lt (cs : List (List Int)) (p : List Int) (n : Nat) (h : 0 < n) : givI cs p n < n := by
  induction n with
  | zero => omega
  | succ n ih =>
    simp only [givI]
    split
    · omega
    · rcases Nat.eq_zero_or_pos n with h0 | h0
      · subst h0; simp [givI]
      · have := ih h0; omega
theorem givI_le (cs : List (List Int)) (p : List Int) (n : Nat) : givI cs p n ≤ n := by
  rcases Nat.eq_zero_or_pos n with h0 | h0
  · subst h0; simp [givI]
  · exact Nat.le_of_lt (givI_lt cs p n h0)
theorem givI_least (cs : List (List Int)) (p : List Int) (n j : Nat) (h : j < n) : farV p (cn cs (givI cs p n)) ≤ farV p (cn cs j) := by
  induction n with
  | zero => omega
  | succ n ih =>
    simp only [givI]
    rcases Nat.lt_or_ge j n with h1 | h1
    · have := ih h1
      split <;> omega
    · rw [show j = n by omega]
      split <;> omega
theorem givI_first (cs : List (List Int)) (p : List Int) (n j : Nat) (h : j < givI cs p n) : farV p (cn cs (givI cs p n)) < farV p (cn cs j) := by
  induction n with
  | zero => simp [givI] at h
  | succ n ih =>
    simp only [givI] at h ⊢
    split
    · rename_i hlt
      rw [if_pos hlt] at h
      have := givI_least cs p n j h
      omega
    · rename_i hlt
      rw [if_neg hlt] at h
      exact ih h
theorem givN_lt {ms : List Mk} {cs : List (List Int)} (h : 1 ≤ cs.length) (j : Nat) : givN ms cs j < cs.length := givI_lt _ _ _ (by omega)

theorem farV_bd (a b : List Int) : -1 ≤ farV a b ∧ farV a b ≤ 16000000 := by
  have := betV_le a b 1
  simpa [betV] using this
theorem farV_pos {a b : List Int} (h : twoB a b = true) : 0 ≤ farV a b ∧ farV a b ≤ 16000000 := by
  refine ⟨?_, (farV_bd a b).2⟩
  obtain ⟨ha, hb, _⟩ := twoB_of h
  have := sumTo_le (sqF a b) 0 4000000 (sqF_bd ha hb) a.length
  simp only [farV, h, if_true]
  omega
theorem farV_comm (a b : List Int) : farV a b = farV b a := by
  unfold farV
  by_cases h : twoB a b = true
  · obtain ⟨ha, hb, hl⟩ := twoB_of h
    rw [if_pos h, if_pos (twoB_true hb ha hl.symm), hl]
    refine sumTo_congr _ _ _ (fun i _ => ?_)
    simp only [sqF]
    rw [show nth b i - nth a i = -(nth a i - nth b i) by omega, Int.neg_mul_neg]
  · have h' : ¬ twoB b a = true := fun h2 => by
      obtain ⟨ha, hb, hl⟩ := twoB_of h2
      exact h (twoB_true hb ha hl.symm)
    rw [if_neg h, if_neg h']

theorem cntG_bd (g : Nat → Nat) (i n : Nat) : 0 ≤ cntG g i n ∧ cntG g i n ≤ n := by
  induction n with
  | zero => simp [cntG]
  | succ n ih => simp only [cntG]; split <;> omega
theorem ownG_length (g : Nat → Nat) (f : Nat → Int) (i n : Nat) : ((ownG g f i n).length : Int) = cntG g i n := by
  induction n with
  | zero => rfl
  | succ n ih =>
    simp only [ownG, cntG]
    split
    · simp; omega
    · exact ih
theorem sumTo_snoc (xs : List Int) (x : Int) : sumTo (nth (xs ++ [x])) (xs ++ [x]).length = sumTo (nth xs) xs.length + x := by
  rw [List.length_append, List.length_singleton]
  simp only [sumTo]
  have e1 : sumTo (nth (xs ++ [x])) xs.length = sumTo (nth xs) xs.length := sumTo_congr _ _ _ (fun i hi => by
    simp [nth, List.getD, List.getElem?_append_left hi])
  have e2 : nth (xs ++ [x]) xs.length = x := by simp [nth, List.getD]
  rw [e1, e2]
theorem ownG_sum (g : Nat → Nat) (f : Nat → Int) (i n : Nat) : sumTo (nth (ownG g f i n)) (ownG g f i n).length = sumG g f i n := by
  induction n with
  | zero => rfl
  | succ n ih =>
    simp only [ownG, sumG]
    split
    · rw [sumTo_snoc, ih]
    · exact ih
theorem ownG_all (g : Nat → Nat) (f : Nat → Int) (i n : Nat) (p : Int → Prop) (h : ∀ j, j < n → p (f j)) : ∀ x ∈ ownG g f i n, p x := by
  induction n with
  | zero => simp [ownG]
  | succ n ih =>
    simp only [ownG]
    have ih' := ih (fun j hj => h j (by omega))
    split
    · intro x hx
      rcases List.mem_append.1 hx with h1 | h1
      · exact ih' x h1
      · rw [List.mem_singleton.1 h1]; exact h n (by omega)
    · exact ih'
theorem sumG_bd (g : Nat → Nat) (f : Nat → Int) (i n : Nat) (b : Int) (_hb : 0 ≤ b) (h : ∀ j, j < n → -b ≤ f j ∧ f j ≤ b) : -(b * cntG g i n) ≤ sumG g f i n ∧ sumG g f i n ≤ b * cntG g i n := by
  induction n with
  | zero => simp [sumG, cntG]
  | succ n ih =>
    have ih' := ih (fun j hj => h j (by omega))
    have := h n (by omega)
    simp only [sumG, cntG]
    split
    · rw [Int.mul_add, Int.mul_one]; omega
    · exact ih'

/-- What a mean is between. -/
theorem meanN_in {s n : Int} (hn : 0 < n) : 2 * s ≤ n * (2 * meanN s n + 1) ∧ n * (2 * meanN s n - 1) < 2 * s := by
  have h := floor_in (n := 2 * s + n - 1) (s := 2 * n) (by omega)
  unfold meanN
  generalize (2 * s + n - 1) / (2 * n) = m at *
  have e : m * (2 * n) = 2 * (n * m) := by rw [Int.mul_left_comm, Int.mul_comm m n]
  rw [e] at h
  have e1 : n * (2 * m + 1) = 2 * (n * m) + n := by rw [Int.mul_add, Int.mul_one, Int.mul_left_comm]
  have e2 : n * (2 * m - 1) = 2 * (n * m) - n := by rw [Int.mul_sub, Int.mul_one, Int.mul_left_comm]
  rw [e1, e2]
  omega
theorem meanN_bd {s n b : Int} (hn : 0 < n) (h1 : -(b * n) ≤ s) (h2 : s ≤ b * n) : -b ≤ meanN s n ∧ meanN s n ≤ b := by
  unfold meanN
  constructor
  · refine (Int.le_ediv_iff_mul_le (by omega)).2 ?_
    have e : -b * (2 * n) = -(2 * (b * n)) := by rw [Int.neg_mul, Int.mul_left_comm]
    omega
  · have := (Int.ediv_lt_iff_lt_mul (by omega : (0 : Int) < 2 * n) (a := 2 * s + n - 1) (b := b + 1)).2 (by
      have e : (b + 1) * (2 * n) = 2 * (b * n) + 2 * n := by rw [Int.add_mul, Int.one_mul, Int.mul_left_comm]
      omega)
    omega
/-- No other number costs less than the mean. -/
theorem meanN_least {s n : Int} (hn : 0 < n) (x : Int) : n * (meanN s n * meanN s n) - 2 * (s * meanN s n) ≤ n * (x * x) - 2 * (s * x) := by
  obtain ⟨h1, h2⟩ := meanN_in (s := s) hn
  generalize meanN s n = m at *
  have key : 0 ≤ (x - m) * (n * (x + m) - 2 * s) := by
    rcases Int.lt_trichotomy x m with h | h | h
    · have a : n * (x + m) ≤ n * (2 * m - 1) := Int.mul_le_mul_of_nonneg_left (by omega) (by omega)
      have := Int.mul_nonneg (a := m - x) (b := 2 * s - n * (x + m)) (by omega) (by omega)
      have e : (m - x) * (2 * s - n * (x + m)) = (x - m) * (n * (x + m) - 2 * s) := by
        rw [← Int.neg_mul_neg]; congr 1 <;> omega
      omega
    · subst h; simp
    · have a : n * (2 * m + 1) ≤ n * (x + m) := Int.mul_le_mul_of_nonneg_left (by omega) (by omega)
      exact Int.mul_nonneg (by omega) (by omega)
  have e : (x - m) * (n * (x + m) - 2 * s) = (n * (x * x) - 2 * (s * x)) - (n * (m * m) - 2 * (s * m)) := by
    simp only [Int.mul_sub, Int.sub_mul, Int.mul_add]
    have a1 : x * (n * x) = n * (x * x) := Int.mul_left_comm ..
    have a2 : x * (n * m) = n * (m * x) := by rw [Int.mul_left_comm, Int.mul_comm x m]
    have a3 : m * (n * x) = n * (m * x) := Int.mul_left_comm ..
    have a4 : m * (n * m) = n * (m * m) := Int.mul_left_comm ..
    have a5 : x * (2 * s) = 2 * (s * x) := by rw [Int.mul_left_comm, Int.mul_comm x s]
    have a6 : m * (2 * s) = 2 * (s * m) := by rw [Int.mul_left_comm, Int.mul_comm m s]
    rw [a1, a2, a3, a4, a5, a6]
    omega
  omega
def sqG (f : Nat → Int) (x : Int) (j : Nat) : Int := (f j - x) * (f j - x)
theorem sumG_sq (g : Nat → Nat) (f : Nat → Int) (i n : Nat) (x : Int) : sumG g (sqG f x) i n = sumG g (fun j => f j * f j) i n + (cntG g i n * (x * x) - 2 * (sumG g f i n * x)) := by
  induction n with
  | zero => simp [sumG, cntG]
  | succ n ih =>
    simp only [sumG, cntG]
    split
    · rw [ih]
      have e : sqG f x n = f n * f n + (x * x - 2 * (f n * x)) := by
        simp only [sqG, Int.sub_mul, Int.mul_sub]
        rw [Int.mul_comm x (f n)]
        omega
      rw [e, Int.add_mul, Int.one_mul, Int.add_mul]
      omega
    · exact ih
theorem sumG_mean (g : Nat → Nat) (f : Nat → Int) (i n : Nat) (x : Int) (h : 0 < cntG g i n) : sumG g (sqG f (meanN (sumG g f i n) (cntG g i n))) i n ≤ sumG g (sqG f x) i n := by
  rw [sumG_sq, sumG_sq]
  have := meanN_least (s := sumG g f i n) h x
  omega
theorem sumG_zero (g : Nat → Nat) (f : Nat → Int) (i n : Nat) (h : cntG g i n = 0) : sumG g f i n = 0 := by
  induction n with
  | zero => rfl
  | succ n ih =>
    have := cntG_bd g i n
    simp only [cntG] at h
    simp only [sumG]
    split
    · rename_i hg; rw [if_pos hg] at h; omega
    · rename_i hg; rw [if_neg hg] at h; exact ih h
/-- Group by group, or one by one. -/
theorem sumG_all (g : Nat → Nat) (F : Nat → Nat → Int) (K n : Nat) (h : ∀ j, j < n → g j < K) : sumTo (fun j => F (g j) j) n = sumTo (fun i => sumG g (F i) i n) K := by
  induction n with
  | zero =>
    simp only [sumTo, sumG]
    clear h
    induction K with
    | zero => rfl
    | succ K ih => simp only [sumTo]; omega
  | succ n ih =>
    have ih' := ih (fun j hj => h j (by omega))
    have hn := h n (by omega)
    simp only [sumTo]
    rw [ih']
    clear ih ih' h
    induction K with
    | zero => omega
    | succ K ihK =>
      simp only [sumTo]
      rcases Nat.lt_or_ge (g n) K with h1 | h1
      · have := ihK h1
        have e : sumG g (F K) K (n + 1) = sumG g (F K) K n := by simp only [sumG]; rw [if_neg (by omega)]
        rw [e]; omega
      · have hK : g n = K := by omega
        have e : sumG g (F K) K (n + 1) = sumG g (F K) K n + F K n := by simp only [sumG]; rw [if_pos hK]
        have e2 : sumTo (fun i => sumG g (F i) i (n + 1)) K = sumTo (fun i => sumG g (F i) i n) K := sumTo_congr _ _ _ (fun i hi => by simp only [sumG]; rw [if_neg (by omega)])
        rw [e, e2, hK]; omega
theorem sumTo_le_of (f g : Nat → Int) (n : Nat) (h : ∀ i, i < n → f i ≤ g i) : sumTo f n ≤ sumTo g n := by
  induction n with
  | zero => simp [sumTo]
  | succ n ih => have := ih (fun i hi => h i (by omega)); have := h n (by omega); simp only [sumTo]; omega
theorem sumTo_add (f g : Nat → Int) (n : Nat) : sumTo (fun i => f i + g i) n = sumTo f n + sumTo g n := by
  induction n with
  | zero => rfl
  | succ n ih => simp only [sumTo]; omega
theorem sumTo_swap (f : Nat → Nat → Int) (n d : Nat) : sumTo (fun j => sumTo (f j) d) n = sumTo (fun k => sumTo (fun j => f j k) n) d := by
  induction d with
  | zero =>
    simp only [sumTo]
    induction n with
    | zero => rfl
    | succ n ih => simp only [sumTo]; omega
  | succ d ih =>
    simp only [sumTo]
    rw [sumTo_add, ih]

theorem shiftL_length {ms : List Mk} {cs : List (List Int)} (h : ctrsB ms cs = true) : (shiftL ms cs).length = cs.length := by simp [shiftL, h]
theorem shiftL_at {ms : List Mk} {cs : List (List Int)} (h : ctrsB ms cs = true) {i : Nat} (hi : i < cs.length) : cn (shiftL ms cs) i = shiftP ms cs i := by
  simp [cn, shiftL, h, List.getD, hi]
theorem shiftP_length (ms : List Mk) (cs : List (List Int)) (i : Nat) : (shiftP ms cs i).length = (cn cs i).length := tabL_length _ _
theorem ptF_bd {ms : List Mk} {cs : List (List Int)} (h : ctrsB ms cs = true) (k : Nat) {j : Nat} (hj : j < ms.length) : -1000 ≤ ptF ms k j ∧ ptF ms k j ≤ 1000 := okB_at (ctrs_mark h hj).1 k
theorem shiftF_bd {ms : List Mk} {cs : List (List Int)} (h : ctrsB ms cs = true) {i : Nat} (hi : i < cs.length) (k : Nat) : -1000 ≤ shiftF ms cs i k ∧ shiftF ms cs i k ≤ 1000 := by
  unfold shiftF
  have hc := cntG_bd (givN ms cs) i ms.length
  split
  · exact okB_at (ctrs_len h hi).1 k
  · have hs := sumG_bd (givN ms cs) (ptF ms k) i ms.length 1000 (by omega) (fun j hj => ptF_bd h k hj)
    exact meanN_bd (by omega) (by omega) (by omega)
theorem shiftP_ok {ms : List Mk} {cs : List (List Int)} (h : ctrsB ms cs = true) {i : Nat} (hi : i < cs.length) : okB (shiftP ms cs i) = true := by
  have := okB_len (ctrs_len h hi).1
  refine okB_mk (by rw [shiftP_length]; omega) (by rw [shiftP_length]; omega) (fun k hk => ?_)
  rw [shiftP_length] at hk
  show -1000 ≤ nth (tabL (shiftF ms cs i) _) k ∧ _
  rw [shiftP, tabL_getD _ _ _ hk]
  exact shiftF_bd h hi k
theorem shiftL_ok {ms : List Mk} {cs : List (List Int)} (h : ctrsB ms cs = true) : ctrsB ms (shiftL ms cs) = true := by
  obtain ⟨h1, h2, h3, h4⟩ := ctrsB_of h
  have h0 := shiftL_at h (i := 0) (by omega)
  have hl0 := shiftP_length ms cs 0
  refine ctrsB_mk (by rw [shiftL_length h]; exact h1) (by rw [shiftL_length h]; exact h2) (pairB_mk fun i hi => ?_) ?_
  · rw [shiftL_length h] at hi
    rw [h0, shiftL_at h hi]
    exact twoB_true (shiftP_ok h hi) (shiftP_ok h (by omega)) (by rw [hl0, shiftP_length, (ctrs_len h hi).2])
  · rw [h0]
    obtain ⟨a, b, c⟩ := toldB_of h4
    have := shiftP_ok h (i := 0) (by omega)
    simp only [toldB, a, this, hl0, Bool.true_and, Bool.or_eq_true, decide_eq_true_eq]
    exact c
/-- What is shifted costs no more. -/
theorem lloyd {ms : List Mk} {cs : List (List Int)} (h : ctrsB ms cs = true) : costV ms (shiftL ms cs) ≤ costV ms cs := by
  have hs := shiftL_ok h
  obtain ⟨h1, h2, h3, h4⟩ := ctrsB_of h
  have hL := shiftL_length h
  rw [costV, costV, if_pos h, if_pos hs]
  have step1 : sumTo (costF ms (shiftL ms cs)) ms.length ≤ sumTo (fun j => farV (mat ms j) (cn (shiftL ms cs) (givN ms cs j))) ms.length := by
    refine sumTo_le_of _ _ _ (fun j hj => ?_)
    exact givI_least _ _ _ _ (by rw [hL]; exact givN_lt h1 j)
  refine Int.le_trans step1 ?_
  have open1 : ∀ ds : List (List Int), ctrsB ms ds = true → ds.length = cs.length → (∀ i, i < cs.length → (cn ds i).length = (cn cs 0).length) →
      sumTo (fun j => farV (mat ms j) (cn ds (givN ms cs j))) ms.length = sumTo (fun k => sumTo (fun i => sumG (givN ms cs) (sqG (ptF ms k) (nth (cn ds i) k)) i ms.length) cs.length) (cn cs 0).length := by
    intro ds hd hdl _
    have e1 : sumTo (fun j => farV (mat ms j) (cn ds (givN ms cs j))) ms.length = sumTo (fun j => sumTo (fun k => sqG (ptF ms k) (nth (cn ds (givN ms cs j)) k) j) (cn cs 0).length) ms.length := by
      refine sumTo_congr _ _ _ (fun j hj => ?_)
      have ht := ctrs_two hd (i := givN ms cs j) (j := j) (by rw [hdl]; exact givN_lt h1 j) hj
      rw [farV, if_pos ht, (ctrs_mark h hj).2]
      rfl
    rw [e1, sumTo_swap]
    refine sumTo_congr _ _ _ (fun k _ => ?_)
    exact sumG_all (givN ms cs) (fun i => sqG (ptF ms k) (nth (cn ds i) k)) cs.length ms.length (fun j _ => givN_lt h1 j)
  rw [open1 _ hs hL (fun i hi => by rw [shiftL_at h hi, shiftP_length, (ctrs_len h hi).2])]
  show _ ≤ sumTo (fun j => farV (mat ms j) (cn cs (givN ms cs j))) ms.length
  rw [open1 cs h rfl (fun i hi => (ctrs_len h hi).2)]
  refine sumTo_le_of _ _ _ (fun k hk => sumTo_le_of _ _ _ (fun i hi => ?_))
  have hki : k < (cn cs i).length := by rw [(ctrs_len h hi).2]; exact hk
  rw [shiftL_at h hi, shiftP, tabL_getD _ _ _ hki]
  by_cases hc : cntG (givN ms cs) i ms.length = 0
  · rw [sumG_zero _ _ _ _ hc, sumG_zero _ _ _ _ hc]; omega
  · have := cntG_bd (givN ms cs) i ms.length
    rw [shiftF, if_neg hc]
    exact sumG_mean _ _ _ _ _ (by omega)

end Go.Proofs.Ythkaiienfkihmaa
