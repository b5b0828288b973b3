/-
  Plain mathematics for the laws of chapter 8 (no program is named here): bits of a number, how many a number has, what two numbers have alike.
  Plain mathematics for the laws of chapter 8 (no program is named here): numbers woven bit by bit, and unwoven.
-/
namespace Go.Proofs.Ytibkfdefoaimiaa

/-- Bit i of x. -/
def bitN (x i : Nat) : Nat := x / 2 ^ i % 2

theorem bitN_lt (x i : Nat) : bitN x i < 2 := Nat.mod_lt _ (by decide)
theorem bitN_test (x i : Nat) : bitN x i = (x.testBit i).toNat := by
  rw [Nat.testBit_eq_decide_div_mod_eq]
  unfold bitN
  rcases Nat.mod_two_eq_zero_or_one (x / 2 ^ i) with h | h <;> simp [h]

/-- How many bits a number has. -/
def blen (x : Nat) : Nat := if x = 0 then 0 else x.log2 + 1

theorem blen_zero : blen 0 = 0 := rfl
theorem blen_le (x m : Nat) : blen x ≤ m ↔ x < 2 ^ m := by
  unfold blen
  by_cases h : x = 0
  · subst h; simp [Nat.two_pow_pos]
  · rw [if_neg h, ← Nat.log2_lt h]; omega
theorem blen_half {x : Nat} (h : 0 < x) : blen (x / 2) + 1 = blen x := by
  apply Nat.le_antisymm
  · have h1 : x < 2 ^ blen x := (blen_le x _).1 (Nat.le_refl _)
    have h2 : 0 < blen x := by
      rcases Nat.eq_zero_or_pos (blen x) with e | e
      · rw [e] at h1; simp at h1; omega
      · exact e
    have h3 : blen (x / 2) ≤ blen x - 1 := by
      rw [blen_le]
      obtain ⟨m, hm⟩ : ∃ m, blen x = m + 1 := ⟨blen x - 1, by omega⟩
      rw [hm, Nat.pow_succ] at h1
      rw [hm, Nat.add_sub_cancel]
      omega
    omega
  · have h1 : x / 2 < 2 ^ blen (x / 2) := (blen_le _ _).1 (Nat.le_refl _)
    rw [blen_le, Nat.pow_succ]
    omega

/-- What the program reckons: the place of the highest bit, looked for from the lowest on. -/
def preP (x : Nat) : Nat → Int
  | 0 => 40
  | i + 1 => if bitN x i = 1 then 39 - i else preP x i

theorem preP_blen (x : Nat) : ∀ i : Nat, x < 2 ^ i → preP x i = 40 - blen x
  | 0, h => by
    have : x = 0 := by simpa using h
    subst this; simp [preP, blen_zero]
  | i + 1, h => by
    rw [preP]
    by_cases hx : x < 2 ^ i
    · have hb : bitN x i = 0 := by unfold bitN; rw [Nat.div_eq_of_lt hx]
      rw [hb, if_neg (by decide)]
      exact preP_blen x i hx
    · have hd : x / 2 ^ i = 1 := by
        rw [Nat.pow_succ] at h
        have h1 : 1 ≤ x / 2 ^ i := (Nat.le_div_iff_mul_le (Nat.two_pow_pos i)).2 (by omega)
        have h2 : x / 2 ^ i < 2 := (Nat.div_lt_iff_lt_mul (Nat.two_pow_pos i)).2 (by omega)
        omega
      have hb : bitN x i = 1 := by unfold bitN; rw [hd]
      rw [if_pos hb]
      have h1 : blen x ≤ i + 1 := (blen_le x _).2 h
      have h2 : ¬ blen x ≤ i := fun hh => hx ((blen_le x i).1 hh)
      omega

def fortyB (a : Int) : Bool := decide (0 ≤ a) && decide (a ≤ 1099511627775)
def preV (a b : Int) : Int := if fortyB a = true ∧ fortyB b = true then 40 - blen (a.toNat ^^^ b.toNat) else -1

theorem fortyB_lt {a : Int} (h : fortyB a = true) : a.toNat < 2 ^ 40 ∧ 0 ≤ a := by
  simp [fortyB] at h
  have : (2 : Nat) ^ 40 = 1099511627776 := by decide
  omega

theorem xor_lt40 {a b : Int} (ha : fortyB a = true) (hb : fortyB b = true) : a.toNat ^^^ b.toNat < 2 ^ 40 := Nat.xor_lt_two_pow (fortyB_lt ha).1 (fortyB_lt hb).1

theorem xor_nil (a b : Nat) : a ^^^ b = 0 ↔ a = b := by
  constructor
  · intro h
    apply Nat.eq_of_testBit_eq
    intro i
    have := congrArg (fun x => Nat.testBit x i) h
    simpa [Nat.testBit_xor] using this
  · rintro rfl
    exact Nat.xor_self _

theorem xor_small (a b m : Nat) : a ^^^ b < 2 ^ m ↔ a / 2 ^ m = b / 2 ^ m := by
  have h : (a ^^^ b) / 2 ^ m = a / 2 ^ m ^^^ b / 2 ^ m := by
    have := Nat.shiftRight_xor_distrib (a := a) (b := b) (i := m)
    simpa [Nat.shiftRight_eq_div_pow] using this
  rw [← Nat.div_eq_zero_iff_lt (Nat.two_pow_pos m), h, xor_nil]

theorem blen_xor (a b m : Nat) : blen (a ^^^ b) ≤ m ↔ a / 2 ^ m = b / 2 ^ m := by rw [blen_le, xor_small]

theorem preV_comm (a b : Int) : preV a b = preV b a := by
  unfold preV
  rw [Nat.xor_comm]
  by_cases ha : fortyB a = true <;> by_cases hb : fortyB b = true <;> simp [ha, hb]

theorem preV_same {a b : Int} (ha : fortyB a = true) (hb : fortyB b = true) : preV a b = 40 ↔ a = b := by
  unfold preV
  rw [if_pos ⟨ha, hb⟩]
  constructor
  · intro h
    have h0 : blen (a.toNat ^^^ b.toNat) ≤ 0 := by omega
    rw [blen_xor] at h0
    simp at h0
    have := (fortyB_lt ha).2; have := (fortyB_lt hb).2
    omega
  · rintro rfl
    simp [blen_zero]

theorem preV_neg {a b : Int} (h : ¬ (fortyB a = true ∧ fortyB b = true)) : preV a b = -1 := if_neg h
theorem preV_bd {a b : Int} (ha : fortyB a = true) (hb : fortyB b = true) : 0 ≤ preV a b ∧ preV a b ≤ 40 := by
  unfold preV
  rw [if_pos ⟨ha, hb⟩]
  have := (blen_le _ _).2 (xor_lt40 ha hb)
  omega

/-- Of three in order the outer two have alike what the least of both sides has. -/
theorem preV_mid {a b c : Int} (ha : fortyB a = true) (hc : fortyB c = true) (h1 : a ≤ b) (h2 : b ≤ c) : min (preV a b) (preV b c) = preV a c := by
  have ha' := fortyB_lt ha
  have hc' := fortyB_lt hc
  have hb : fortyB b = true := by
    simp [fortyB] at ha hc ⊢; omega
  unfold preV
  rw [if_pos ⟨ha, hb⟩, if_pos ⟨hb, hc⟩, if_pos ⟨ha, hc⟩]
  have key : ∀ m, blen (a.toNat ^^^ c.toNat) ≤ m ↔ blen (a.toNat ^^^ b.toNat) ≤ m ∧ blen (b.toNat ^^^ c.toNat) ≤ m := by
    intro m
    rw [blen_xor, blen_xor, blen_xor]
    have e1 : a.toNat / 2 ^ m ≤ b.toNat / 2 ^ m := Nat.div_le_div_right (by omega)
    have e2 : b.toNat / 2 ^ m ≤ c.toNat / 2 ^ m := Nat.div_le_div_right (by omega)
    omega
  have k1 := key (blen (a.toNat ^^^ c.toNat))
  have k2 := key (max (blen (a.toNat ^^^ b.toNat)) (blen (b.toNat ^^^ c.toNat)))
  omega
end Go.Proofs.Ytibkfdefoaimiaa
namespace Go.Proofs.Ytibkfdefoaimiaa

/-- The first i bits of number k, laid at their places over c. -/
def wIn (n k x c : Nat) : Nat → Nat
  | 0 => c
  | i + 1 => wIn n k x c i ||| bitN x i * 2 ^ (n * i + k)
/-- The first k numbers woven. -/
def wOut (n : Nat) (ps : Nat → Nat) : Nat → Nat
  | 0 => 0
  | k + 1 => wIn n k (ps k) (wOut n ps k) 10

theorem put_lt {n k i x : Nat} (hk : k < n) (hi : i < 10) : bitN x i * 2 ^ (n * i + k) < 2 ^ (10 * n) := by
  have h1 : n * i + k < 10 * n := by
    have : n * (i + 1) ≤ n * 10 := Nat.mul_le_mul_left n (by omega)
    rw [Nat.mul_add] at this
    omega
  have h2 := bitN_lt x i
  have h3 : 2 ^ (n * i + k) < 2 ^ (10 * n) := Nat.pow_lt_pow_right (by decide) h1
  rcases (show bitN x i = 0 ∨ bitN x i = 1 by omega) with e | e <;> rw [e]
  · simp [Nat.two_pow_pos]
  · omega

theorem wIn_lt {n k x c : Nat} (hk : k < n) (hc : c < 2 ^ (10 * n)) : ∀ i, i ≤ 10 → wIn n k x c i < 2 ^ (10 * n)
  | 0, _ => hc
  | i + 1, h => Nat.or_lt_two_pow (wIn_lt hk hc i (by omega)) (put_lt hk (by omega))

theorem wOut_lt (n : Nat) (ps : Nat → Nat) : ∀ k, k ≤ n → wOut n ps k < 2 ^ (10 * n)
  | 0, _ => Nat.two_pow_pos _
  | k + 1, h => wIn_lt (by omega) (wOut_lt n ps k (by omega)) 10 (Nat.le_refl _)

theorem put_test (x i m j : Nat) : (bitN x i * 2 ^ m).testBit j = true ↔ j = m ∧ x.testBit i = true := by
  rw [bitN_test]
  cases h : x.testBit i
  · simp
  · simp [Nat.testBit_two_pow]; exact eq_comm

theorem wIn_test (n k x c j : Nat) : ∀ i, (wIn n k x c i).testBit j = true ↔ c.testBit j = true ∨ ∃ i', i' < i ∧ j = n * i' + k ∧ x.testBit i' = true
  | 0 => by simp [wIn]
  | i + 1 => by
    rw [wIn, Nat.testBit_or, Bool.or_eq_true, wIn_test n k x c j i, put_test]
    constructor
    · rintro ((h | ⟨i', h1, h2, h3⟩) | ⟨h1, h2⟩)
      · exact .inl h
      · exact .inr ⟨i', by omega, h2, h3⟩
      · exact .inr ⟨i, by omega, h1, h2⟩
    · rintro (h | ⟨i', h1, h2, h3⟩)
      · exact .inl (.inl h)
      · rcases Nat.lt_or_ge i' i with hl | hl
        · exact .inl (.inr ⟨i', hl, h2, h3⟩)
        · rw [show i' = i by omega] at h2 h3; exact .inr ⟨h2, h3⟩

theorem wOut_test (n : Nat) (ps : Nat → Nat) (j : Nat) : ∀ m, (wOut n ps m).testBit j = true ↔ ∃ k, k < m ∧ ∃ i, i < 10 ∧ j = n * i + k ∧ (ps k).testBit i = true
  | 0 => by simp [wOut]
  | m + 1 => by
    rw [wOut, wIn_test, wOut_test n ps j m]
    constructor
    · rintro (⟨k, h1, h2⟩ | h)
      · exact ⟨k, by omega, h2⟩
      · exact ⟨m, by omega, h⟩
    · rintro ⟨k, h1, h2⟩
      rcases Nat.lt_or_ge k m with hl | hl
      · exact .inl ⟨k, hl, h2⟩
      · rw [show k = m by omega] at h2; exact .inr h2

theorem place_lt {n i k : Nat} (hk : k < n) : n * i + k < 10 * n ↔ i < 10 := by
  constructor
  · intro h
    apply Nat.lt_of_not_le
    intro h2
    have : n * 10 ≤ n * i := Nat.mul_le_mul_left n h2
    omega
  · intro h
    have : n * (i + 1) ≤ n * 10 := Nat.mul_le_mul_left n (by omega)
    rw [Nat.mul_add] at this
    omega

theorem weave_test {n : Nat} (hn : 0 < n) (ps : Nat → Nat) (j : Nat) : (wOut n ps n).testBit j = true ↔ j < 10 * n ∧ (ps (j % n)).testBit (j / n) = true := by
  rw [wOut_test]
  constructor
  · rintro ⟨k, hk, i, hi, rfl, hb⟩
    rw [Nat.mul_add_mod, Nat.mod_eq_of_lt hk, Nat.mul_add_div hn, Nat.div_eq_of_lt hk]
    exact ⟨(place_lt hk).2 hi, hb⟩
  · rintro ⟨h1, h2⟩
    have hm := Nat.mod_lt j hn
    have he : j = n * (j / n) + j % n := (Nat.div_add_mod j n).symm
    refine ⟨j % n, hm, j / n, (place_lt hm).1 (by omega), he, h2⟩

/-- The numbers of the first s bits of c. -/
def uF (n c : Nat) : Nat → Nat → Nat
  | 0, _ => 0
  | s + 1, k => if k = s % n then uF n c s k ||| bitN c s * 2 ^ (s / n) else uF n c s k

theorem uF_test {n : Nat} (hn : 0 < n) (c k i : Nat) (hk : k < n) : ∀ s, (uF n c s k).testBit i = true ↔ n * i + k < s ∧ c.testBit (n * i + k) = true
  | 0 => by simp [uF]
  | s + 1 => by
    rw [uF]
    have hm := Nat.mod_lt s hn
    have he : n * (s / n) + s % n = s := Nat.div_add_mod s n
    by_cases h : k = s % n
    · rw [if_pos h, Nat.testBit_or, Bool.or_eq_true, uF_test hn c k i hk s, put_test]
      constructor
      · rintro (⟨h1, h2⟩ | ⟨h1, h2⟩)
        · exact ⟨by omega, h2⟩
        · rw [h1, h, he]; exact ⟨by omega, h2⟩
      · rintro ⟨h1, h2⟩
        rcases Nat.lt_or_ge (n * i + k) s with hl | hl
        · exact .inl ⟨hl, h2⟩
        · have e : n * i + k = s := by omega
          refine .inr ⟨?_, by rw [← e]; exact h2⟩
          rw [← e, Nat.mul_add_div hn, Nat.div_eq_of_lt hk]; rfl
    · rw [if_neg h, uF_test hn c k i hk s]
      constructor
      · rintro ⟨h1, h2⟩; exact ⟨by omega, h2⟩
      · rintro ⟨h1, h2⟩
        refine ⟨?_, h2⟩
        apply Nat.lt_of_le_of_ne (by omega)
        intro e
        apply h
        rw [← e, Nat.mul_add_mod, Nat.mod_eq_of_lt hk]

theorem uF_lt {n : Nat} (hn : 0 < n) (c k : Nat) (hk : k < n) {s : Nat} (hs : s ≤ 10 * n) : uF n c s k < 2 ^ 10 := by
  apply Nat.lt_pow_two_of_testBit
  intro i hi
  cases h : (uF n c s k).testBit i
  · rfl
  · have := ((uF_test hn c k i hk s).1 h).1
    have := (place_lt (n := n) (i := i) hk).1 (by omega)
    omega

theorem unweave_weave {n : Nat} (hn : 0 < n) (ps : Nat → Nat) (hp : ∀ k, k < n → ps k < 2 ^ 10) {k : Nat} (hk : k < n) : uF n (wOut n ps n) (10 * n) k = ps k := by
  apply Nat.eq_of_testBit_eq
  intro i
  rw [Bool.eq_iff_iff, uF_test hn _ k i hk, weave_test hn]
  rw [Nat.mul_add_mod, Nat.mod_eq_of_lt hk, Nat.mul_add_div hn, Nat.div_eq_of_lt hk, Nat.add_zero, place_lt hk]
  constructor
  · rintro ⟨_, _, h⟩; exact h
  · intro h
    have : i < 10 := by
      apply Nat.lt_of_not_le
      intro hi
      rw [Nat.testBit_lt_two_pow (Nat.lt_of_lt_of_le (hp k hk) (Nat.pow_le_pow_right (by decide) hi))] at h
      cases h
    exact ⟨this, this, h⟩

theorem weave_unweave {n : Nat} (hn : 0 < n) {c : Nat} (hc : c < 2 ^ (10 * n)) : wOut n (uF n c (10 * n)) n = c := by
  apply Nat.eq_of_testBit_eq
  intro j
  have hm := Nat.mod_lt j hn
  rw [Bool.eq_iff_iff, weave_test hn, uF_test hn _ _ _ hm, Nat.div_add_mod]
  constructor
  · rintro ⟨_, _, h⟩; exact h
  · intro h
    have : j < 10 * n := by
      apply Nat.lt_of_not_le
      intro hi
      rw [Nat.testBit_lt_two_pow (Nat.lt_of_lt_of_le hc (Nat.pow_le_pow_right (by decide) hi))] at h
      cases h
    exact ⟨this, this, h⟩

/-- Two numbers are alike, or there is a highest bit in which they are not. -/
theorem top_unlike : ∀ (m x y : Nat), x < 2 ^ m → y < 2 ^ m → x = y ∨ ∃ j, x.testBit j ≠ y.testBit j ∧ ∀ i, j < i → x.testBit i = y.testBit i
  | 0, x, y, hx, hy => by simp at hx hy; exact .inl (by omega)
  | m + 1, x, y, hx, hy => by
    rw [Nat.pow_succ] at hx hy
    rcases top_unlike m (x / 2) (y / 2) (by omega) (by omega) with h | ⟨j, h1, h2⟩
    · by_cases e : x = y
      · exact .inl e
      · refine .inr ⟨0, ?_, fun i hi => ?_⟩
        · simp only [Nat.testBit_zero]; intro hh; apply e
          have := decide_eq_decide.1 hh
          omega
        · obtain ⟨i', rfl⟩ : ∃ i', i = i' + 1 := ⟨i - 1, by omega⟩
          rw [Nat.testBit_succ, Nat.testBit_succ, h]
    · refine .inr ⟨j + 1, by rw [Nat.testBit_succ, Nat.testBit_succ]; exact h1, fun i hi => ?_⟩
      obtain ⟨i', rfl⟩ : ∃ i', i = i' + 1 := ⟨i - 1, by omega⟩
      rw [Nat.testBit_succ, Nat.testBit_succ]
      exact h2 i' (by omega)

theorem lt_of_bit {x y : Nat} (j : Nat) (hx : x.testBit j = false) (hy : y.testBit j = true) (h : ∀ i, j < i → x.testBit i = y.testBit i) : x < y := by
  have e : x / 2 ^ (j + 1) = y / 2 ^ (j + 1) := by
    apply Nat.eq_of_testBit_eq
    intro i
    rw [Nat.testBit_div_two_pow, Nat.testBit_div_two_pow]
    exact h _ (by omega)
  have ex : x / 2 ^ j % 2 = 0 := by have := bitN_test x j; rw [hx] at this; exact this
  have ey : y / 2 ^ j % 2 = 1 := by have := bitN_test y j; rw [hy] at this; exact this
  rw [Nat.pow_succ, ← Nat.div_div_eq_div_mul, ← Nat.div_div_eq_div_mul] at e
  apply Nat.lt_of_not_le
  intro hle
  have := Nat.div_le_div_right (c := 2 ^ j) hle
  omega

theorem weave_mono {n : Nat} (hn : 0 < n) (ps qs : Nat → Nat) (hp : ∀ k, k < n → ps k < 2 ^ 10) (hq : ∀ k, k < n → qs k < 2 ^ 10) (h : ∀ k, k < n → ps k ≤ qs k) : wOut n ps n ≤ wOut n qs n := by
  rcases top_unlike (10 * n) _ _ (wOut_lt n ps n (Nat.le_refl _)) (wOut_lt n qs n (Nat.le_refl _)) with e | ⟨j, h1, h2⟩
  · omega
  · have hm := Nat.mod_lt j hn
    have hj : j < 10 * n := by
      apply Nat.lt_of_not_le
      intro hi
      apply h1
      rw [Nat.testBit_lt_two_pow (Nat.lt_of_lt_of_le (wOut_lt n ps n (Nat.le_refl _)) (Nat.pow_le_pow_right (by decide) hi)), Nat.testBit_lt_two_pow (Nat.lt_of_lt_of_le (wOut_lt n qs n (Nat.le_refl _)) (Nat.pow_le_pow_right (by decide) hi))]
    cases ap : (wOut n ps n).testBit j
    · cases aq : (wOut n qs n).testBit j
      · exact absurd (ap.trans aq.symm) h1
      · exact Nat.le_of_lt (lt_of_bit j ap aq h2)
    · cases aq : (wOut n qs n).testBit j
      · exfalso
        have a1 : (ps (j % n)).testBit (j / n) = true := ((weave_test hn ps j).1 ap).2
        have a2 : (qs (j % n)).testBit (j / n) = false := by
          cases hb : (qs (j % n)).testBit (j / n)
          · rfl
          · rw [(weave_test hn qs j).2 ⟨hj, hb⟩] at aq; cases aq
        have a3 : qs (j % n) < ps (j % n) := by
          refine lt_of_bit (j / n) a2 a1 (fun i hi => ?_)
          rcases Nat.lt_or_ge i 10 with h10 | h10
          · have hij : j < n * i + j % n := by
              have e1 : n * (j / n + 1) ≤ n * i := Nat.mul_le_mul_left n (by omega)
              rw [Nat.mul_add] at e1
              have e2 := Nat.div_add_mod j n
              omega
            have e3 := h2 _ hij
            have e4 := weave_test hn ps (n * i + j % n)
            have e5 := weave_test hn qs (n * i + j % n)
            rw [Nat.mul_add_mod, Nat.mod_eq_of_lt hm, Nat.mul_add_div hn, Nat.div_eq_of_lt hm, Nat.add_zero, place_lt hm] at e4 e5
            rw [Bool.eq_iff_iff]
            rw [e3] at e4
            rw [e4] at e5
            simp only [h10, true_and] at e5
            exact e5.symm
          · rw [Nat.testBit_lt_two_pow (Nat.lt_of_lt_of_le (hp _ hm) (Nat.pow_le_pow_right (by decide) h10)), Nat.testBit_lt_two_pow (Nat.lt_of_lt_of_le (hq _ hm) (Nat.pow_le_pow_right (by decide) h10))]
        have := h _ hm
        omega
      · exact absurd (ap.trans aq.symm) h1
end Go.Proofs.Ytibkfdefoaimiaa
