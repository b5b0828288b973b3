/-
  Plain mathematics for the laws of chapter 8 (no program is named here): bits of a number, how many a number has, what two numbers have alike.
-/
namespace Go.Proofs.Ytpcclaehcmnngaa

/-- Bit i of x. -/
def bitN (x i : Nat) : Nat := x / 2 ^ i % 2

theorem bitN_lt (x i : Nat) : bitN x i < 2 := Nat.mod_lt _ (by decide)
theorem bitN_test (x i : Nat) : bitN x i = (x.testBit i).toNat := by
  rw [Nat.testBit_eq_decide_div_mod_eq]
  unfold bitN
  rcases Nat.mod_two_eq_zero_or_one (x / 2 ^ i) with h | h <;> simp [h]

/-- How many bits a number has. -/
def blen (x : Nat) : Nat := if x = 0 then 0 else x.log2 + 1

theorem blen_zero : blen 0 = 0 := rfl
theorem blen_le (x m : Nat) : blen x ≤ m ↔ x < 2 ^ m := by
  unfold blen
  by_cases h : x = 0
  · subst h; simp [Nat.two_pow_pos]
  · rw [if_neg h, ← Nat.log2_lt h]; omega
theorem blen_half {x : Nat} (h : 0 < x) : blen (x / 2) + 1 = blen x := by
  apply Nat.le_antisymm
  · have h1 : x < 2 ^ blen x := (blen_le x _).1 (Nat.le_refl _)
    have h2 : 0 < blen x := by
      rcases Nat.eq_zero_or_pos (blen x) with e | e
      · rw [e] at h1; simp at h1; omega
      · exact e
    have h3 : blen (x / 2) ≤ blen x - 1 := by
      rw [blen_le]
      obtain ⟨m, hm⟩ : ∃ m, blen x = m + 1 := ⟨blen x - 1, by omega⟩
      rw [hm, Nat.pow_succ] at h1
      rw [hm, Nat.add_sub_cancel]
      omega
    omega
  · have h1 : x / 2 < 2 ^ blen (x / 2) := (blen_le _ _).1 (Nat.le_refl _)
    rw [blen_le, Nat.pow_succ]
    omega

/-- What the program reckons: the place of the highest bit, looked for from the lowest on. -/
def preP (x : Nat) : Nat → Int
  | 0 => 40
  | i + 1 => if bitN x i = 1 then 39 - i else preP x i

theorem preP_blen (x : Nat) : ∀ i : Nat, x < 2 ^ i → preP x i = 40 - blen x
  | 0, h => by
    have : x = 0 := by simpa using h
    subst this; simp [preP, blen_zero]
  | i + 1, h => by
    rw [preP]
    by_cases hx : x < 2 ^ i
    · have hb : bitN x i = 0 := by unfold bitN; rw [Nat.div_eq_of_lt hx]
      rw [hb, if_neg (by decide)]
      exact preP_blen x i hx
    · have hd : x / 2 ^ i = 1 := by
        rw [Nat.pow_succ] at h
        have h1 : 1 ≤ x / 2 ^ i := (Nat.le_div_iff_mul_le (Nat.two_pow_pos i)).2 (by omega)
        have h2 : x / 2 ^ i < 2 := (Nat.div_lt_iff_lt_mul (Nat.two_pow_pos i)).2 (by omega)
        omega
      have hb : bitN x i = 1 := by unfold bitN; rw [hd]
      rw [if_pos hb]
      have h1 : blen x ≤ i + 1 := (blen_le x _).2 h
      have h2 : ¬ blen x ≤ i := fun hh => hx ((blen_le x i).1 hh)
      omega

def fortyB (a : Int) : Bool := decide (0 ≤ a) && decide (a ≤ 1099511627775)
def preV (a b : Int) : Int := if fortyB a = true ∧ fortyB b = true then 40 - blen (a.toNat ^^^ b.toNat) else -1

theorem fortyB_lt {a : Int} (h : fortyB a = true) : a.toNat < 2 ^ 40 ∧ 0 ≤ a := by
  simp [fortyB] at h
  have : (2 : Nat) ^ 40 = 1099511627776 := by decide
  omega

theorem xor_lt40 {a b : Int} (ha : fortyB a = true) (hb : fortyB b = true) : a.toNat ^^^ b.toNat < 2 ^ 40 := Nat.xor_lt_two_pow (fortyB_lt ha).1 (fortyB_lt hb).1

theorem xor_nil (a b : Nat) : a ^^^ b = 0 ↔ a = b := by
  constructor
  · intro h
    apply Nat.eq_of_testBit_eq
    intro i
    have := congrArg (fun x => Nat.testBit x i) h
    simpa [Nat.testBit_xor] using this
  · rintro rfl
    exact Nat.xor_self _

theorem xor_small (a b m : Nat) : a ^^^ b < 2 ^ m ↔ a / 2 ^ m = b / 2 ^ m := by
  have h : (a ^^^ b) / 2 ^ m = a / 2 ^ m ^^^ b / 2 ^ m := by
    have := Nat.shiftRight_xor_distrib (a := a) (b := b) (i := m)
    simpa [Nat.shiftRight_eq_div_pow] using this
  rw [← Nat.div_eq_zero_iff_lt (Nat.two_pow_pos m), h, xor_nil]

theorem blen_xor (a b m : Nat) : blen (a ^^^ b) ≤ m ↔ a / 2 ^ m = b / 2 ^ m := by rw [blen_le, xor_small]

theorem preV_comm (a b : Int) : preV a b = preV b a := by
  unfold preV
  rw [Nat.xor_comm]
  by_cases ha : fortyB a = true <;> by_cases hb : fortyB b = true <;> simp [ha, hb]

theorem preV_same {a b : Int} (ha : fortyB a = true) (hb : fortyB b = true) : preV a b = 40 ↔ a = b := by
  unfold preV
  rw [if_pos ⟨ha, hb⟩]
  constructor
  · intro h
    have h0 : blen (a.toNat ^^^ b.toNat) ≤ 0 := by omega
    rw [blen_xor] at h0
    simp at h0
    have := (fortyB_lt ha).2; have := (fortyB_lt hb).2
    omega
  · rintro rfl
    simp [blen_zero]

theorem preV_neg {a b : Int} (h : ¬ (fortyB a = true ∧ fortyB b = true)) : preV a b = -1 := if_neg h
theorem preV_bd {a b : Int} (ha : fortyB a = true) (hb : fortyB b = true) : 0 ≤ preV a b ∧ preV a b ≤ 40 := by
  unfold preV
  rw [if_pos ⟨ha, hb⟩]
  have := (blen_le _ _).2 (xor_lt40 ha hb)
  omega

/-- Of three in order the outer two have alike what the least of both sides has. -/
theorem preV_mid {a b c : Int} (ha : fortyB a = true) (hc : fortyB c = true) (h1 : a ≤ b) (h2 : b ≤ c) : min (preV a b) (preV b c) = preV a c := by
  have ha' := fortyB_lt ha
  have hc' := fortyB_lt hc
  have hb : fortyB b = true := by
    simp [fortyB] at ha hc ⊢; omega
  unfold preV
  rw [if_pos ⟨ha, hb⟩, if_pos ⟨hb, hc⟩, if_pos ⟨ha, hc⟩]
  have key : ∀ m, blen (a.toNat ^^^ c.toNat) ≤ m ↔ blen (a.toNat ^^^ b.toNat) ≤ m ∧ blen (b.toNat ^^^ c.toNat) ≤ m := by
    intro m
    rw [blen_xor, blen_xor, blen_xor]
    have e1 : a.toNat / 2 ^ m ≤ b.toNat / 2 ^ m := Nat.div_le_div_right (by omega)
    have e2 : b.toNat / 2 ^ m ≤ c.toNat / 2 ^ m := Nat.div_le_div_right (by omega)
    omega
  have k1 := key (blen (a.toNat ^^^ c.toNat))
  have k2 := key (max (blen (a.toNat ^^^ b.toNat)) (blen (b.toNat ^^^ c.toNat)))
  omega
end Go.Proofs.Ytpcclaehcmnngaa
