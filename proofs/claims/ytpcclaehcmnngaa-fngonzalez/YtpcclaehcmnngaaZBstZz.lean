/-
  The least radius over all choices by bits is the least radius of any k.
-/
import Derived.Test.YtpcclaehcmnngaaZLnkZz
import Derived.Test.YtpcclaehcmnngaaZAtZz
namespace Go.Proofs.Ytpcclaehcmnngaa
open Go

theorem bitN_zero (c b : Nat) (hb : b < 2) : bitN (2 * c + b) 0 = b := by unfold bitN; simp; omega
theorem bitN_succ (c b i : Nat) (hb : b < 2) : bitN (2 * c + b) (i + 1) = bitN c i := by
  unfold bitN
  rw [Nat.pow_succ, Nat.mul_comm (2 ^ i) 2, ← Nat.div_div_eq_div_mul]
  congr 2
  omega
theorem code_of (n : Nat) : ∀ P : Nat → Bool, ∃ c, c < 2 ^ n ∧ ∀ i, i < n → (bitN c i = 1 ↔ P i = true) := by
  induction n with
  | zero => intro P; exact ⟨0, by simp, fun i hi => by omega⟩
  | succ n ih =>
    intro P
    obtain ⟨c, hc, h⟩ := ih (fun i => P (i + 1))
    rcases hp : P 0 with _ | _
    · refine ⟨2 * c + 0, by rw [Nat.pow_succ]; omega, fun i hi => ?_⟩
      cases i with
      | zero => rw [bitN_zero c 0 (by omega), hp]; simp
      | succ i => rw [bitN_succ c 0 i (by omega)]; exact h i (by omega)
    · refine ⟨2 * c + 1, by rw [Nat.pow_succ]; omega, fun i hi => ?_⟩
      cases i with
      | zero => rw [bitN_zero c 1 (by omega), hp]; simp
      | succ i => rw [bitN_succ c 1 i (by omega)]; exact h i (by omega)
theorem setC_iff (n x i : Nat) : i ∈ setC n x ↔ i < n ∧ bitN x i = 1 := by
  unfold setC
  rw [List.mem_filter, List.mem_range]
  simp
theorem setC_nodup (n x : Nat) : (setC n x).Nodup := List.Pairwise.filter _ List.nodup_range
theorem setC_lt {n x : Nat} : ∀ c ∈ setC n x, c < n := fun c hc => ((setC_iff n x c).1 hc).1
theorem setC_len (n x : Nat) : (setC n x).length ≤ n := by
  have := List.length_filter_le (fun i => decide (bitN x i = 1)) (List.range n)
  rw [List.length_range] at this
  exact this
/-- Any of them, once each, is a choice. -/
theorem setC_of {n : Nat} {E : List Nat} (hd : E.Nodup) (hE : ∀ e ∈ E, e < n) : ∃ c, c < 2 ^ n ∧ (setC n c).length = E.length ∧ ∀ i, i ∈ E ↔ i ∈ setC n c := by
  obtain ⟨c, hc, h⟩ := code_of n (fun i => decide (i ∈ E))
  have hm : ∀ i, i ∈ E ↔ i ∈ setC n c := fun i => by
    rw [setC_iff]
    constructor
    · intro hi; exact ⟨hE i hi, (h i (hE i hi)).2 (by simp [hi])⟩
    · rintro ⟨h1, h2⟩; simpa using (h i h1).1 h2
  have hp : E.Perm (setC n c) := (List.perm_ext_iff_of_nodup hd (setC_nodup n c)).2 hm
  exact ⟨c, hc, hp.length_eq.symm, hm⟩

/-- The least so far over the first choices. -/
def bstTo (D : Nat → Nat → Int) (n k : Nat) (a : Int) : Nat → Int
  | 0 => a
  | c + 1 => if (setC n c).length = k then min (bstTo D n k a c) (zRad D n (setC n c)) else bstTo D n k a c
theorem bstTo_spec (D : Nat → Nat → Int) (n k : Nat) (a : Int) (m : Nat) :
    bstTo D n k a m ≤ a ∧ (∀ c, c < m → (setC n c).length = k → bstTo D n k a m ≤ zRad D n (setC n c)) ∧ (bstTo D n k a m = a ∨ ∃ c, c < m ∧ (setC n c).length = k ∧ bstTo D n k a m = zRad D n (setC n c)) := by
  induction m with
  | zero => exact ⟨Int.le_refl _, fun c hc => by omega, Or.inl rfl⟩
  | succ m ih =>
    obtain ⟨i1, i2, i3⟩ := ih
    simp only [bstTo]
    by_cases hk : (setC n m).length = k
    · rw [if_pos hk]
      refine ⟨by omega, fun c hc hck => ?_, ?_⟩
      · rcases Nat.lt_or_ge c m with h | h
        · have := i2 c h hck; omega
        · rw [show c = m by omega]; omega
      · by_cases hle : bstTo D n k a m ≤ zRad D n (setC n m)
        · rw [show min (bstTo D n k a m) (zRad D n (setC n m)) = bstTo D n k a m by omega]
          rcases i3 with e | ⟨c, h1, h2, h3⟩
          · exact Or.inl e
          · exact Or.inr ⟨c, by omega, h2, h3⟩
        · exact Or.inr ⟨m, by omega, hk, by omega⟩
    · rw [if_neg hk]
      refine ⟨i1, fun c hc hck => ?_, ?_⟩
      · rcases Nat.lt_or_ge c m with h | h
        · exact i2 c h hck
        · rw [show c = m by omega] at hck; exact absurd hck hk
      · rcases i3 with e | ⟨c, h1, h2, h3⟩
        · exact Or.inl e
        · exact Or.inr ⟨c, by omega, h2, h3⟩
theorem bstTo_best {D : Nat → Nat → Int} (hnn : ∀ i c, 0 ≤ D i c) {n k : Nat} (hk : 1 ≤ k) (hkn : k ≤ n) {a : Int} (ha : ∀ i c, i < n → c < n → D i c ≤ a) : bstTo D n k a (2 ^ n) = zBest D n k [] 0 := by
  obtain ⟨s1, s2, s3⟩ := bstTo_spec D n k a (2 ^ n)
  have hb0 : 0 ≤ zBest D n k [] 0 := (zBest_le hnn hk (C := zCho D n k) (zCho_ok k hkn).2.1 (zCho_ok k hkn).2.2 (zCho_ok k hkn).1).1
  obtain ⟨E, hd, hE, hl, he⟩ := zBest_at hb0
  have hE0 : E ≠ [] := fun e => by rw [e] at hl; simp at hl; omega
  refine Int.le_antisymm ?_ ?_
  · obtain ⟨c, hc, hcl, hm⟩ := setC_of hd hE
    have h1 := s2 c hc (by omega)
    rw [he, zRad_same hnn n hE0 hm]
    exact h1
  · have hle : ∀ C : List Nat, C.Nodup → (∀ c ∈ C, c < n) → C.length = k → zBest D n k [] 0 ≤ zRad D n C := fun C h1 h2 h3 => (zBest_le hnn hk h1 h2 h3).2
    rcases s3 with e | ⟨c, h1, h2, h3⟩
    · rw [e, he]
      have ha0 : 0 ≤ a := Int.le_trans (hnn 0 0) (ha 0 0 (by omega) (by omega))
      refine maxTo_lub _ n _ ha0 (fun i hi => ?_)
      obtain ⟨c, hc, e2⟩ := zNear_at (D := D) (i := i) (hnn i) hE0
      show zNear D i E ≤ a
      rw [e2]
      exact ha i c hi (hE c hc)
    · rw [h3]
      exact hle _ (setC_nodup n c) setC_lt h2
theorem dia_far {ms : List Mk} (hm : marksB ms = true) {kd : Int} (hkd : kindB kd = true) {i c : Nat} (hi : i < ms.length) (hc : c < ms.length) : zD ms kd i c ≤ diaV ms kd := by
  rw [zD_in hm kd hkd hi hc, diaV, noneB_false (by omega) hm hkd]
  have h1 : betV (mat ms i) (mat ms c) kd ≤ mostF ms kd i := maxTo_ge (betF ms (mat ms i) kd) ms.length c hc
  have h2 : mostF ms kd i ≤ maxTo (mostF ms kd) ms.length := maxTo_ge (mostF ms kd) ms.length i hi
  simp
  omega
theorem bstTo_bd (ms : List Mk) (kd : Int) (k : Nat) (a : Int) (h1 : -1 ≤ a) (h2 : a ≤ 16000000) (m : Nat) : -1 ≤ bstTo (zD ms kd) ms.length k a m ∧ bstTo (zD ms kd) ms.length k a m ≤ 16000000 := by
  induction m with
  | zero => exact ⟨h1, h2⟩
  | succ m ih =>
    simp only [bstTo]
    have := zRad_nn (zD ms kd) ms.length (setC ms.length m)
    split <;> omega

end Go.Proofs.Ytpcclaehcmnngaa
