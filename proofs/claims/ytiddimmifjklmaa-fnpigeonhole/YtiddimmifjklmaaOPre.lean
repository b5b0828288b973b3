/-
  The program's Prefix: what the given one answers.
-/
import Derived.Test.YtiddimmifjklmaaOIter
namespace Go.Proofs.Ytiddimmifjklmaa
open Go Go.RowKit Go.Shelf

attribute [local go_sem] Oper.semAt_some

/-- Has x no more than m bits? -/
def bitsB (x : Int) (m : Nat) : Bool := decide (x / 2 ^ m = 0)
theorem bitsB_iff (x : Int) (m : Nat) : bitsB x m = true ↔ 0 ≤ x ∧ x < 2 ^ m := by
  unfold bitsB
  have hp : (0 : Int) < 2 ^ m := Int.pow_pos (by decide)
  rw [decide_eq_true_eq]
  constructor
  · intro h
    have h1 := Int.mul_ediv_add_emod x (2 ^ m)
    have h2 := Int.emod_nonneg x (Int.ne_of_gt hp)
    have h3 := Int.emod_lt_of_pos x hp
    rw [h, Int.mul_zero] at h1
    omega
  · rintro ⟨h1, h2⟩
    exact Int.ediv_eq_zero_of_lt h1 h2
theorem bitsB_forty (x : Int) : bitsB x 40 = fortyB x := by
  rw [Bool.eq_iff_iff, bitsB_iff]
  simp [fortyB]
  omega

set_option maxHeartbeats 400000 in
theorem iHas (x : Int) (m : Nat) (hm : m ≤ 40) (w : World) :
    Calls Try.prog 57 #[.int .i64 x, .int .i64 (m : Int)] w fun e w' => e = .returned (.bool (bitsB x m)) ∧ w' = w := by
  go_enter Try.func57, Try.ntmps57
  go_wp2
  go_ret
  exact ⟨rfl, rfl⟩

/-- What the rounds leave. -/
def preL (x : Nat) (pre : List (Fin 40)) : Int := pre.foldl (fun a i => if bitN x i.1 = 1 then 39 - (i.1 : Int) else a) 40
theorem preL_snoc (x : Nat) (pre : List (Fin 40)) (i : Fin 40) : preL x (pre ++ [i]) = if bitN x i.1 = 1 then 39 - (i.1 : Int) else preL x pre := by simp [preL]
theorem preL_bits (x : Nat) : ∀ k, k ≤ 40 → preL x (bitsL 40 k) = preP x k
  | 0, _ => rfl
  | k + 1, h => by rw [bitsL_succ (by omega), preL_snoc, preP, preL_bits x k (by omega)]

end Go.Proofs.Ytiddimmifjklmaa
