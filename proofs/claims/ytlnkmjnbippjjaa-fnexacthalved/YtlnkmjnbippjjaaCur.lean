/-
  The laws' cursor over the bytes of a draw: whatever the bytes are, a number that is drawn lies in its range.
-/
import Derived.Test.YtlnkmjnbippjjaaMark
namespace Go.Proofs.Ytlnkmjnbippjjaa
open Go Go.RowKit

theorem and_mask (x : Int) (j : Nat) (m : Nat) (hj : m < 2 ^ j) (h63 : j ≤ 62) : 0 ≤ bits .and .i64 x m ∧ bits .and .i64 x m < 2 ^ j := by
  simp only [bits]
  have hm : (BitVec.ofInt 64 (m : Int)).toNat = m := by
    rw [BitVec.ofInt_natCast, BitVec.toNat_ofNat]
    exact Nat.mod_eq_of_lt (Nat.lt_of_lt_of_le hj (Nat.pow_le_pow_right (by decide) (by omega)))
  have hb : ((BitVec.ofInt IntKind.i64.bits x &&& BitVec.ofInt IntKind.i64.bits (m : Int)).toNat : Int) < 2 ^ j := by
    rw [BitVec.toNat_and]
    have : (BitVec.ofInt IntKind.i64.bits x).toNat &&& (BitVec.ofInt IntKind.i64.bits (m : Int)).toNat < 2 ^ j := Nat.and_lt_two_pow _ (by show (BitVec.ofInt 64 (m : Int)).toNat < _; rw [hm]; exact hj)
    exact_mod_cast this
  have hp : (2 : Int) ^ j ≤ 2 ^ 62 := by
    have : (2 : Nat) ^ j ≤ 2 ^ 62 := Nat.pow_le_pow_right (by decide) h63
    exact_mod_cast this
  rw [IntKind.wrap_i64]
  generalize ((BitVec.ofInt IntKind.i64.bits x &&& BitVec.ofInt IntKind.i64.bits (m : Int)).toNat) = r at *
  generalize (2 : Int) ^ j = P at *
  omega

theorem and255 (x : Int) : 0 ≤ bits .and .i64 x 255 ∧ bits .and .i64 x 255 ≤ 255 := by
  have := and_mask x 8 255 (by decide) (by decide)
  have e : (2 : Int) ^ 8 = 256 := rfl
  rw [e] at this
  exact ⟨this.1, by have := this.2; simp at this ⊢; omega⟩

/-- The bytes of a draw, wherever they lie. -/
def CodeV (w : World) (ao : Option Addr) (n : Nat) : Prop := n = 0 ∨ ∃ b off, ao = some ⟨b, off, none⟩ ∧ b < w.heap.size ∧ ∀ j, j < n → ∃ x : Int, 0 ≤ x ∧ x ≤ 255 ∧ w.cell? ⟨b, off + j, none⟩ = some (.int .u8 x)
theorem cell_of {w : World} {q : Nat} {cs : Array Value} {t : TypeId} (h : w.heap[q]? = some (.cells cs t (0, 0))) (i : Nat) : w.cell? ⟨q, i, none⟩ = cs[i]? := by simp [World.cell?, h]
theorem free_of {w : World} {q : Nat} {cs : Array Value} {t : TypeId} (h : w.heap[q]? = some (.cells cs t (0, 0))) (i : Nat) : w.frozen? ⟨q, i, none⟩ = false := by simp [World.frozen?, h]

theorem set_at1 {w : World} {q : Nat} {a b c v : Value} {t : TypeId} (h : w.heap[q]? = some (.cells #[a, b, c] t (0, 0))) : (w.setCell ⟨q, 1, none⟩ v).heap[q]? = some (.cells #[a, v, c] t (0, 0)) := by
  simp [World.setCell, Array.getElem?_modify, h]
theorem set_at2 {w : World} {q : Nat} {a b c v : Value} {t : TypeId} (h : w.heap[q]? = some (.cells #[a, b, c] t (0, 0))) : (w.setCell ⟨q, 2, none⟩ v).heap[q]? = some (.cells #[a, b, v] t (0, 0)) := by
  simp [World.setCell, Array.getElem?_modify, h]
theorem grown_refl (w : World) (r : Option Nat) : w.grownBy w r := ⟨rfl, rfl, rfl, Nat.le_refl _, fun _ _ _ => rfl⟩
theorem grown_drew {w w' : World} {r : Option Nat} (h : w.grownBy w' r) (n : Nat) : w.grownBy (w'.drewN n) r := ⟨h.os, h.tape, h.output, h.size, h.block⟩
theorem tmod_bd {x n : Int} (h0 : 0 ≤ x) (h1 : 0 < n) : 0 ≤ x.tmod n ∧ x.tmod n < n := by
  rw [Int.tmod_eq_emod_of_nonneg h0]
  exact ⟨Int.emod_nonneg _ (by omega), Int.emod_lt_of_pos _ h1⟩

theorem grown_trans {w w1 w2 : World} {q : Nat} (h : w.grownBy w1 (some q)) (k : w1.grownBy w2 (some q)) : w.grownBy w2 (some q) :=
  ⟨k.os.trans h.os, k.tape.trans h.tape, k.output.trans h.output, Nat.le_trans h.size k.size, fun i hi hne => (k.block i (Nat.lt_of_lt_of_le hi h.size) hne).trans (h.block i hi hne)⟩

end Go.Proofs.Ytlnkmjnbippjjaa
