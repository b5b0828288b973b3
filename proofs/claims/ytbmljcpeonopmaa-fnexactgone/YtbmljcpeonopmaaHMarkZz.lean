/-
  The laws' own helpers: what is written into hits is held, and marks are written over, in their own blocks alone.
-/
import Derived.Test.YtbmljcpeonopmaaWithZz
import Derived.Test.YtbmljcpeonopmaaMCopyZz
import Derived.Test.YtbmljcpeonopmaaMHighZz
namespace Go.Proofs.Ytbmljcpeonopmaa
open Go Go.RowKit

def seqH (k0 : Int) (n : Nat) : List Ht := (List.range n).map fun (i : Nat) => (k0 + 2 * (i : Int), k0 + 2 * (i : Int) + 1)
def overH (k0 : Int) (hs : List Ht) (k : Nat) : List Ht := seqH k0 k ++ hs.drop k
theorem seqH_length (k0 : Int) (n : Nat) : (seqH k0 n).length = n := by simp [seqH]
theorem seqH_at (k0 : Int) (n i : Nat) (h : i < n) : hnth (seqH k0 n) i = (k0 + 2 * (i : Int), k0 + 2 * (i : Int) + 1) := by simp [hnth, seqH, List.getD, h]
theorem overH_length (k0 : Int) (hs : List Ht) (k : Nat) (h : k ≤ hs.length) : (overH k0 hs k).length = hs.length := by simp [overH, seqH_length]; omega
theorem overH_zero (k0 : Int) (hs : List Ht) : overH k0 hs 0 = hs := by simp [overH, seqH]
theorem overH_all (k0 : Int) (hs : List Ht) : overH k0 hs hs.length = seqH k0 hs.length := by simp [overH]
theorem overH_set (k0 : Int) (hs : List Ht) (k : Nat) (h : k < hs.length) : (overH k0 hs k).set k (k0 + 2 * (k : Int), k0 + 2 * (k : Int) + 1) = overH k0 hs (k + 1) := by
  unfold overH
  have e : seqH k0 (k + 1) = seqH k0 k ++ [(k0 + 2 * (k : Int), k0 + 2 * (k : Int) + 1)] := by simp [seqH, List.range_succ]
  rw [List.set_append_right _ _ (by rw [seqH_length]; exact Nat.le_refl _), seqH_length, Nat.sub_self, e, List.drop_eq_getElem_cons h, List.set_cons_zero]
  simp

end Go.Proofs.Ytbmljcpeonopmaa
