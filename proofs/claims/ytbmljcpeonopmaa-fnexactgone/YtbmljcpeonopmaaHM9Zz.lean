/-
  The program's own countOk, suits, Nearest and Within.
-/
import Derived.Test.YtbmljcpeonopmaaHOtZz
import Derived.Test.YtbmljcpeonopmaaHM8Zz
import Derived.Test.YtbmljcpeonopmaaKSuitZz
import Derived.Test.YtbmljcpeonopmaaNearZz
namespace Go.Proofs.Ytbmljcpeonopmaa
open Go Go.RowKit

theorem onceG_all (ids : List Int) (l : List Ht) (hd : l.Pairwise (fun a b => a.1 ≠ b.1)) (hn : ∀ x ∈ l, x.1 ∉ ids) : onceG ids l = l := by
  induction l generalizing ids with
  | nil => rfl
  | cons x xs ih =>
    rw [List.pairwise_cons] at hd
    have h1 : hasB ids x.1 = false := by
      rcases hb : hasB ids x.1 with _ | _
      · rfl
      · unfold hasB at hb
        rw [List.contains_iff_mem] at hb
        exact absurd hb (hn x (List.mem_cons_self ..))
    simp only [onceG, h1]
    rw [ih (ids ++ [x.1]) hd.2 (fun y hy hm => by
      rcases List.mem_append.1 hm with h | h
      · exact hn y (List.mem_cons_of_mem _ hy) h
      · simp at h; exact hd.1 y hy h.symm)]
    rfl
theorem once_near {ms : List Mk} {q : List Int} (hm : marksB ms = true) : onceL (sortL (hitsL ms q)) = sortL (hitsL ms q) :=
  onceG_all [] _ (perm_distinct (sortL_perm _).symm (marks_distinct hm q)) (fun _ _ h => by cases h)
theorem below_chg {B p g : Nat} {w w1 w2 : World} (h : Below B w w1) (k : Chg p g w1 w2) (hB : B ≤ w1.heap.size) (hp : B ≤ p) (hg : B ≤ g) : Below B w w2 :=
  ⟨k.1.trans h.os, k.2.1.trans h.tape, k.2.2.1.trans h.output, Nat.le_trans h.size k.2.2.2.1, fun i hi => (k.2.2.2.2 i (Nat.lt_of_lt_of_le hi hB) (by omega) (by omega)).trans (h.block i hi)⟩

end Go.Proofs.Ytbmljcpeonopmaa
