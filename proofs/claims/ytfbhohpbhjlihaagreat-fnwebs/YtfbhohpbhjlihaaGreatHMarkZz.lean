/-
  The laws' own helpers: what is written into hits is held, and marks are written over, in their own blocks alone.
-/
import Derived.Test.YtfbhohpbhjlihaaGreatWithZz
import Derived.Test.YtfbhohpbhjlihaaGreatMCopyZz
import Derived.Test.YtfbhohpbhjlihaaGreatMHighZz
namespace Go.Proofs.YtfbhohpbhjlihaaGreat
open Go Go.RowKit

def seqH (k0 : Int) (n : Nat) : List Ht := (List.range n).map fun (i : Nat) => (k0 + 2 * (i : Int), k0 + 2 * (i : Int) + 1)
def overH (k0 : Int) (hs : List Ht) (k : Nat) : List Ht := seqH k0 k ++ hs.drop k
theorem seqH_length (k0 : Int) (n : Nat) : (seqH k0 n).length = n := by simp [seqH]
theorem seqH_at (k0 : Int) (n i : Nat) (h : i < n) : hnth (seqH k0 n) i = (k0 + 2 * (i : Int), k0 + 2 * (i : Int) + 1) := by simp [hnth, seqH, List.getD, h]
theorem overH_length (k0 : Int) (hs : List Ht) (k : Nat) (h : k ≤ hs.length) : (overH k0 hs k).length = hs.length := by simp [overH, seqH_length]; omega
theorem overH_zero (k0 : Int) (hs : List Ht) : overH k0 hs 0 = hs := by simp [overH, seqH]
theorem overH_all (k0 : Int) (hs : List Ht) : overH k0 hs hs.length = seqH k0 hs.length := by simp [overH]
theorem overH_set (k0 : Int) (hs : List Ht) (k : Nat) (h : k < hs.length) : (overH k0 hs k).set k (k0 + 2 * (k : Int), k0 + 2 * (k : Int) + 1) = overH k0 hs (k + 1) := by
  unfold overH
  have e : seqH k0 (k + 1) = seqH k0 k ++ [(k0 + 2 * (k : Int), k0 + 2 * (k : Int) + 1)] := by simp [seqH, List.range_succ]
  rw [List.set_append_right _ _ (by rw [seqH_length]; exact Nat.le_refl _), seqH_length, Nat.sub_self, e, List.drop_eq_getElem_cons h, List.set_cons_zero]
  simp

set_option maxHeartbeats 800000 in
theorem markHS (base g c : Nat) (k0 : Int) (hs : List Ht) (w : World) (hr : HRow base w g c hs) (hn : hs.length ≤ 4194304) (h0 : 1 ≤ k0) (h1 : k0 ≤ 10000000) :
    Calls Tryz.prog 76 #[.slice (some ⟨g, 0, none⟩) hs.length c, .int .i64 k0] w fun e w' => e = .returned (.int .i64 (k0 + 2 * (hs.length : Int))) ∧ HRow base w' g c (seqH k0 hs.length) ∧ w.grownBy w' (some g) := by
  go_enter Tryz.func76, Tryz.ntmps76
  go_wp2
  go_loopw [1, 5] (fun kk i wr => ∃ k : Nat, k ≤ hs.length ∧ i = .int .i64 k ∧ kk = .int .i64 (k0 + 2 * (k : Int)) ∧ HRow base wr g c (overH k0 hs k) ∧ w.grownBy wr (some g)) (fun _ i _ => hs.length - (intOf i).toNat)
  case atStart => exact ⟨0, Nat.zero_le _, rfl, by simp, by rw [overH_zero]; exact hr, grown_refl _ _⟩
  case round =>
    obtain ⟨k, hk, rfl, rfl, hro, hg⟩ := hrel
    by_cases hlt : k < hs.length
    · have hl := overH_length k0 hs k hk
      obtain ⟨c0, c1⟩ := hro.seg k (by omega)
      rw [Nat.zero_add] at c0 c1
      have f0 := World.ownsRow.frozenAt hro (k * 2)
      have f1 := World.ownsRow.frozenAt hro (k * 2 + 1)
      have R1 := hro.store k (k0 + 2 * (k : Int), k0 + 2 * (k : Int) + 1)
      rw [overH_set k0 hs k hlt] at R1
      have HR := hidP R1
      have HG := hidP hg
      clear R1 hro hg hl
      go_wp2
      go_roundw
      case rel => exact ⟨k + 1, by omega, by go_num, by congr 1; omega, HR.out, grown_set (grown_set HG.out)⟩
      case measure => simp [intOf]; omega
    · go_wp2
      go_ret
      obtain rfl : k = hs.length := by omega
      exact ⟨rfl, by rw [← overH_all]; exact hro, hg⟩

set_option maxHeartbeats 800000 in
theorem heldHS (ao : Option Addr) (cap n : Nat) (k0 : Int) (w : World) (hv : HView w ao (seqH k0 n)) (hn : n ≤ 4194304) (h0 : 1 ≤ k0) (h1 : k0 ≤ 10000000) :
    Calls Tryz.prog 77 #[.slice ao n cap, .int .i64 k0] w fun e w' => e = .returned (.int .i64 (k0 + 2 * (n : Int))) ∧ w' = w := by
  go_enter Tryz.func77, Tryz.ntmps77
  go_wp2
  go_loop [1, 5] (fun kk i => ∃ k : Nat, k ≤ n ∧ i = .int .i64 k ∧ kk = .int .i64 (k0 + 2 * (k : Int))) (fun _ i => n - (intOf i).toNat)
  case atStart => exact ⟨0, Nat.zero_le _, rfl, by simp⟩
  case round =>
    obtain ⟨k, hk, rfl, rfl⟩ := hrel
    by_cases hlt : k < n
    · obtain ⟨b, off, rfl, hb, hseg⟩ := hv.seg (by rw [seqH_length]; omega)
      obtain ⟨c0, c1⟩ := hseg k (by rw [seqH_length]; exact hlt)
      rw [seqH_at k0 n k hlt] at c0 c1
      have t0 : (k0 + 2 * (k : Int) != k0 + 2 * (k : Int)) = false := by simp
      have t1 : (k0 + 2 * (k : Int) + 1 != k0 + 2 * (k : Int) + 1) = false := by simp
      go_wp2
      go_round
      case rel => exact ⟨k + 1, by omega, by go_num, by congr 1; omega⟩
      case measure => simp [intOf]; omega
    · go_wp2
      go_ret
      obtain rfl : k = n := by omega
      exact ⟨rfl, rfl⟩

end Go.Proofs.YtfbhohpbhjlihaaGreat
