/-
  The laws' own helpers: what is written into sessions is held, in their own block alone.
-/
import Derived.Test.YtbmljcpeonopmaaSsCopyZz
import Derived.Test.YtbmljcpeonopmaaMCopyZz
import Derived.Test.YtbmljcpeonopmaaMHighZz
namespace Go.Proofs.Ytbmljcpeonopmaa
open Go Go.RowKit

def seqTS7 (k0 : Int) (n : Nat) : List ThS7 := (List.range n).map fun (i : Nat) => (k0 + 3 * (i : Int), k0 + 3 * (i : Int) + 1, k0 + 3 * (i : Int) + 1 + 1)
def overTS7 (k0 : Int) (hs : List ThS7) (k : Nat) : List ThS7 := seqTS7 k0 k ++ hs.drop k
theorem seqT_lengthS7 (k0 : Int) (n : Nat) : (seqTS7 k0 n).length = n := by simp [seqTS7]
theorem seqT_atS7 (k0 : Int) (n i : Nat) (h : i < n) : tnthS7 (seqTS7 k0 n) i = (k0 + 3 * (i : Int), k0 + 3 * (i : Int) + 1, k0 + 3 * (i : Int) + 1 + 1) := by simp [tnthS7, seqTS7, List.getD, h]
theorem overT_lengthS7 (k0 : Int) (hs : List ThS7) (k : Nat) (h : k ≤ hs.length) : (overTS7 k0 hs k).length = hs.length := by simp [overTS7, seqT_lengthS7]; omega
theorem overT_zeroS7 (k0 : Int) (hs : List ThS7) : overTS7 k0 hs 0 = hs := by simp [overTS7, seqTS7]
theorem overT_allS7 (k0 : Int) (hs : List ThS7) : overTS7 k0 hs hs.length = seqTS7 k0 hs.length := by simp [overTS7]
theorem overT_setS7 (k0 : Int) (hs : List ThS7) (k : Nat) (h : k < hs.length) : (overTS7 k0 hs k).set k (k0 + 3 * (k : Int), k0 + 3 * (k : Int) + 1, k0 + 3 * (k : Int) + 1 + 1) = overTS7 k0 hs (k + 1) := by
  unfold overTS7
  have e : seqTS7 k0 (k + 1) = seqTS7 k0 k ++ [(k0 + 3 * (k : Int), k0 + 3 * (k : Int) + 1, k0 + 3 * (k : Int) + 1 + 1)] := by simp [seqTS7, List.range_succ]
  rw [List.set_append_right _ _ (by rw [seqT_lengthS7]; exact Nat.le_refl _), seqT_lengthS7, Nat.sub_self, e, List.drop_eq_getElem_cons h, List.set_cons_zero]
  simp

set_option maxHeartbeats 800000 in
theorem markTSS7 (base g c : Nat) (k0 : Int) (hs : List ThS7) (w : World) (hr : TRowS7 base w g c hs) (hn : hs.length ≤ 4194304) (h0 : 1 ≤ k0) (h1 : k0 ≤ 10000000) :
    Calls Try.prog 58 #[.slice (some ⟨g, 0, none⟩) hs.length c, .int .i64 k0] w fun e w' => e = .returned (.int .i64 (k0 + 3 * (hs.length : Int))) ∧ TRowS7 base w' g c (seqTS7 k0 hs.length) ∧ w.grownBy w' (some g) := by
  go_enter Try.func58, Try.ntmps58
  go_wp2
  go_loopw [1, 5] (fun kk i wr => ∃ k : Nat, k ≤ hs.length ∧ i = .int .i64 k ∧ kk = .int .i64 (k0 + 3 * (k : Int)) ∧ TRowS7 base wr g c (overTS7 k0 hs k) ∧ w.grownBy wr (some g)) (fun _ i _ => hs.length - (intOf i).toNat)
  case atStart => exact ⟨0, Nat.zero_le _, rfl, by simp, by rw [overT_zeroS7]; exact hr, grown_refl _ _⟩
  case round =>
    obtain ⟨k, hk, rfl, rfl, hro, hg⟩ := hrel
    by_cases hlt : k < hs.length
    · have hl := overT_lengthS7 k0 hs k hk
      obtain ⟨c0, c1, c2⟩ := hro.seg k (by omega)
      rw [Nat.zero_add] at c0 c1 c2
      have f0 := World.ownsRow.frozenAt hro (k * 3)
      have f1 := World.ownsRow.frozenAt hro (k * 3 + 1)
      have f2 := World.ownsRow.frozenAt hro (k * 3 + 2)
      have R1 := hro.store k (k0 + 3 * (k : Int), k0 + 3 * (k : Int) + 1, k0 + 3 * (k : Int) + 1 + 1)
      rw [overT_setS7 k0 hs k hlt] at R1
      have HR := hidP R1
      have HG := hidP hg
      clear R1 hro hg hl
      go_wp2
      go_roundw
      case rel => exact ⟨k + 1, by omega, by go_num, by congr 1; omega, HR.out, grown_set (grown_set (grown_set HG.out))⟩
      case measure => simp [intOf]; omega
    · go_wp2
      go_ret
      obtain rfl : k = hs.length := by omega
      exact ⟨rfl, by rw [← overT_allS7]; exact hro, hg⟩

set_option maxHeartbeats 800000 in
theorem heldTSS7 (ao : Option Addr) (cap n : Nat) (k0 : Int) (w : World) (hv : TViewS7 w ao (seqTS7 k0 n)) (hn : n ≤ 4194304) (h0 : 1 ≤ k0) (h1 : k0 ≤ 10000000) :
    Calls Try.prog 59 #[.slice ao n cap, .int .i64 k0] w fun e w' => e = .returned (.int .i64 (k0 + 3 * (n : Int))) ∧ w' = w := by
  go_enter Try.func59, Try.ntmps59
  go_wp2
  go_loop [1, 5] (fun kk i => ∃ k : Nat, k ≤ n ∧ i = .int .i64 k ∧ kk = .int .i64 (k0 + 3 * (k : Int))) (fun _ i => n - (intOf i).toNat)
  case atStart => exact ⟨0, Nat.zero_le _, rfl, by simp⟩
  case round =>
    obtain ⟨k, hk, rfl, rfl⟩ := hrel
    by_cases hlt : k < n
    · obtain ⟨b, off, rfl, hb, hseg⟩ := hv.seg (by rw [seqT_lengthS7]; omega)
      obtain ⟨c0, c1, c2⟩ := hseg k (by rw [seqT_lengthS7]; exact hlt)
      rw [seqT_atS7 k0 n k hlt] at c0 c1 c2
      have t0 : (k0 + 3 * (k : Int) != k0 + 3 * (k : Int)) = false := by simp
      have t1 : (k0 + 3 * (k : Int) + 1 != k0 + 3 * (k : Int) + 1) = false := by simp
      have t2 : (k0 + 3 * (k : Int) + 1 + 1 != k0 + 3 * (k : Int) + 1 + 1) = false := by simp
      go_wp2
      go_round
      case rel => exact ⟨k + 1, by omega, by go_num, by congr 1; omega⟩
      case measure => simp [intOf]; omega
    · go_wp2
      go_ret
      obtain rfl : k = n := by omega
      exact ⟨rfl, rfl⟩

end Go.Proofs.Ytbmljcpeonopmaa
