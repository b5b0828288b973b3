/-
  Rows of texts: what the laws write over them and find again, are two alike.
-/
import Derived.Test.YtaaagmgglolibaaProg
import Derived.WalkKit
import Derived.WalkSpells
import Derived.WalkLawsBesides
import Derived.Laws.Strings
import Derived.Laws.Concat
import Derived.Laws.IdiomStrings
import Derived.Deep.OwnRows
import Derived.Deep.LoopGhost
import Derived.Deep.RegionHeld3
import Derived.Deep.AppendSrc
import Derived.Deep.AppendLies
import Derived.Below
import Derived.Deep.QuietTactic
import Derived.BigQuiet
import Derived.Test.YtaaagmgglolibaaCellsZz
namespace Go.Proofs.Ytaaagmgglolibaa
open Go Go.RowKit

theorem chainS {w w1 w2 : World} (h : Below w.heap.size w w1) (k : Below w1.heap.size w1 w2) : Below w.heap.size w w2 := h.trans (k.mono h.size)
theorem hidS {p : Prop} (h : p) : Hid p := h
/-- The last digit of a number. -/
def dgB (n : Nat) : UInt8 := UInt8.ofNat (48 + n % 10)
theorem dgB_nat (n : Nat) : (dgB n).toNat = 48 + n % 10 := by unfold dgB; rw [UInt8.toNat_ofNat']; omega
/-- A number's digits ahead of a text. -/
def digs (n : Nat) (s : ByteArray) : ByteArray := if n = 0 then s else digs (n / 10) (⟨#[dgB n]⟩ ++ s)
termination_by n
decreasing_by omega
/-- The text that a mark writes. -/
def mtx (k : Int) : ByteArray := if k ≤ 0 then ⟨#[109, 48]⟩ else ⟨#[109]⟩ ++ digs k.toNat ⟨#[]⟩

theorem digs_zero (s : ByteArray) : digs 0 s = s := by rw [digs]; simp
theorem digs_next (n : Nat) (s : ByteArray) (h : 0 < n) : digs n s = digs (n / 10) (⟨#[dgB n]⟩ ++ s) := by
  rw [digs, if_neg (by omega)]

set_option maxRecDepth 100000 in
set_option maxHeartbeats 1600000 in
theorem sText (k : Int) (w : World) (hk : k ≤ 5000000) :
    Calls Try.prog 15 #[.int .i64 k] w fun e w' => e = .returned (.string (mtx k)) ∧ Below w.heap.size w w' := by
  by_cases h0 : k ≤ 0
  · go_enter Try.func15, Try.ntmps15
    go_wp2
    go_ret
    exact ⟨by unfold mtx; rw [if_pos h0]; rfl, Below.refl _ _⟩
  obtain ⟨K, rfl⟩ : ∃ K : Nat, k = (K : Int) := ⟨k.toNat, by omega⟩
  have hmt : Hid (mtx (K : Int) = ⟨#[109]⟩ ++ digs K ⟨#[]⟩) := by show _ = _; unfold mtx; rw [if_neg h0]; rfl
  go_enter Try.func15, Try.ntmps15
  go_wp2
  go_loopw [0, 3] (fun n s wr => ∃ (nn j : Nat) (ss : ByteArray), n = .int .i64 nn ∧ s = .string ss ∧ digs nn ss = digs K ⟨#[]⟩ ∧ j ≤ 7 ∧ ss.size = j ∧ nn < 10 ^ (7 - j) ∧ Below w.heap.size w wr) (fun n _ _ => (intOf n).toNat)
  case atStart => exact ⟨K, 0, ⟨#[]⟩, rfl, rfl, rfl, by omega, rfl, by omega, Below.refl _ _⟩
  case round =>
    obtain ⟨nn, j, ss, rfl, rfl, hd, hj, hs, hb, L⟩ := hrel
    by_cases hlt : 0 < nn
    · have hj7 : j < 7 := by
        rcases Nat.lt_or_ge j 7 with h | h
        · exact h
        · obtain rfl : j = 7 := by omega
          simp at hb; omega
      have hbb : nn / 10 < 10 ^ (7 - (j + 1)) := by
        have e : 10 ^ (7 - j) = 10 * 10 ^ (7 - (j + 1)) := by
          rw [show 7 - j = (7 - (j + 1)) + 1 by omega, Nat.pow_succ]; omega
        omega
      have hcv : (convert 34 9 (.slice (some ⟨wr.heap.size, 0, none⟩) 1 1)).run Try.prog (wr.alloc (.cells #[.int .u8 (48 + (nn : Int) % 10)] 5)) = .ok (.string ⟨#[dgB nn]⟩) (wr.alloc (.cells #[.int .u8 (48 + (nn : Int) % 10)] 5)) :=
        run_convert_bytes_back (P := Try.prog) _ 34 9 5 ⟨wr.heap.size, 0, none⟩ 1 [dgB nn] Try.underlying34 Try.underlying5 Try.underlying9 (fun i hi => by
          obtain rfl : i = 0 := by simp at hi; omega
          have e : ((dgB nn).toNat : Int) = 48 + (nn : Int) % 10 := by rw [dgB_nat]; omega
          simp [Addr.add, e])
      have hnn : nn < 10 ^ 7 := Nat.lt_of_lt_of_le hb (Nat.pow_le_pow_right (by omega) (by omega))
      have HD := hidS hd
      have HS := hidS hs
      have HBB := hidS hbb
      have HL := hidS (L.alloc L.size (.cells #[.int .u8 (48 + (nn : Int) % 10)] 5))
      have h10 : ¬ ((10 : Int) = 0) := by omega
      clear hd hbb hb L
      go_wp2
      go_roundw
      case rel => exact ⟨nn / 10, j + 1, ⟨#[dgB nn]⟩ ++ ss, by rw [show ((nn / 10 : Nat) : Int) = (nn : Int) / 10 by omega], rfl, by rw [← digs_next nn ss hlt]; exact HD.out, by omega, by rw [ByteArray.size_append, HS.out]; show 1 + j = j + 1; omega, HBB.out, HL.out⟩
      case measure =>
        show ((nn : Int) / 10).toNat < ((nn : Nat) : Int).toNat
        omega
    · obtain rfl : nn = 0 := by omega
      rw [digs_zero] at hd
      subst hd
      have HL := hidS L
      go_wp2
      go_ret
      exact ⟨by rw [hmt.out]; rfl, HL.out⟩
end Go.Proofs.Ytaaagmgglolibaa
