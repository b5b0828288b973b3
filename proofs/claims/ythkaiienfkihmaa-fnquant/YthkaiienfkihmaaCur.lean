/-
  The laws' cursor over the bytes of a draw: whatever the bytes are, a number that is drawn lies in its range.
-/
import Derived.Test.YthkaiienfkihmaaMark
namespace Go.Proofs.Ythkaiienfkihmaa
open Go Go.RowKit

theorem and_mask (x : Int) (j : Nat) (m : Nat) (hj : m < 2 ^ j) (h63 : j ≤ 62) : 0 ≤ bits .and .i64 x m ∧ bits .and .i64 x m < 2 ^ j := by
  simp only [bits]
  have hm : (BitVec.ofInt 64 (m : Int)).toNat = m := by
    rw [BitVec.ofInt_natCast, BitVec.toNat_ofNat]
    exact Nat.mod_eq_of_lt (Nat.lt_of_lt_of_le hj (Nat.pow_le_pow_right (by decide) (by omega)))
  have hb : ((BitVec.ofInt IntKind.i64.bits x &&& BitVec.ofInt IntKind.i64.bits (m : Int)).toNat : Int) < 2 ^ j := by
    rw [BitVec.toNat_and]
    have : (BitVec.ofInt IntKind.i64.bits x).toNat &&& (BitVec.ofInt IntKind.i64.bits (m : Int)).toNat < 2 ^ j := Nat.and_lt_two_pow _ (by show (BitVec.ofInt 64 (m : Int)).toNat < _; rw [hm]; exact hj)
    exact_mod_cast this
  have hp : (2 : Int) ^ j ≤ 2 ^ 62 := by
    have : (2 : Nat) ^ j ≤ 2 ^ 62 := Nat.pow_le_pow_right (by decide) h63
    exact_mod_cast this
  rw [IntKind.wrap_i64]
  generalize ((BitVec.ofInt IntKind.i64.bits x &&& BitVec.ofInt IntKind.i64.bits (m : Int)).toNat) = r at *
  generalize (2 : Int) ^ j = P at *
  omega

theorem and255 (x : Int) : 0 ≤ bits .and .i64 x 255 ∧ bits .and .i64 x 255 ≤ 255 := by
  have := and_mask x 8 255 (by decide) (by decide)
  have e : (2 : Int) ^ 8 = 256 := rfl
  rw [e] at this
  exact ⟨this.1, by have := this.2; simp at this ⊢; omega⟩

/-- The bytes of a draw, wherever they lie. -/
def CodeV (w : World) (ao : Option Addr) (n : Nat) : Prop := n = 0 ∨ ∃ b off, ao = some ⟨b, off, none⟩ ∧ b < w.heap.size ∧ ∀ j, j < n → ∃ x : Int, 0 ≤ x ∧ x ≤ 255 ∧ w.cell? ⟨b, off + j, none⟩ = some (.int .u8 x)
/-- A cursor in block q. -/
def Cur (w : World) (q : Nat) (ao : Option Addr) (n cap : Nat) : Prop := ∃ (i : Nat) (h : Int), i ≤ n ∧ w.heap[q]? = some (.cells #[.slice ao n cap, .int .i64 i, .int .i64 h] 68 (0, 0))

theorem cell_of {w : World} {q : Nat} {cs : Array Value} {t : TypeId} (h : w.heap[q]? = some (.cells cs t (0, 0))) (i : Nat) : w.cell? ⟨q, i, none⟩ = cs[i]? := by simp [World.cell?, h]
theorem free_of {w : World} {q : Nat} {cs : Array Value} {t : TypeId} (h : w.heap[q]? = some (.cells cs t (0, 0))) (i : Nat) : w.frozen? ⟨q, i, none⟩ = false := by simp [World.frozen?, h]

theorem set_at1 {w : World} {q : Nat} {a b c v : Value} {t : TypeId} (h : w.heap[q]? = some (.cells #[a, b, c] t (0, 0))) : (w.setCell ⟨q, 1, none⟩ v).heap[q]? = some (.cells #[a, v, c] t (0, 0)) := by
  simp [World.setCell, Array.getElem?_modify, h]
theorem set_at2 {w : World} {q : Nat} {a b c v : Value} {t : TypeId} (h : w.heap[q]? = some (.cells #[a, b, c] t (0, 0))) : (w.setCell ⟨q, 2, none⟩ v).heap[q]? = some (.cells #[a, b, v] t (0, 0)) := by
  simp [World.setCell, Array.getElem?_modify, h]
theorem grown_refl (w : World) (r : Option Nat) : w.grownBy w r := ⟨rfl, rfl, rfl, Nat.le_refl _, fun _ _ _ => rfl⟩
theorem grown_drew {w w' : World} {r : Option Nat} (h : w.grownBy w' r) (n : Nat) : w.grownBy (w'.drewN n) r := ⟨h.os, h.tape, h.output, h.size, h.block⟩
theorem code_ne {w : World} {q b o : Nat} {ao : Option Addr} {n cap : Nat} {i h x : Int} (hb : w.heap[q]? = some (.cells #[.slice ao n cap, .int .i64 i, .int .i64 h] 68 (0, 0))) (hx : w.cell? ⟨b, o, none⟩ = some (.int .u8 x)) : b ≠ q := by
  intro e
  subst e
  rw [cell_of hb] at hx
  match o, hx with
  | 0, hx => simp at hx
  | 1, hx => simp at hx
  | 2, hx => simp at hx
  | k + 3, hx => simp at hx

set_option maxRecDepth 100000 in
set_option maxHeartbeats 1000000 in
theorem cByte (q : Nat) (ao : Option Addr) (n cap : Nat) (w : World) (hc : Cur w q ao n cap) (hv : CodeV w ao n) (hn : n ≤ 4096) :
    Calls Try.prog 58 #[.pointer (some ⟨q, 0, none⟩)] w fun e w' => (∃ x : Int, 0 ≤ x ∧ x ≤ 255 ∧ e = .returned (.int .i64 x)) ∧ Cur w' q ao n cap ∧ w.grownBy w' (some q) := by
  obtain ⟨i, h, hi, hb⟩ := hc
  have c0 : w.cell? ⟨q, 0, none⟩ = some (.slice ao n cap) := cell_of hb 0
  have c1 : w.cell? ⟨q, 1, none⟩ = some (.int .i64 i) := cell_of hb 1
  have c2 : w.cell? ⟨q, 2, none⟩ = some (.int .i64 h) := cell_of hb 2
  have f1 := free_of hb 1
  have f2 := free_of hb 2
  have HB := hideP hb
  by_cases hlt : i < n
  · obtain ⟨b, off, rfl, hbl, hby⟩ : ∃ b off, ao = some ⟨b, off, none⟩ ∧ b < w.heap.size ∧ ∀ j, j < n → ∃ x : Int, 0 ≤ x ∧ x ≤ 255 ∧ w.cell? ⟨b, off + j, none⟩ = some (.int .u8 x) := by
      rcases hv with h0 | h0
      · omega
      · exact h0
    obtain ⟨x, hx0, hx1, hx⟩ := hby i hlt
    have hne := code_ne hb hx
    clear hb hby
    go_enter Try.func58, Try.ntmps58
    go_wp2
    go_quiet (fail)
    go_wp2
    go_quiet (fail)
    go_wp2
    go_quiet (fail)
    go_wp2
    go_ret
    refine ⟨⟨_, (and255 _).1, (and255 _).2, rfl⟩, ⟨i + 1, wrap64 (wrap64 (h * 6364136223846793005) + 1442695040888963407), by omega, ?_⟩, ?_⟩
    · rw [show ((i + 1 : Nat) : Int) = (i : Int) + 1 by omega]
      exact set_at1 (set_at2 HB.out)
    · exact grown_set (grown_drew (grown_set (grown_refl _ _)) _)
  · clear hb
    go_enter Try.func58, Try.ntmps58
    go_wp2
    go_quiet (fail)
    go_wp2
    go_quiet (fail)
    go_wp2
    go_ret
    refine ⟨⟨_, (and255 _).1, (and255 _).2, rfl⟩, ⟨i, wrap64 (wrap64 (h * 6364136223846793005) + 1442695040888963407), hi, ?_⟩, ?_⟩
    · exact set_at2 HB.out
    · exact grown_drew (grown_drew (grown_set (grown_refl _ _)) _) _

theorem CodeV.grown {w w' : World} {q : Nat} {ao : Option Addr} {n cap : Nat} (hv : CodeV w ao n) (hc : Cur w q ao n cap) (hg : w.grownBy w' (some q)) : CodeV w' ao n := by
  rcases hv with h | ⟨b, off, rfl, hb, hby⟩
  · exact Or.inl h
  · rcases Nat.eq_zero_or_pos n with h0 | h0
    · exact Or.inl h0
    · refine Or.inr ⟨b, off, rfl, Nat.lt_of_lt_of_le hb hg.size, fun j hj => ?_⟩
      obtain ⟨x, h1, h2, hx⟩ := hby j hj
      obtain ⟨i, h, _, hq⟩ := hc
      exact ⟨x, h1, h2, hg.cell hx (by have := code_ne hq hx; simpa using this)⟩

theorem tmod_bd {x n : Int} (h0 : 0 ≤ x) (h1 : 0 < n) : 0 ≤ x.tmod n ∧ x.tmod n < n := by
  rw [Int.tmod_eq_emod_of_nonneg h0]
  exact ⟨Int.emod_nonneg _ (by omega), Int.emod_lt_of_pos _ h1⟩

theorem grown_trans {w w1 w2 : World} {q : Nat} (h : w.grownBy w1 (some q)) (k : w1.grownBy w2 (some q)) : w.grownBy w2 (some q) :=
  ⟨k.os.trans h.os, k.tape.trans h.tape, k.output.trans h.output, Nat.le_trans h.size k.size, fun i hi hne => (k.block i (Nat.lt_of_lt_of_le hi h.size) hne).trans (h.block i hi hne)⟩

set_option maxRecDepth 100000 in
set_option maxHeartbeats 400000 in
theorem cBelow (q : Nat) (ao : Option Addr) (n cap : Nat) (m : Int) (w : World) (hc : Cur w q ao n cap) (hv : CodeV w ao n) (hn : n ≤ 4096) (h0 : 1 ≤ m) (h1 : m ≤ 256) :
    Calls Try.prog 35 #[.pointer (some ⟨q, 0, none⟩), .int .i64 m] w fun e w' => (∃ x : Int, 0 ≤ x ∧ x < m ∧ e = .returned (.int .i64 x)) ∧ Cur w' q ao n cap ∧ w.grownBy w' (some q) := by
  have h2 : ¬ m ≤ 0 := by omega
  have h3 : (m == 0) = false := by simp; omega
  go_enter Try.func35, Try.ntmps35
  go_wp2_with fail
  refine (cByte q ao n cap _ hc hv hn).mono ?_
  rintro e w1 ⟨⟨x, hx0, hx1, rfl⟩, c1, g1⟩
  go_wp2_with fail
  go_ret
  exact ⟨⟨x % m, Int.emod_nonneg _ (by omega), Int.emod_lt_of_pos _ (by omega), rfl⟩, c1, g1⟩

set_option maxHeartbeats 400000 in
theorem cOnce (q : Nat) (ao : Option Addr) (n cap : Nat) (m : Int) (w : World) (hc : Cur w q ao n cap) (hv : CodeV w ao n) (hn : n ≤ 4096) (h0 : 1 ≤ m) (h1 : m ≤ 256) :
    Calls Try.prog 44 #[.pointer (some ⟨q, 0, none⟩), .int .i64 m] w fun e w' => (∃ x : Bool, e = .returned (.bool x)) ∧ Cur w' q ao n cap ∧ w.grownBy w' (some q) := by
  go_enter Try.func44, Try.ntmps44
  go_wp2_with fail
  refine (cBelow q ao n cap m _ hc hv hn h0 h1).mono ?_
  rintro e w1 ⟨⟨x, hx0, hx1, rfl⟩, c1, g1⟩
  go_wp2_with fail
  go_ret
  exact ⟨⟨_, rfl⟩, c1, g1⟩

set_option maxHeartbeats 400000 in
theorem cFrom (q : Nat) (ao : Option Addr) (n cap : Nat) (lo hi : Int) (w : World) (hc : Cur w q ao n cap) (hv : CodeV w ao n) (hn : n ≤ 4096) (h0 : lo ≤ hi) (h1 : hi - lo + 1 ≤ 256) (hlo : -1000000000 ≤ lo) (hhi : hi ≤ 1000000000) :
    Calls Try.prog 43 #[.pointer (some ⟨q, 0, none⟩), .int .i64 lo, .int .i64 hi] w fun e w' => (∃ x : Int, lo ≤ x ∧ x ≤ hi ∧ e = .returned (.int .i64 x)) ∧ Cur w' q ao n cap ∧ w.grownBy w' (some q) := by
  go_enter Try.func43, Try.ntmps43
  go_wp2_with fail
  refine (cBelow q ao n cap (hi - lo + 1) _ hc hv hn (by omega) h1).mono ?_
  rintro e w1 ⟨⟨x, hx0, hx1, rfl⟩, c1, g1⟩
  go_wp2_with fail
  go_ret
  exact ⟨⟨lo + x, by omega, by omega, rfl⟩, c1, g1⟩

set_option maxRecDepth 100000 in
set_option maxHeartbeats 400000 in
theorem cNew_nil (ao : Option Addr) (cap : Nat) (w : World) :
    Calls Try.prog 34 #[.slice ao 0 cap] w fun e w' => e = .returned (.pointer (some ⟨w.heap.size, 0, none⟩)) ∧ Cur w' w.heap.size ao 0 cap ∧ Below w.heap.size w w' := by
  go_enter Try.func34, Try.ntmps34
  go_wp2
  refine wp_loop_rounds 1 ?_
  rw [rounds_succ]
  go_wp2
  go_ret
  refine ⟨rfl, ⟨0, 117017, Nat.le_refl _, heap_alloc_new w _⟩, (Below.refl _ _).alloc (Nat.le_refl _) _⟩

set_option maxRecDepth 100000 in
set_option maxHeartbeats 400000 in
theorem cNew (ao : Option Addr) (n cap : Nat) (w : World) (hv : CodeV w ao n) (hn : n ≤ 4096) :
    Calls Try.prog 34 #[.slice ao n cap] w fun e w' => e = .returned (.pointer (some ⟨w.heap.size, 0, none⟩)) ∧ Cur w' w.heap.size ao n cap ∧ Below w.heap.size w w' := by
  rcases hv with rfl | ⟨b, off, rfl, hbl, hby⟩
  · exact cNew_nil ao cap w
  · have HY := hideP hby
    clear hby
    go_enter Try.func34, Try.ntmps34
    go_wp2
    go_loop [3, 4] (fun s i => ∃ k : Nat, k ≤ n ∧ i = .int .i64 k ∧ ∃ h : Int, s = .int .i64 h) (fun _ i => n - (intOf i).toNat)
    case atStart => exact ⟨0, Nat.zero_le _, rfl, _, rfl⟩
    case round =>
      obtain ⟨k, hk, rfl, h, rfl⟩ := hrel
      by_cases hlt : k < n
      · obtain ⟨x, hx0, hx1, hx⟩ := HY.out k hlt
        go_wp2
        go_round
        case rel => exact ⟨k + 1, by omega, by go_num, _, rfl⟩
        case measure => simp [intOf]; omega
      · go_wp2
        go_ret
        exact ⟨rfl, ⟨0, h, Nat.zero_le _, heap_alloc_new w _⟩, (Below.refl _ _).alloc (Nat.le_refl _) _⟩

end Go.Proofs.Ythkaiienfkihmaa
