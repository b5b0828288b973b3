/-
  The given Moved: a slice that reads as the plain sum of two points, or as nothing.
  The program's own Moved; the laws' helpers that write numbers into a row and look for them again.
  The laws' cursor over the bytes of a draw: whatever the bytes are, a number that is drawn lies in its range.
  The laws' draws of points: whatever the bytes are, each draw hands back rows of new memory, of at most five numbers.
-/
import Derived.Test.YtbmljcpeonopmaaCopyZz
import Derived.Deep.RegionHeld3
import Derived.Deep.AppendLies
namespace Go.Proofs.Ytbmljcpeonopmaa
open Go Go.RowKit

theorem hideP {p : Prop} (h : p) : Hid p := h

theorem own_view {w : World} {base g cap n : Nat} {xs : List Int} (h : w.ownsRow base 2 1 (.slice (some ⟨g, 0, none⟩) n cap) n (xs.map (Value.int .i64))) : View w (some ⟨g, 0, none⟩) xs := by
  have hl : xs.length = n := by have := h.1; simpa using this
  refine Or.inr ⟨g, 0, rfl, (h.lt g rfl).2, fun i hi => ?_⟩
  rw [Nat.zero_add, h.cellAt i (by omega)]
  simp [nth, List.getD, hi]

end Go.Proofs.Ytbmljcpeonopmaa
namespace Go.Proofs.Ytbmljcpeonopmaa
open Go Go.RowKit

theorem moved_short (a b : List Int) : (movedL a b).length ≤ 4 := by
  unfold movedL
  split
  · rename_i h
    have := (okB_len (twoB_of h).1).2
    split
    · rw [tabL_length]; exact this
    · simp
  · simp

/-- A slice of the call's own, from block base on (an empty one may be nil). -/
def OwnV (base : Nat) (w : World) (ao : Option Addr) (xs : List Int) : Prop := xs = [] ∨ ∃ b, ao = some ⟨b, 0, none⟩ ∧ base ≤ b ∧ Own w b xs
theorem OwnV.view {base : Nat} {w : World} {ao : Option Addr} {xs : List Int} (h : OwnV base w ao xs) : View w ao xs := by
  rcases h with h | ⟨b, rfl, _, h⟩
  · exact Or.inl h
  · exact h.view
theorem OwnV.below {base B : Nat} {w w' : World} {ao : Option Addr} {xs : List Int} (h : OwnV base w ao xs) (hB : w.heap.size ≤ B) (hw : Below B w w') : OwnV base w' ao xs := by
  rcases h with h | ⟨b, e, hb, h⟩
  · exact Or.inl h
  · exact Or.inr ⟨b, e, hb, h.below (Nat.lt_of_lt_of_le h.lt hB) hw⟩

theorem Own.set {w : World} {b : Nat} {xs : List Int} (h : Own w b xs) (k : Nat) (v : Int) : Own (w.setCell ⟨b, k, none⟩ (.int .i64 v)) b (xs.set k v) := by
  unfold Own at h ⊢
  simp only [World.setCell, Array.getElem?_modify, h]
  simp [rowC, List.map_set]
theorem Own.grown {w w' : World} {b c : Nat} {xs : List Int} (h : Own w b xs) (hg : w.grownBy w' (some c)) (hne : b ≠ c) : Own w' b xs :=
  (hg.block b h.lt (by simp; omega)).trans h
theorem grown_set {w w' : World} {b k : Nat} {v : Value} (hg : w.grownBy w' (some b)) : w.grownBy (w'.setCell ⟨b, k, none⟩ v) (some b) :=
  ⟨hg.os, hg.tape, hg.output, by simpa [World.setCell] using hg.size, fun q hq hne => by
    rw [Below.heap_setCell _ _ _ _ (by intro e; exact hne (by rw [e]))]; exact hg.block q hq hne⟩
theorem OwnV.grown {base c : Nat} {w w' : World} {ao : Option Addr} {xs : List Int} (h : OwnV base w ao xs) (hg : w.grownBy w' (some c)) (hc : c < base) : OwnV base w' ao xs := by
  rcases h with h | ⟨b, e, hb, h⟩
  · exact Or.inl h
  · exact Or.inr ⟨b, e, hb, h.grown hg (by omega)⟩
theorem Own.frozen {w : World} {b : Nat} {xs : List Int} (h : Own w b xs) (i : Nat) : w.frozen? ⟨b, i, none⟩ = false := by
  unfold Own at h; simp [World.frozen?, h]

/-- The row while it is being marked: the first k places hold k0, k0 + 1, .. -/
def marked (k0 : Int) (xs : List Int) (k : Nat) : List Int := tabL (fun i => k0 + i) k ++ xs.drop k
theorem marked_length (k0 : Int) (xs : List Int) (k : Nat) (h : k ≤ xs.length) : (marked k0 xs k).length = xs.length := by simp [marked, tabL_length]; omega
theorem marked_set (k0 : Int) (xs : List Int) (k : Nat) (h : k < xs.length) : (marked k0 xs k).set k (k0 + k) = marked k0 xs (k + 1) := by
  unfold marked
  rw [List.set_append_right _ _ (by rw [tabL_length]; exact Nat.le_refl _), tabL_length, Nat.sub_self, tabL_succ, List.append_assoc, List.drop_eq_getElem_cons h]
  rfl
theorem marked_all (k0 : Int) (xs : List Int) : marked k0 xs xs.length = tabL (fun i => k0 + i) xs.length := by simp [marked]

set_option maxHeartbeats 400000 in
theorem mark_own (b : Nat) (k0 : Int) (xs : List Int) (w : World) (ho : Own w b xs) (hn : xs.length ≤ 1048576) (h0 : 1 ≤ k0) (h1 : k0 ≤ 10000000) :
    Calls Try.prog 79 #[.slice (some ⟨b, 0, none⟩) xs.length xs.length, .int .i64 k0] w fun e w' => e = .returned (.int .i64 (k0 + xs.length)) ∧ Own w' b (tabL (fun i => k0 + i) xs.length) ∧ w.grownBy w' (some b) := by
  go_enter Try.func79, Try.ntmps79
  go_wp2
  go_loopw [1, 5] (fun kk i wr => ∃ k : Nat, k ≤ xs.length ∧ i = .int .i64 k ∧ kk = .int .i64 (k0 + k) ∧ Own wr b (marked k0 xs k) ∧ w.grownBy wr (some b)) (fun _ i _ => xs.length - (intOf i).toNat)
  case atStart => exact ⟨0, Nat.zero_le _, rfl, by simp, by simpa [marked, tabL] using ho, ⟨rfl, rfl, rfl, Nat.le_refl _, fun _ _ _ => rfl⟩⟩
  case round =>
    obtain ⟨k, hk, rfl, rfl, hown, hg⟩ := hrel
    by_cases hlt : k < xs.length
    · have hc := hown.seg.at k (by rw [marked_length _ _ _ hk]; exact hlt)
      have hf := hown.frozen k
      have R1 := hown.set k (k0 + k)
      rw [marked_set k0 xs k hlt] at R1
      have R2 := grown_set (k := k) (v := .int .i64 (k0 + k)) hg
      have HR := hideP (And.intro R1 R2)
      clear R1 R2 hown hg
      go_wp2
      go_roundw
      case rel => exact ⟨k + 1, by omega, by go_num, by go_num, HR.out.1, HR.out.2⟩
      case measure => simp [intOf]; omega
    · go_wp2
      go_ret
      obtain rfl : k = xs.length := by omega
      exact ⟨rfl, by rw [← marked_all]; exact hown, hg⟩

set_option maxHeartbeats 400000 in
theorem mark_nil (ao : Option Addr) (cap : Nat) (k0 : Int) (w : World) :
    Calls Try.prog 79 #[.slice ao 0 cap, .int .i64 k0] w fun e w' => e = .returned (.int .i64 k0) ∧ w' = w := by
  go_enter Try.func79, Try.ntmps79
  go_wp2
  refine wp_loop_rounds 1 ?_
  rw [rounds_succ]
  go_wp2
  go_ret
  exact ⟨rfl, rfl⟩

set_option maxHeartbeats 400000 in
theorem held_nil (ao : Option Addr) (cap : Nat) (k0 : Int) (w : World) :
    Calls Try.prog 81 #[.slice ao 0 cap, .int .i64 k0] w fun e w' => e = .returned (.int .i64 k0) ∧ w' = w := by
  go_enter Try.func81, Try.ntmps81
  go_wp2
  refine wp_loop_rounds 1 ?_
  rw [rounds_succ]
  go_wp2
  go_ret
  exact ⟨rfl, rfl⟩

set_option maxHeartbeats 400000 in
theorem held_own (b n : Nat) (k0 : Int) (w : World) (ho : Own w b (tabL (fun i => k0 + i) n)) (hn : n ≤ 1048576) (h0 : 1 ≤ k0) (h1 : k0 ≤ 10000000) :
    Calls Try.prog 81 #[.slice (some ⟨b, 0, none⟩) n n, .int .i64 k0] w fun e w' => e = .returned (.int .i64 (k0 + n)) ∧ w' = w := by
  go_enter Try.func81, Try.ntmps81
  go_wp2
  go_loop [1, 5] (fun kk i => ∃ k : Nat, k ≤ n ∧ i = .int .i64 k ∧ kk = .int .i64 (k0 + k)) (fun _ i => n - (intOf i).toNat)
  case atStart => exact ⟨0, Nat.zero_le _, rfl, by simp⟩
  case round =>
    obtain ⟨k, hk, rfl, rfl⟩ := hrel
    by_cases hlt : k < n
    · have hc := ho.seg.at k (by rw [tabL_length]; exact hlt)
      rw [tabL_getD _ _ _ hlt] at hc
      have hne : ((k0 + (k : Int)) != (k0 + (k : Int))) = false := by simp
      go_wp2
      go_round
      case rel => exact ⟨k + 1, by omega, by go_num, by go_num⟩
      case measure => simp [intOf]; omega
    · go_wp2
      go_ret
      obtain rfl : k = n := by omega
      exact ⟨rfl, rfl⟩

theorem markV (base : Nat) (ao : Option Addr) (k0 : Int) (xs : List Int) (w : World) (ho : OwnV base w ao xs) (hB : base ≤ w.heap.size) (hn : xs.length ≤ 1048576) (h0 : 1 ≤ k0) (h1 : k0 ≤ 10000000) :
    Calls Try.prog 79 #[.slice ao xs.length xs.length, .int .i64 k0] w fun e w' => e = .returned (.int .i64 (k0 + xs.length)) ∧ OwnV base w' ao (tabL (fun i => k0 + i) xs.length) ∧ Below base w w' := by
  rcases ho with rfl | ⟨b, rfl, hb, ho⟩
  · refine (mark_nil ao 0 k0 w).mono ?_
    rintro e w' ⟨rfl, rfl⟩
    exact ⟨ret_int (by simp), Or.inl rfl, Below.refl _ _⟩
  · refine (mark_own b k0 xs w ho hn h0 h1).mono ?_
    rintro e w' ⟨rfl, o, g⟩
    exact ⟨rfl, Or.inr ⟨b, rfl, hb, o⟩, (Below.refl _ _).grown g hB (fun k hk => by cases hk; exact hb)⟩

theorem heldV (base n : Nat) (ao : Option Addr) (k0 : Int) (w : World) (ho : OwnV base w ao (tabL (fun i => k0 + i) n)) (hn : n ≤ 1048576) (h0 : 1 ≤ k0) (h1 : k0 ≤ 10000000) :
    Calls Try.prog 81 #[.slice ao n n, .int .i64 k0] w fun e w' => e = .returned (.int .i64 (k0 + n)) ∧ w' = w := by
  rcases ho with h | ⟨b, rfl, hb, ho⟩
  · have : n = 0 := by have := congrArg List.length h; simpa [tabL_length] using this
    subst this
    refine (held_nil ao 0 k0 w).mono ?_
    rintro e w' ⟨rfl, rfl⟩
    exact ⟨ret_int (by simp), rfl⟩
  · exact held_own b n k0 w ho hn h0 h1

end Go.Proofs.Ytbmljcpeonopmaa
namespace Go.Proofs.Ytbmljcpeonopmaa
open Go Go.RowKit

theorem and_mask (x : Int) (j : Nat) (m : Nat) (hj : m < 2 ^ j) (h63 : j ≤ 62) : 0 ≤ bits .and .i64 x m ∧ bits .and .i64 x m < 2 ^ j := by
  simp only [bits]
  have hm : (BitVec.ofInt 64 (m : Int)).toNat = m := by
    rw [BitVec.ofInt_natCast, BitVec.toNat_ofNat]
    exact Nat.mod_eq_of_lt (Nat.lt_of_lt_of_le hj (Nat.pow_le_pow_right (by decide) (by omega)))
  have hb : ((BitVec.ofInt IntKind.i64.bits x &&& BitVec.ofInt IntKind.i64.bits (m : Int)).toNat : Int) < 2 ^ j := by
    rw [BitVec.toNat_and]
    have : (BitVec.ofInt IntKind.i64.bits x).toNat &&& (BitVec.ofInt IntKind.i64.bits (m : Int)).toNat < 2 ^ j := Nat.and_lt_two_pow _ (by show (BitVec.ofInt 64 (m : Int)).toNat < _; rw [hm]; exact hj)
    exact_mod_cast this
  have hp : (2 : Int) ^ j ≤ 2 ^ 62 := by
    have : (2 : Nat) ^ j ≤ 2 ^ 62 := Nat.pow_le_pow_right (by decide) h63
    exact_mod_cast this
  rw [IntKind.wrap_i64]
  generalize ((BitVec.ofInt IntKind.i64.bits x &&& BitVec.ofInt IntKind.i64.bits (m : Int)).toNat) = r at *
  generalize (2 : Int) ^ j = P at *
  omega

theorem and255 (x : Int) : 0 ≤ bits .and .i64 x 255 ∧ bits .and .i64 x 255 ≤ 255 := by
  have := and_mask x 8 255 (by decide) (by decide)
  have e : (2 : Int) ^ 8 = 256 := rfl
  rw [e] at this
  exact ⟨this.1, by have := this.2; simp at this ⊢; omega⟩

/-- The bytes of a draw, wherever they lie. -/
def CodeV (w : World) (ao : Option Addr) (n : Nat) : Prop := n = 0 ∨ ∃ b off, ao = some ⟨b, off, none⟩ ∧ b < w.heap.size ∧ ∀ j, j < n → ∃ x : Int, 0 ≤ x ∧ x ≤ 255 ∧ w.cell? ⟨b, off + j, none⟩ = some (.int .u8 x)
theorem cell_of {w : World} {q : Nat} {cs : Array Value} {t : TypeId} (h : w.heap[q]? = some (.cells cs t (0, 0))) (i : Nat) : w.cell? ⟨q, i, none⟩ = cs[i]? := by simp [World.cell?, h]
theorem free_of {w : World} {q : Nat} {cs : Array Value} {t : TypeId} (h : w.heap[q]? = some (.cells cs t (0, 0))) (i : Nat) : w.frozen? ⟨q, i, none⟩ = false := by simp [World.frozen?, h]

theorem set_at1 {w : World} {q : Nat} {a b c v : Value} {t : TypeId} (h : w.heap[q]? = some (.cells #[a, b, c] t (0, 0))) : (w.setCell ⟨q, 1, none⟩ v).heap[q]? = some (.cells #[a, v, c] t (0, 0)) := by
  simp [World.setCell, Array.getElem?_modify, h]
theorem set_at2 {w : World} {q : Nat} {a b c v : Value} {t : TypeId} (h : w.heap[q]? = some (.cells #[a, b, c] t (0, 0))) : (w.setCell ⟨q, 2, none⟩ v).heap[q]? = some (.cells #[a, b, v] t (0, 0)) := by
  simp [World.setCell, Array.getElem?_modify, h]
theorem grown_refl (w : World) (r : Option Nat) : w.grownBy w r := ⟨rfl, rfl, rfl, Nat.le_refl _, fun _ _ _ => rfl⟩
theorem grown_drew {w w' : World} {r : Option Nat} (h : w.grownBy w' r) (n : Nat) : w.grownBy (w'.drewN n) r := ⟨h.os, h.tape, h.output, h.size, h.block⟩
theorem tmod_bd {x n : Int} (h0 : 0 ≤ x) (h1 : 0 < n) : 0 ≤ x.tmod n ∧ x.tmod n < n := by
  rw [Int.tmod_eq_emod_of_nonneg h0]
  exact ⟨Int.emod_nonneg _ (by omega), Int.emod_lt_of_pos _ h1⟩

theorem grown_trans {w w1 w2 : World} {q : Nat} (h : w.grownBy w1 (some q)) (k : w1.grownBy w2 (some q)) : w.grownBy w2 (some q) :=
  ⟨k.os.trans h.os, k.tape.trans h.tape, k.output.trans h.output, Nat.le_trans h.size k.size, fun i hi hne => (k.block i (Nat.lt_of_lt_of_le hi h.size) hne).trans (h.block i hi hne)⟩

end Go.Proofs.Ytbmljcpeonopmaa
namespace Go.Proofs.Ytbmljcpeonopmaa
open Go Go.RowKit

/-- Behind a step that writes into a row of the call's own alone. -/
theorem grown_far {w w1 w2 : World} {q : Nat} {r : Option Nat} (h : w.grownBy w1 (some q)) (k : w1.grownBy w2 r) (hr : ∀ g, r = some g → w.heap.size ≤ g) : w.grownBy w2 (some q) :=
  ⟨k.os.trans h.os, k.tape.trans h.tape, k.output.trans h.output, Nat.le_trans h.size k.size, fun i hi hne => (k.block i (Nat.lt_of_lt_of_le hi h.size) (fun e => by have := hr i e.symm; omega)).trans (h.block i hi hne)⟩

theorem six_at (y : Nat) (h : y < 6) : ∃ v, (#[.int .i64 1000, .int .i64 (-1000), .int .i64 1001, .int .i64 (-1001), .int .i64 4611686018427387904, .int .i64 (-9223372036854775808)] : Array Value)[y]? = some (.int .i64 v) := by
  match y, h with
  | 0, _ => exact ⟨_, rfl⟩
  | 1, _ => exact ⟨_, rfl⟩
  | 2, _ => exact ⟨_, rfl⟩
  | 3, _ => exact ⟨_, rfl⟩
  | 4, _ => exact ⟨_, rfl⟩
  | 5, _ => exact ⟨_, rfl⟩

/-- What a draw of numbers hands back: a row of its own, from block base on. -/
def Row (base : Nat) (w : World) (g c : Nat) (xs : List Int) : Prop := w.ownsRow base 2 1 (.slice (some ⟨g, 0, none⟩) xs.length c) xs.length (xs.map (Value.int .i64))

theorem Row.view {base : Nat} {w : World} {g c : Nat} {xs : List Int} (h : Row base w g c xs) : View w (some ⟨g, 0, none⟩) xs := own_view h

theorem CodeV.below {w w' : World} {B : Nat} {ao : Option Addr} {n : Nat} (hv : CodeV w ao n) (hB : w.heap.size ≤ B) (hw : Below B w w') : CodeV w' ao n := by
  rcases hv with h | ⟨b, off, rfl, hb, hby⟩
  · exact Or.inl h
  · exact Or.inr ⟨b, off, rfl, Nat.lt_of_lt_of_le hb hw.size, fun j hj => by
      obtain ⟨x, h1, h2, hx⟩ := hby j hj
      exact ⟨x, h1, h2, (hw.cell (p := ⟨b, off + j, none⟩) (by show b < B; omega)).trans hx⟩⟩

end Go.Proofs.Ytbmljcpeonopmaa
