/-
  The given Moved: a slice that reads as the plain sum of two points, or as nothing.
  The program's own Moved; the laws' helpers that write numbers into a row and look for them again.
  The laws' cursor over the bytes of a draw: whatever the bytes are, a number that is drawn lies in its range.
  The laws' draws of points: whatever the bytes are, each draw hands back rows of new memory, of at most five numbers.
  The named laws' helpers: likeInts, pick, point.
-/
import Derived.Test.YtfbhohpbhjlihaaGreatCopyZz
import Derived.Deep.RegionHeld3
import Derived.Deep.AppendLies
namespace Go.Proofs.YtfbhohpbhjlihaaGreat
open Go Go.RowKit

theorem hideP {p : Prop} (h : p) : Hid p := h

theorem own_view {w : World} {base g cap n : Nat} {xs : List Int} (h : w.ownsRow base 2 1 (.slice (some ⟨g, 0, none⟩) n cap) n (xs.map (Value.int .i64))) : View w (some ⟨g, 0, none⟩) xs := by
  have hl : xs.length = n := by have := h.1; simpa using this
  refine Or.inr ⟨g, 0, rfl, (h.lt g rfl).2, fun i hi => ?_⟩
  rw [Nat.zero_add, h.cellAt i (by omega)]
  simp [nth, List.getD, hi]

end Go.Proofs.YtfbhohpbhjlihaaGreat
namespace Go.Proofs.YtfbhohpbhjlihaaGreat
open Go Go.RowKit

theorem moved_short (a b : List Int) : (movedL a b).length ≤ 4 := by
  unfold movedL
  split
  · rename_i h
    have := (okB_len (twoB_of h).1).2
    split
    · rw [tabL_length]; exact this
    · simp
  · simp

/-- A slice of the call's own, from block base on (an empty one may be nil). -/
def OwnV (base : Nat) (w : World) (ao : Option Addr) (xs : List Int) : Prop := xs = [] ∨ ∃ b, ao = some ⟨b, 0, none⟩ ∧ base ≤ b ∧ Own w b xs
theorem OwnV.view {base : Nat} {w : World} {ao : Option Addr} {xs : List Int} (h : OwnV base w ao xs) : View w ao xs := by
  rcases h with h | ⟨b, rfl, _, h⟩
  · exact Or.inl h
  · exact h.view
theorem OwnV.below {base B : Nat} {w w' : World} {ao : Option Addr} {xs : List Int} (h : OwnV base w ao xs) (hB : w.heap.size ≤ B) (hw : Below B w w') : OwnV base w' ao xs := by
  rcases h with h | ⟨b, e, hb, h⟩
  · exact Or.inl h
  · exact Or.inr ⟨b, e, hb, h.below (Nat.lt_of_lt_of_le h.lt hB) hw⟩

theorem Own.set {w : World} {b : Nat} {xs : List Int} (h : Own w b xs) (k : Nat) (v : Int) : Own (w.setCell ⟨b, k, none⟩ (.int .i64 v)) b (xs.set k v) := by
  unfold Own at h ⊢
  simp only [World.setCell, Array.getElem?_modify, h]
  simp [rowC, List.map_set]
theorem Own.grown {w w' : World} {b c : Nat} {xs : List Int} (h : Own w b xs) (hg : w.grownBy w' (some c)) (hne : b ≠ c) : Own w' b xs :=
  (hg.block b h.lt (by simp; omega)).trans h
theorem grown_set {w w' : World} {b k : Nat} {v : Value} (hg : w.grownBy w' (some b)) : w.grownBy (w'.setCell ⟨b, k, none⟩ v) (some b) :=
  ⟨hg.os, hg.tape, hg.output, by simpa [World.setCell] using hg.size, fun q hq hne => by
    rw [Below.heap_setCell _ _ _ _ (by intro e; exact hne (by rw [e]))]; exact hg.block q hq hne⟩
theorem OwnV.grown {base c : Nat} {w w' : World} {ao : Option Addr} {xs : List Int} (h : OwnV base w ao xs) (hg : w.grownBy w' (some c)) (hc : c < base) : OwnV base w' ao xs := by
  rcases h with h | ⟨b, e, hb, h⟩
  · exact Or.inl h
  · exact Or.inr ⟨b, e, hb, h.grown hg (by omega)⟩
theorem Own.frozen {w : World} {b : Nat} {xs : List Int} (h : Own w b xs) (i : Nat) : w.frozen? ⟨b, i, none⟩ = false := by
  unfold Own at h; simp [World.frozen?, h]

/-- The row while it is being marked: the first k places hold k0, k0 + 1, .. -/
def marked (k0 : Int) (xs : List Int) (k : Nat) : List Int := tabL (fun i => k0 + i) k ++ xs.drop k
theorem marked_length (k0 : Int) (xs : List Int) (k : Nat) (h : k ≤ xs.length) : (marked k0 xs k).length = xs.length := by simp [marked, tabL_length]; omega
theorem marked_set (k0 : Int) (xs : List Int) (k : Nat) (h : k < xs.length) : (marked k0 xs k).set k (k0 + k) = marked k0 xs (k + 1) := by
  unfold marked
  rw [List.set_append_right _ _ (by rw [tabL_length]; exact Nat.le_refl _), tabL_length, Nat.sub_self, tabL_succ, List.append_assoc, List.drop_eq_getElem_cons h]
  rfl
theorem marked_all (k0 : Int) (xs : List Int) : marked k0 xs xs.length = tabL (fun i => k0 + i) xs.length := by simp [marked]

set_option maxHeartbeats 400000 in
theorem mark_own (b : Nat) (k0 : Int) (xs : List Int) (w : World) (ho : Own w b xs) (hn : xs.length ≤ 1048576) (h0 : 1 ≤ k0) (h1 : k0 ≤ 10000000) :
    Calls Tryz.prog 73 #[.slice (some ⟨b, 0, none⟩) xs.length xs.length, .int .i64 k0] w fun e w' => e = .returned (.int .i64 (k0 + xs.length)) ∧ Own w' b (tabL (fun i => k0 + i) xs.length) ∧ w.grownBy w' (some b) := by
  go_enter Tryz.func73, Tryz.ntmps73
  go_wp2
  go_loopw [1, 5] (fun kk i wr => ∃ k : Nat, k ≤ xs.length ∧ i = .int .i64 k ∧ kk = .int .i64 (k0 + k) ∧ Own wr b (marked k0 xs k) ∧ w.grownBy wr (some b)) (fun _ i _ => xs.length - (intOf i).toNat)
  case atStart => exact ⟨0, Nat.zero_le _, rfl, by simp, by simpa [marked, tabL] using ho, ⟨rfl, rfl, rfl, Nat.le_refl _, fun _ _ _ => rfl⟩⟩
  case round =>
    obtain ⟨k, hk, rfl, rfl, hown, hg⟩ := hrel
    by_cases hlt : k < xs.length
    · have hc := hown.seg.at k (by rw [marked_length _ _ _ hk]; exact hlt)
      have hf := hown.frozen k
      have R1 := hown.set k (k0 + k)
      rw [marked_set k0 xs k hlt] at R1
      have R2 := grown_set (k := k) (v := .int .i64 (k0 + k)) hg
      have HR := hideP (And.intro R1 R2)
      clear R1 R2 hown hg
      go_wp2
      go_roundw
      case rel => exact ⟨k + 1, by omega, by go_num, by go_num, HR.out.1, HR.out.2⟩
      case measure => simp [intOf]; omega
    · go_wp2
      go_ret
      obtain rfl : k = xs.length := by omega
      exact ⟨rfl, by rw [← marked_all]; exact hown, hg⟩

set_option maxHeartbeats 400000 in
theorem mark_nil (ao : Option Addr) (cap : Nat) (k0 : Int) (w : World) :
    Calls Tryz.prog 73 #[.slice ao 0 cap, .int .i64 k0] w fun e w' => e = .returned (.int .i64 k0) ∧ w' = w := by
  go_enter Tryz.func73, Tryz.ntmps73
  go_wp2
  refine wp_loop_rounds 1 ?_
  rw [rounds_succ]
  go_wp2
  go_ret
  exact ⟨rfl, rfl⟩

set_option maxHeartbeats 400000 in
theorem held_nil (ao : Option Addr) (cap : Nat) (k0 : Int) (w : World) :
    Calls Tryz.prog 208 #[.slice ao 0 cap, .int .i64 k0] w fun e w' => e = .returned (.int .i64 k0) ∧ w' = w := by
  go_enter Tryz.func208, Tryz.ntmps208
  go_wp2
  refine wp_loop_rounds 1 ?_
  rw [rounds_succ]
  go_wp2
  go_ret
  exact ⟨rfl, rfl⟩

set_option maxHeartbeats 400000 in
theorem held_own (b n : Nat) (k0 : Int) (w : World) (ho : Own w b (tabL (fun i => k0 + i) n)) (hn : n ≤ 1048576) (h0 : 1 ≤ k0) (h1 : k0 ≤ 10000000) :
    Calls Tryz.prog 208 #[.slice (some ⟨b, 0, none⟩) n n, .int .i64 k0] w fun e w' => e = .returned (.int .i64 (k0 + n)) ∧ w' = w := by
  go_enter Tryz.func208, Tryz.ntmps208
  go_wp2
  go_loop [1, 5] (fun kk i => ∃ k : Nat, k ≤ n ∧ i = .int .i64 k ∧ kk = .int .i64 (k0 + k)) (fun _ i => n - (intOf i).toNat)
  case atStart => exact ⟨0, Nat.zero_le _, rfl, by simp⟩
  case round =>
    obtain ⟨k, hk, rfl, rfl⟩ := hrel
    by_cases hlt : k < n
    · have hc := ho.seg.at k (by rw [tabL_length]; exact hlt)
      rw [tabL_getD _ _ _ hlt] at hc
      have hne : ((k0 + (k : Int)) != (k0 + (k : Int))) = false := by simp
      go_wp2
      go_round
      case rel => exact ⟨k + 1, by omega, by go_num, by go_num⟩
      case measure => simp [intOf]; omega
    · go_wp2
      go_ret
      obtain rfl : k = n := by omega
      exact ⟨rfl, rfl⟩

theorem markV (base : Nat) (ao : Option Addr) (k0 : Int) (xs : List Int) (w : World) (ho : OwnV base w ao xs) (hB : base ≤ w.heap.size) (hn : xs.length ≤ 1048576) (h0 : 1 ≤ k0) (h1 : k0 ≤ 10000000) :
    Calls Tryz.prog 73 #[.slice ao xs.length xs.length, .int .i64 k0] w fun e w' => e = .returned (.int .i64 (k0 + xs.length)) ∧ OwnV base w' ao (tabL (fun i => k0 + i) xs.length) ∧ Below base w w' := by
  rcases ho with rfl | ⟨b, rfl, hb, ho⟩
  · refine (mark_nil ao 0 k0 w).mono ?_
    rintro e w' ⟨rfl, rfl⟩
    exact ⟨ret_int (by simp), Or.inl rfl, Below.refl _ _⟩
  · refine (mark_own b k0 xs w ho hn h0 h1).mono ?_
    rintro e w' ⟨rfl, o, g⟩
    exact ⟨rfl, Or.inr ⟨b, rfl, hb, o⟩, (Below.refl _ _).grown g hB (fun k hk => by cases hk; exact hb)⟩

theorem heldV (base n : Nat) (ao : Option Addr) (k0 : Int) (w : World) (ho : OwnV base w ao (tabL (fun i => k0 + i) n)) (hn : n ≤ 1048576) (h0 : 1 ≤ k0) (h1 : k0 ≤ 10000000) :
    Calls Tryz.prog 208 #[.slice ao n n, .int .i64 k0] w fun e w' => e = .returned (.int .i64 (k0 + n)) ∧ w' = w := by
  rcases ho with h | ⟨b, rfl, hb, ho⟩
  · have : n = 0 := by have := congrArg List.length h; simpa [tabL_length] using this
    subst this
    refine (held_nil ao 0 k0 w).mono ?_
    rintro e w' ⟨rfl, rfl⟩
    exact ⟨ret_int (by simp), rfl⟩
  · exact held_own b n k0 w ho hn h0 h1

end Go.Proofs.YtfbhohpbhjlihaaGreat
namespace Go.Proofs.YtfbhohpbhjlihaaGreat
open Go Go.RowKit

theorem and_mask (x : Int) (j : Nat) (m : Nat) (hj : m < 2 ^ j) (h63 : j ≤ 62) : 0 ≤ bits .and .i64 x m ∧ bits .and .i64 x m < 2 ^ j := by
  simp only [bits]
  have hm : (BitVec.ofInt 64 (m : Int)).toNat = m := by
    rw [BitVec.ofInt_natCast, BitVec.toNat_ofNat]
    exact Nat.mod_eq_of_lt (Nat.lt_of_lt_of_le hj (Nat.pow_le_pow_right (by decide) (by omega)))
  have hb : ((BitVec.ofInt IntKind.i64.bits x &&& BitVec.ofInt IntKind.i64.bits (m : Int)).toNat : Int) < 2 ^ j := by
    rw [BitVec.toNat_and]
    have : (BitVec.ofInt IntKind.i64.bits x).toNat &&& (BitVec.ofInt IntKind.i64.bits (m : Int)).toNat < 2 ^ j := Nat.and_lt_two_pow _ (by show (BitVec.ofInt 64 (m : Int)).toNat < _; rw [hm]; exact hj)
    exact_mod_cast this
  have hp : (2 : Int) ^ j ≤ 2 ^ 62 := by
    have : (2 : Nat) ^ j ≤ 2 ^ 62 := Nat.pow_le_pow_right (by decide) h63
    exact_mod_cast this
  rw [IntKind.wrap_i64]
  generalize ((BitVec.ofInt IntKind.i64.bits x &&& BitVec.ofInt IntKind.i64.bits (m : Int)).toNat) = r at *
  generalize (2 : Int) ^ j = P at *
  omega

theorem and255 (x : Int) : 0 ≤ bits .and .i64 x 255 ∧ bits .and .i64 x 255 ≤ 255 := by
  have := and_mask x 8 255 (by decide) (by decide)
  have e : (2 : Int) ^ 8 = 256 := rfl
  rw [e] at this
  exact ⟨this.1, by have := this.2; simp at this ⊢; omega⟩

/-- The bytes of a draw, wherever they lie. -/
def CodeV (w : World) (ao : Option Addr) (n : Nat) : Prop := n = 0 ∨ ∃ b off, ao = some ⟨b, off, none⟩ ∧ b < w.heap.size ∧ ∀ j, j < n → ∃ x : Int, 0 ≤ x ∧ x ≤ 255 ∧ w.cell? ⟨b, off + j, none⟩ = some (.int .u8 x)
/-- A cursor in block q. -/
def Cur (w : World) (q : Nat) (ao : Option Addr) (n cap : Nat) : Prop := ∃ (i : Nat) (h : Int), i ≤ n ∧ w.heap[q]? = some (.cells #[.slice ao n cap, .int .i64 i, .int .i64 h] 175 (0, 0))

theorem cell_of {w : World} {q : Nat} {cs : Array Value} {t : TypeId} (h : w.heap[q]? = some (.cells cs t (0, 0))) (i : Nat) : w.cell? ⟨q, i, none⟩ = cs[i]? := by simp [World.cell?, h]
theorem free_of {w : World} {q : Nat} {cs : Array Value} {t : TypeId} (h : w.heap[q]? = some (.cells cs t (0, 0))) (i : Nat) : w.frozen? ⟨q, i, none⟩ = false := by simp [World.frozen?, h]

theorem set_at1 {w : World} {q : Nat} {a b c v : Value} {t : TypeId} (h : w.heap[q]? = some (.cells #[a, b, c] t (0, 0))) : (w.setCell ⟨q, 1, none⟩ v).heap[q]? = some (.cells #[a, v, c] t (0, 0)) := by
  simp [World.setCell, Array.getElem?_modify, h]
theorem set_at2 {w : World} {q : Nat} {a b c v : Value} {t : TypeId} (h : w.heap[q]? = some (.cells #[a, b, c] t (0, 0))) : (w.setCell ⟨q, 2, none⟩ v).heap[q]? = some (.cells #[a, b, v] t (0, 0)) := by
  simp [World.setCell, Array.getElem?_modify, h]
theorem grown_refl (w : World) (r : Option Nat) : w.grownBy w r := ⟨rfl, rfl, rfl, Nat.le_refl _, fun _ _ _ => rfl⟩
theorem grown_drew {w w' : World} {r : Option Nat} (h : w.grownBy w' r) (n : Nat) : w.grownBy (w'.drewN n) r := ⟨h.os, h.tape, h.output, h.size, h.block⟩
theorem code_ne {w : World} {q b o : Nat} {ao : Option Addr} {n cap : Nat} {i h x : Int} (hb : w.heap[q]? = some (.cells #[.slice ao n cap, .int .i64 i, .int .i64 h] 175 (0, 0))) (hx : w.cell? ⟨b, o, none⟩ = some (.int .u8 x)) : b ≠ q := by
  intro e
  subst e
  rw [cell_of hb] at hx
  match o, hx with
  | 0, hx => simp at hx
  | 1, hx => simp at hx
  | 2, hx => simp at hx
  | k + 3, hx => simp at hx

set_option maxRecDepth 100000 in
set_option maxHeartbeats 1000000 in
theorem cByte (q : Nat) (ao : Option Addr) (n cap : Nat) (w : World) (hc : Cur w q ao n cap) (hv : CodeV w ao n) (hn : n ≤ 4096) :
    Calls Tryz.prog 154 #[.pointer (some ⟨q, 0, none⟩)] w fun e w' => (∃ x : Int, 0 ≤ x ∧ x ≤ 255 ∧ e = .returned (.int .i64 x)) ∧ Cur w' q ao n cap ∧ w.grownBy w' (some q) := by
  obtain ⟨i, h, hi, hb⟩ := hc
  have c0 : w.cell? ⟨q, 0, none⟩ = some (.slice ao n cap) := cell_of hb 0
  have c1 : w.cell? ⟨q, 1, none⟩ = some (.int .i64 i) := cell_of hb 1
  have c2 : w.cell? ⟨q, 2, none⟩ = some (.int .i64 h) := cell_of hb 2
  have f1 := free_of hb 1
  have f2 := free_of hb 2
  have HB := hideP hb
  by_cases hlt : i < n
  · obtain ⟨b, off, rfl, hbl, hby⟩ : ∃ b off, ao = some ⟨b, off, none⟩ ∧ b < w.heap.size ∧ ∀ j, j < n → ∃ x : Int, 0 ≤ x ∧ x ≤ 255 ∧ w.cell? ⟨b, off + j, none⟩ = some (.int .u8 x) := by
      rcases hv with h0 | h0
      · omega
      · exact h0
    obtain ⟨x, hx0, hx1, hx⟩ := hby i hlt
    have hne := code_ne hb hx
    clear hb hby
    go_enter Tryz.func154, Tryz.ntmps154
    go_wp2
    go_quiet (fail)
    go_wp2
    go_quiet (fail)
    go_wp2
    go_quiet (fail)
    go_wp2
    go_ret
    refine ⟨⟨_, (and255 _).1, (and255 _).2, rfl⟩, ⟨i + 1, wrap64 (wrap64 (h * 6364136223846793005) + 1442695040888963407), by omega, ?_⟩, ?_⟩
    · rw [show ((i + 1 : Nat) : Int) = (i : Int) + 1 by omega]
      exact set_at1 (set_at2 HB.out)
    · exact grown_set (grown_drew (grown_set (grown_refl _ _)) _)
  · clear hb
    go_enter Tryz.func154, Tryz.ntmps154
    go_wp2
    go_quiet (fail)
    go_wp2
    go_quiet (fail)
    go_wp2
    go_ret
    refine ⟨⟨_, (and255 _).1, (and255 _).2, rfl⟩, ⟨i, wrap64 (wrap64 (h * 6364136223846793005) + 1442695040888963407), hi, ?_⟩, ?_⟩
    · exact set_at2 HB.out
    · exact grown_drew (grown_drew (grown_set (grown_refl _ _)) _) _

theorem CodeV.grown {w w' : World} {q : Nat} {ao : Option Addr} {n cap : Nat} (hv : CodeV w ao n) (hc : Cur w q ao n cap) (hg : w.grownBy w' (some q)) : CodeV w' ao n := by
  rcases hv with h | ⟨b, off, rfl, hb, hby⟩
  · exact Or.inl h
  · rcases Nat.eq_zero_or_pos n with h0 | h0
    · exact Or.inl h0
    · refine Or.inr ⟨b, off, rfl, Nat.lt_of_lt_of_le hb hg.size, fun j hj => ?_⟩
      obtain ⟨x, h1, h2, hx⟩ := hby j hj
      obtain ⟨i, h, _, hq⟩ := hc
      exact ⟨x, h1, h2, hg.cell hx (by have := code_ne hq hx; simpa using this)⟩

theorem tmod_bd {x n : Int} (h0 : 0 ≤ x) (h1 : 0 < n) : 0 ≤ x.tmod n ∧ x.tmod n < n := by
  rw [Int.tmod_eq_emod_of_nonneg h0]
  exact ⟨Int.emod_nonneg _ (by omega), Int.emod_lt_of_pos _ h1⟩

theorem grown_trans {w w1 w2 : World} {q : Nat} (h : w.grownBy w1 (some q)) (k : w1.grownBy w2 (some q)) : w.grownBy w2 (some q) :=
  ⟨k.os.trans h.os, k.tape.trans h.tape, k.output.trans h.output, Nat.le_trans h.size k.size, fun i hi hne => (k.block i (Nat.lt_of_lt_of_le hi h.size) hne).trans (h.block i hi hne)⟩

set_option maxRecDepth 100000 in
set_option maxHeartbeats 400000 in
theorem cBelow (q : Nat) (ao : Option Addr) (n cap : Nat) (m : Int) (w : World) (hc : Cur w q ao n cap) (hv : CodeV w ao n) (hn : n ≤ 4096) (h0 : 1 ≤ m) (h1 : m ≤ 256) :
    Calls Tryz.prog 80 #[.pointer (some ⟨q, 0, none⟩), .int .i64 m] w fun e w' => (∃ x : Int, 0 ≤ x ∧ x < m ∧ e = .returned (.int .i64 x)) ∧ Cur w' q ao n cap ∧ w.grownBy w' (some q) := by
  have h2 : ¬ m ≤ 0 := by omega
  have h3 : (m == 0) = false := by simp; omega
  go_enter Tryz.func80, Tryz.ntmps80
  go_wp2_with fail
  refine (cByte q ao n cap _ hc hv hn).mono ?_
  rintro e w1 ⟨⟨x, hx0, hx1, rfl⟩, c1, g1⟩
  go_wp2_with fail
  go_ret
  exact ⟨⟨x % m, Int.emod_nonneg _ (by omega), Int.emod_lt_of_pos _ (by omega), rfl⟩, c1, g1⟩

set_option maxHeartbeats 400000 in
theorem cOnce (q : Nat) (ao : Option Addr) (n cap : Nat) (m : Int) (w : World) (hc : Cur w q ao n cap) (hv : CodeV w ao n) (hn : n ≤ 4096) (h0 : 1 ≤ m) (h1 : m ≤ 256) :
    Calls Tryz.prog 83 #[.pointer (some ⟨q, 0, none⟩), .int .i64 m] w fun e w' => (∃ x : Bool, e = .returned (.bool x)) ∧ Cur w' q ao n cap ∧ w.grownBy w' (some q) := by
  go_enter Tryz.func83, Tryz.ntmps83
  go_wp2_with fail
  refine (cBelow q ao n cap m _ hc hv hn h0 h1).mono ?_
  rintro e w1 ⟨⟨x, hx0, hx1, rfl⟩, c1, g1⟩
  go_wp2_with fail
  go_ret
  exact ⟨⟨_, rfl⟩, c1, g1⟩

set_option maxHeartbeats 400000 in
theorem cFrom (q : Nat) (ao : Option Addr) (n cap : Nat) (lo hi : Int) (w : World) (hc : Cur w q ao n cap) (hv : CodeV w ao n) (hn : n ≤ 4096) (h0 : lo ≤ hi) (h1 : hi - lo + 1 ≤ 256) (hlo : -1000000000 ≤ lo) (hhi : hi ≤ 1000000000) :
    Calls Tryz.prog 84 #[.pointer (some ⟨q, 0, none⟩), .int .i64 lo, .int .i64 hi] w fun e w' => (∃ x : Int, lo ≤ x ∧ x ≤ hi ∧ e = .returned (.int .i64 x)) ∧ Cur w' q ao n cap ∧ w.grownBy w' (some q) := by
  go_enter Tryz.func84, Tryz.ntmps84
  go_wp2_with fail
  refine (cBelow q ao n cap (hi - lo + 1) _ hc hv hn (by omega) h1).mono ?_
  rintro e w1 ⟨⟨x, hx0, hx1, rfl⟩, c1, g1⟩
  go_wp2_with fail
  go_ret
  exact ⟨⟨lo + x, by omega, by omega, rfl⟩, c1, g1⟩

set_option maxRecDepth 100000 in
set_option maxHeartbeats 400000 in
theorem cNew_nil (ao : Option Addr) (cap : Nat) (w : World) :
    Calls Tryz.prog 78 #[.slice ao 0 cap] w fun e w' => e = .returned (.pointer (some ⟨w.heap.size, 0, none⟩)) ∧ Cur w' w.heap.size ao 0 cap ∧ Below w.heap.size w w' := by
  go_enter Tryz.func78, Tryz.ntmps78
  go_wp2
  refine wp_loop_rounds 1 ?_
  rw [rounds_succ]
  go_wp2
  go_ret
  refine ⟨rfl, ⟨0, 117017, Nat.le_refl _, heap_alloc_new w _⟩, (Below.refl _ _).alloc (Nat.le_refl _) _⟩

set_option maxRecDepth 100000 in
set_option maxHeartbeats 400000 in
theorem cNew (ao : Option Addr) (n cap : Nat) (w : World) (hv : CodeV w ao n) (hn : n ≤ 4096) :
    Calls Tryz.prog 78 #[.slice ao n cap] w fun e w' => e = .returned (.pointer (some ⟨w.heap.size, 0, none⟩)) ∧ Cur w' w.heap.size ao n cap ∧ Below w.heap.size w w' := by
  rcases hv with rfl | ⟨b, off, rfl, hbl, hby⟩
  · exact cNew_nil ao cap w
  · have HY := hideP hby
    clear hby
    go_enter Tryz.func78, Tryz.ntmps78
    go_wp2
    go_loop [3, 4] (fun s i => ∃ k : Nat, k ≤ n ∧ i = .int .i64 k ∧ ∃ h : Int, s = .int .i64 h) (fun _ i => n - (intOf i).toNat)
    case atStart => exact ⟨0, Nat.zero_le _, rfl, _, rfl⟩
    case round =>
      obtain ⟨k, hk, rfl, h, rfl⟩ := hrel
      by_cases hlt : k < n
      · obtain ⟨x, hx0, hx1, hx⟩ := HY.out k hlt
        go_wp2
        go_round
        case rel => exact ⟨k + 1, by omega, by go_num, _, rfl⟩
        case measure => simp [intOf]; omega
      · go_wp2
        go_ret
        exact ⟨rfl, ⟨0, h, Nat.zero_le _, heap_alloc_new w _⟩, (Below.refl _ _).alloc (Nat.le_refl _) _⟩

end Go.Proofs.YtfbhohpbhjlihaaGreat
namespace Go.Proofs.YtfbhohpbhjlihaaGreat
open Go Go.RowKit

theorem Cur.lt {w : World} {q : Nat} {ao : Option Addr} {n cap : Nat} (h : Cur w q ao n cap) : q < w.heap.size := by
  obtain ⟨i, x, _, h⟩ := h
  rcases Nat.lt_or_ge q w.heap.size with h1 | h1
  · exact h1
  · rw [Array.getElem?_eq_none h1] at h; cases h
theorem Cur.grown {w w' : World} {q : Nat} {r : Option Nat} {ao : Option Addr} {n cap : Nat} (h : Cur w q ao n cap) (hg : w.grownBy w' r) (hne : some q ≠ r) : Cur w' q ao n cap := by
  have := h.lt
  obtain ⟨i, x, hi, hb⟩ := h
  exact ⟨i, x, hi, (hg.block q this hne).trans hb⟩
theorem Cur.alloc {w : World} {q : Nat} {ao : Option Addr} {n cap : Nat} (h : Cur w q ao n cap) (o : Obj) : Cur (w.alloc o) q ao n cap := h.grown (World.grownBy_alloc w o none) (by simp)
theorem Cur.drew {w : World} {q : Nat} {ao : Option Addr} {n cap : Nat} (h : Cur w q ao n cap) : Cur w.drew q ao n cap := h
/-- Behind a step that writes into a row of the call's own alone. -/
theorem grown_far {w w1 w2 : World} {q : Nat} {r : Option Nat} (h : w.grownBy w1 (some q)) (k : w1.grownBy w2 r) (hr : ∀ g, r = some g → w.heap.size ≤ g) : w.grownBy w2 (some q) :=
  ⟨k.os.trans h.os, k.tape.trans h.tape, k.output.trans h.output, Nat.le_trans h.size k.size, fun i hi hne => (k.block i (Nat.lt_of_lt_of_le hi h.size) (fun e => by have := hr i e.symm; omega)).trans (h.block i hi hne)⟩

theorem six_at (y : Nat) (h : y < 6) : ∃ v, (#[.int .i64 1000, .int .i64 (-1000), .int .i64 1001, .int .i64 (-1001), .int .i64 4611686018427387904, .int .i64 (-9223372036854775808)] : Array Value)[y]? = some (.int .i64 v) := by
  match y, h with
  | 0, _ => exact ⟨_, rfl⟩
  | 1, _ => exact ⟨_, rfl⟩
  | 2, _ => exact ⟨_, rfl⟩
  | 3, _ => exact ⟨_, rfl⟩
  | 4, _ => exact ⟨_, rfl⟩
  | 5, _ => exact ⟨_, rfl⟩

/-- What a draw of numbers hands back: a row of its own, from block base on. -/
def Row (base : Nat) (w : World) (g c : Nat) (xs : List Int) : Prop := w.ownsRow base 2 1 (.slice (some ⟨g, 0, none⟩) xs.length c) xs.length (xs.map (Value.int .i64))

set_option maxRecDepth 100000 in
set_option maxHeartbeats 1000000 in
theorem cPoint (q : Nat) (ao : Option Addr) (n cap m : Nat) (w : World) (hc : Cur w q ao n cap) (hv : CodeV w ao n) (hn : n ≤ 4096) (hm : m ≤ 100) :
    Calls Tryz.prog 155 #[.pointer (some ⟨q, 0, none⟩), .int .i64 m] w fun e w' => (∃ g c xs, e = .returned (.slice (some ⟨g, 0, none⟩) xs.length c) ∧ xs.length = m ∧ Row w.heap.size w' g c xs) ∧ Cur w' q ao n cap ∧ w.grownBy w' (some q) := by
  have hq := hc.lt
  obtain ⟨i0, hi0, hz0, hz1, hz2⟩ := info_parts Tryz.info2
  go_enter Tryz.func155, Tryz.ntmps155
  go_wp2_with fail
  go_loopw [1, 5] (fun s v wr => ∃ (xs : List Int) (g c : Nat), xs.length ≤ m ∧ s = .int .i64 ((m : Int) - xs.length) ∧ v = .slice (some ⟨g, 0, none⟩) xs.length c ∧ Row w.heap.size wr g c xs ∧ Cur wr q ao n cap ∧ w.grownBy wr (some q)) (fun s _ _ => (intOf s).toNat)
  case atStart =>
    exact ⟨[], w.heap.size, 0, Nat.zero_le _, by simp, rfl, World.ownsRow_lit w #[] 0 (Nat.le_refl _) (Nat.zero_le _) rfl, hc.alloc _, World.grownBy_alloc w _ _⟩
  case round =>
    obtain ⟨xs, g, c, hk, rfl, rfl, hrow, hcr, hg⟩ := hrel
    have hvr := hv.grown hc hg
    have hgl := hrow.lt g rfl
    by_cases hlt : xs.length < m
    · go_wp2_with fail
      refine (cFrom q ao n cap (-6) 13 _ hcr hvr hn (by omega) (by omega) (by omega) (by omega)).mono ?_
      rintro e w1 ⟨⟨x, hx0, hx1, rfl⟩, c1, g1⟩
      have hrow1 : Row w.heap.size w1 g c xs := World.ownsRow.kept hrow g1 (Or.inr (by simp [Value.ownBlock]; omega))
      have hs1 := g1.size
      clear hrow hcr hvr
      go_wp2_with (at_builtin; refine wpList_append_lies _ rfl (.tmp 11) (.tmp 14) 28 rfl w.heap.size 2 i0 _ 1 8 Tryz.underlying28 hi0 hz0 hz1 hz2 rfl (by omega) (.slice (some ⟨g, 0, none⟩) xs.length c) xs.length (xs.map (Value.int .i64)) rfl (World.ownsRow.alloc hrow1 _) ⟨w1.heap.size, 0, none⟩ 1 1 [.int .i64 x] rfl rfl (World.news_of_block (cs := #[.int .i64 x]) (t := 2) (fr := (0, 0)) (heap_alloc_new w1 _)) (by simp [Value.oneCell']) (by omega) (by unfold maxLen; omega) (by omega) (by simp; omega) (w1.heap.size + 1) (by simp) ?_; intro gg cc w2 hown2 hgrow hat hlt1)
      go_wp2
      go_roundw
      case rel =>
        refine ⟨xs ++ [x], gg, cc, by simp; omega, ?_, ?_, ?_, ?_, ?_⟩
        · rw [List.length_append, List.length_singleton, show ((xs.length + 1 : Nat) : Int) = (xs.length : Int) + 1 by omega]; congr 1; omega
        · rw [List.length_append, List.length_singleton]
        · unfold Row; rw [List.length_append, List.length_singleton, List.map_append]; exact hown2
        · exact (c1.alloc _).grown hgrow (by simp [Value.ownBlock]; omega)
        · exact grown_far (grown_far (grown_trans hg g1) (World.grownBy_alloc w1 _ none) (by simp)) hgrow (by intro k hk; simp [Value.ownBlock] at hk; omega)
      case measure => simp [intOf]; omega
    · have hml : xs.length = m := by omega
      go_wp2_with fail
      refine (cOnce q ao n cap 20 _ hcr hvr hn (by omega) (by omega)).mono ?_
      rintro e w1 ⟨⟨x, rfl⟩, c1, g1⟩
      have hrow1 : Row w.heap.size w1 g c xs := World.ownsRow.kept hrow g1 (Or.inr (by simp [Value.ownBlock]; omega))
      have hg1 := grown_trans hg g1
      have hv1 := hv.grown hc hg1
      have hs1 := g1.size
      have HM := hideP hml
      clear hrow hcr hvr g1 hg hml
      cases x with
      | false =>
        go_wp2_with fail
        go_ret
        exact ⟨⟨g, c, xs, rfl, HM.out, hrow1⟩, c1, hg1⟩
      | true =>
        by_cases h0 : xs.length = 0
        · have h0b : ¬ ((0 : Int) < (xs.length : Int)) := by omega
          have H0 := hideP h0
          clear h0
          go_wp2_with fail
          go_ret
          exact ⟨⟨g, c, xs, rfl, HM.out, hrow1⟩, c1, hg1⟩
        · have h0b : (0 : Int) < (xs.length : Int) := by omega
          go_wp2_with fail
          refine (cBelow q ao n cap 6 _ (c1.alloc _) (hv.grown hc (grown_far hg1 (World.grownBy_alloc w1 _ none) (by simp))) hn (by omega) (by omega)).mono ?_
          rintro e w2 ⟨⟨y, hy0, hy1, rfl⟩, c2, g2⟩
          obtain ⟨yn, rfl⟩ := Int.eq_ofNat_of_zero_le hy0
          obtain ⟨v, hv6⟩ := six_at yn (by omega)
          have ht : w2.cell? ⟨w1.heap.size, yn, none⟩ = some (.int .i64 v) := g2.cell (by rw [World.cell?_alloc_at _ _ _ _ rfl]; exact hv6) (by simp; omega)
          have hrow2 : Row w.heap.size w2 g c xs := World.ownsRow.kept (World.ownsRow.alloc hrow1 _) g2 (Or.inr (by simp [Value.ownBlock]; omega))
          have hl0 : 0 < (xs.map (Value.int .i64)).length := by simp; omega
          have hcg := World.ownsRow.cellAt hrow2 0 (by omega)
          rw [List.getElem?_eq_getElem hl0] at hcg
          have hfg := World.ownsRow.frozenAt hrow2 0
          have R := World.ownsRow.stored hrow2 0 (.int .i64 v)
          have HR := hideP R
          clear R
          have hy2 : (yn : Int) < 6 := by omega
          have hgw := grown_far (grown_trans hg1 (grown_refl _ _)) (World.grownBy_alloc w1 (.cells #[.int .i64 1000, .int .i64 (-1000), .int .i64 1001, .int .i64 (-1001), .int .i64 4611686018427387904, .int .i64 (-9223372036854775808)] 2) none) (by simp)
          have hgw2 := grown_trans hgw g2
          clear g2 hgw hg1 hrow1
          go_wp2_with fail
          go_ret
          have e1 : (xs.set 0 v).length = xs.length := by simp
          refine ⟨⟨g, c, xs.set 0 v, ?_, by rw [e1]; exact HM.out, ?_⟩, ?_, ?_⟩
          · rw [e1]; rfl
          · unfold Row; rw [e1, List.map_set]; exact HR.out.1
          · exact c2.grown HR.out.2 (by simp; omega)
          · exact grown_far hgw2 HR.out.2 (by intro k hk; cases hk; omega)

set_option maxRecDepth 100000 in
set_option maxHeartbeats 1000000 in
theorem cAny (q : Nat) (ao : Option Addr) (n cap m : Nat) (w : World) (hc : Cur w q ao n cap) (hv : CodeV w ao n) (hn : n ≤ 4096) (hm : m ≤ 99) :
    Calls Tryz.prog 81 #[.pointer (some ⟨q, 0, none⟩), .int .i64 m] w fun e w' => (∃ g c xs, e = .returned (.slice (some ⟨g, 0, none⟩) xs.length c) ∧ xs.length ≤ m + 1 ∧ Row w.heap.size w' g c xs) ∧ Cur w' q ao n cap ∧ w.grownBy w' (some q) := by
  have hq := hc.lt
  obtain ⟨i0, hi0, hz0, hz1, hz2⟩ := info_parts Tryz.info2
  go_enter Tryz.func81, Tryz.ntmps81
  go_wp2_with fail
  refine (cPoint q ao n cap m _ hc hv hn (by omega)).mono ?_
  rintro e w1 ⟨⟨g, c, xs, rfl, hl, hrow⟩, c1, g1⟩
  have hv1 := hv.grown hc g1
  have hgl := hrow.lt g rfl
  have hl2 : xs.length ≤ m := by omega
  clear hl
  go_wp2_with fail
  refine (cOnce q ao n cap 20 _ c1 hv1 hn (by omega) (by omega)).mono ?_
  rintro e w2 ⟨⟨x, rfl⟩, c2, g2⟩
  have hrow2 : Row w.heap.size w2 g c xs := World.ownsRow.kept hrow g2 (Or.inr (by simp [Value.ownBlock]; omega))
  have hg2 := grown_trans g1 g2
  have hs2 := hg2.size
  clear hrow c1 g1 g2 hv1
  cases x with
  | false =>
    go_wp2_with fail
    go_ret
    exact ⟨⟨g, c, xs, rfl, by omega, hrow2⟩, c2, hg2⟩
  | true =>
    go_wp2_with (at_builtin; refine wpList_append_lies _ rfl (.tmp 11) (.tmp 12) 28 rfl w.heap.size 2 i0 _ 1 8 Tryz.underlying28 hi0 hz0 hz1 hz2 rfl (by omega) (.slice (some ⟨g, 0, none⟩) xs.length c) xs.length (xs.map (Value.int .i64)) rfl (World.ownsRow.alloc hrow2 _) ⟨w2.heap.size, 0, none⟩ 1 1 [.int .i64 1] rfl rfl (World.news_of_block (cs := #[.int .i64 1]) (t := 2) (fr := (0, 0)) (heap_alloc_new w2 _)) (by simp [Value.oneCell']) (by omega) (by unfold maxLen; omega) (by omega) (by simp; omega) (w2.heap.size + 1) (by simp) ?_; intro gg cc w3 hown3 hgrow hat hlt1)
    go_ret
    refine ⟨⟨gg, cc, xs ++ [1], ?_, by simp; omega, ?_⟩, ?_, ?_⟩
    · rw [List.length_append, List.length_singleton]; rfl
    · unfold Row; rw [List.length_append, List.length_singleton, List.map_append]; exact hown3
    · exact (c2.alloc _).grown hgrow (by simp [Value.ownBlock]; omega)
    · exact grown_far (grown_far hg2 (World.grownBy_alloc w2 _ none) (by simp)) hgrow (by intro k hk; simp [Value.ownBlock] at hk; omega)

theorem Row.view {base : Nat} {w : World} {g c : Nat} {xs : List Int} (h : Row base w g c xs) : View w (some ⟨g, 0, none⟩) xs := own_view h

theorem cAnyI (q : Nat) (ao : Option Addr) (n cap : Nat) (m : Int) (w : World) (hc : Cur w q ao n cap) (hv : CodeV w ao n) (hn : n ≤ 4096) (h0 : 0 ≤ m) (hm : m ≤ 4) :
    Calls Tryz.prog 81 #[.pointer (some ⟨q, 0, none⟩), .int .i64 m] w fun e w' => (∃ g c xs, e = .returned (.slice (some ⟨g, 0, none⟩) xs.length c) ∧ xs.length ≤ 5 ∧ Row w.heap.size w' g c xs) ∧ Cur w' q ao n cap ∧ w.grownBy w' (some q) := by
  obtain ⟨k, rfl⟩ := Int.eq_ofNat_of_zero_le h0
  refine (cAny q ao n cap k w hc hv hn (by omega)).mono ?_
  rintro e w' ⟨⟨g, c, xs, rfl, hl, hrow⟩, h⟩
  exact ⟨⟨g, c, xs, rfl, by omega, hrow⟩, h⟩

theorem CodeV.below {w w' : World} {B : Nat} {ao : Option Addr} {n : Nat} (hv : CodeV w ao n) (hB : w.heap.size ≤ B) (hw : Below B w w') : CodeV w' ao n := by
  rcases hv with h | ⟨b, off, rfl, hb, hby⟩
  · exact Or.inl h
  · exact Or.inr ⟨b, off, rfl, Nat.lt_of_lt_of_le hb hw.size, fun j hj => by
      obtain ⟨x, h1, h2, hx⟩ := hby j hj
      exact ⟨x, h1, h2, (hw.cell (p := ⟨b, off + j, none⟩) (by show b < B; omega)).trans hx⟩⟩

end Go.Proofs.YtfbhohpbhjlihaaGreat
namespace Go.Proofs.YtfbhohpbhjlihaaGreat
open Go Go.RowKit

set_option maxHeartbeats 400000 in
theorem likeS_ne (ao ao' : Option Addr) (n n' cap cap' : Nat) (w : World) (h : n ≠ n') :
    Calls Tryz.prog 106 #[.slice ao n cap, .slice ao' n' cap'] w fun e w' => e = .returned (.bool false) ∧ w' = w := by
  have hlb : ((n : Int) != (n' : Int)) = true := by simp; omega
  go_enter Tryz.func106, Tryz.ntmps106
  go_wp2
  go_ret
  exact ⟨rfl, rfl⟩

set_option maxHeartbeats 400000 in
theorem likeS_nil (ao ao' : Option Addr) (cap cap' : Nat) (w : World) :
    Calls Tryz.prog 106 #[.slice ao 0 cap, .slice ao' 0 cap'] w fun e w' => e = .returned (.bool true) ∧ w' = w := by
  go_enter Tryz.func106, Tryz.ntmps106
  go_wp2
  refine wp_loop_rounds 1 ?_
  rw [rounds_succ]
  go_wp2
  go_ret
  exact ⟨rfl, rfl⟩

set_option maxHeartbeats 400000 in
theorem likeS_seg (b off cap b' off' cap' : Nat) (xs ys : List Int) (w : World) (hs : Seg w b off xs) (hs' : Seg w b' off' ys) (hn : xs.length ≤ 1048576) (hl : xs.length = ys.length) :
    Calls Tryz.prog 106 #[.slice (some ⟨b, off, none⟩) xs.length cap, .slice (some ⟨b', off', none⟩) ys.length cap'] w fun e w' => e = .returned (.bool (decide (xs = ys))) ∧ ∃ n, w' = w.drewN n := by
  have hlb : ((xs.length : Int) != (ys.length : Int)) = false := by simp [hl]
  have HL : Hid (xs.length = ys.length) := hl
  have hn' : ys.length ≤ 1048576 := by omega
  clear hl
  go_enter Tryz.func106, Tryz.ntmps106
  go_wp2
  go_loopw [5] (fun i wr => ∃ k : Nat, k ≤ xs.length ∧ i = .int .i64 k ∧ (∀ j, j < k → nth xs j = nth ys j) ∧ ∃ n, wr = w.drewN n) (fun i _ => xs.length - (intOf i).toNat)
  case atStart => exact ⟨0, Nat.zero_le _, rfl, fun j hj => by omega, 0, rfl⟩
  case round =>
    obtain ⟨k, hk, rfl, hall, n, rfl⟩ := hrel
    have HA : Hid (∀ j, j < k → nth xs j = nth ys j) := hall
    clear hall
    by_cases hlt : k < xs.length
    · have hc := hs k hlt
      have hlt' : k < ys.length := by have := HL.out; omega
      have hc' := hs' k hlt'
      by_cases he : nth xs k = nth ys k
      · have heb : (nth xs k != nth ys k) = false := by simp [he]
        have HE : Hid (nth xs k = nth ys k) := he
        clear he
        go_wp2
        go_quiet (fail)
        go_wp2
        go_roundw
        case rel => exact ⟨k + 1, by omega, by go_num, fun j hj => by
          rcases Nat.lt_or_ge j k with h | h
          · exact HA.out j h
          · rw [show j = k by omega]; exact HE.out, _, rfl⟩
        case measure => simp [intOf]; omega
      · have heb : (nth xs k != nth ys k) = true := by simp [he]
        have HE : Hid (¬ nth xs k = nth ys k) := he
        clear he
        go_wp2
        go_quiet (fail)
        go_wp2
        go_ret
        exact ⟨ret_bool (Eq.symm (decide_eq_false (fun h => HE.out (by rw [h])))), n + nq, by simp⟩
    · go_wp2
      go_ret
      obtain rfl : k = xs.length := by omega
      exact ⟨ret_bool (Eq.symm (decide_eq_true (eq_of_nth HL.out HA.out))), _, rfl⟩

/-- likeInts: are two alike. -/
theorem likeS (ao ao' : Option Addr) (cap cap' : Nat) (xs ys : List Int) (w : World) (hv : View w ao xs) (hv' : View w ao' ys) (hn : xs.length ≤ 1048576) :
    Calls Tryz.prog 106 #[.slice ao xs.length cap, .slice ao' ys.length cap'] w fun e w' => e = .returned (.bool (decide (xs = ys))) ∧ ∃ n, w' = w.drewN n := by
  by_cases hl : xs.length = ys.length
  · rcases hv with rfl | ⟨b, off, rfl, _, hs⟩
    · obtain rfl : ys = [] := List.eq_nil_of_length_eq_zero (by simpa using hl.symm)
      refine (likeS_nil ao ao' cap cap' w).mono ?_
      rintro e w' ⟨rfl, rfl⟩
      exact ⟨rfl, 0, rfl⟩
    · rcases hv' with rfl | ⟨b', off', rfl, _, hs'⟩
      · obtain rfl : xs = [] := List.eq_nil_of_length_eq_zero (by simpa using hl)
        refine (likeS_nil _ ao' cap cap' w).mono ?_
        rintro e w' ⟨rfl, rfl⟩
        exact ⟨rfl, 0, rfl⟩
      · exact likeS_seg b off cap b' off' cap' xs ys w hs hs' hn hl
  · refine (likeS_ne ao ao' xs.length ys.length cap cap' w hl).mono ?_
    rintro e w' ⟨rfl, rfl⟩
    exact ⟨ret_bool (Eq.symm (decide_eq_false (fun h => hl (by rw [h])))), 0, rfl⟩

end Go.Proofs.YtfbhohpbhjlihaaGreat
