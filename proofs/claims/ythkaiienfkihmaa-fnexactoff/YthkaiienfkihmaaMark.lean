/-
  The program's own Moved; the laws' helpers that write numbers into a row and look for them again.
-/
import Derived.Test.YthkaiienfkihmaaMovedS
namespace Go.Proofs.Ythkaiienfkihmaa
open Go Go.RowKit

theorem moved_short (a b : List Int) : (movedL a b).length ≤ 4 := by
  unfold movedL
  split
  · rename_i h
    have := (okB_len (twoB_of h).1).2
    split
    · rw [tabL_length]; exact this
    · simp
  · simp

/-- A slice of the call's own, from block base on (an empty one may be nil). -/
def OwnV (base : Nat) (w : World) (ao : Option Addr) (xs : List Int) : Prop := xs = [] ∨ ∃ b, ao = some ⟨b, 0, none⟩ ∧ base ≤ b ∧ Own w b xs
theorem OwnV.view {base : Nat} {w : World} {ao : Option Addr} {xs : List Int} (h : OwnV base w ao xs) : View w ao xs := by
  rcases h with h | ⟨b, rfl, _, h⟩
  · exact Or.inl h
  · exact h.view
theorem OwnV.below {base B : Nat} {w w' : World} {ao : Option Addr} {xs : List Int} (h : OwnV base w ao xs) (hB : w.heap.size ≤ B) (hw : Below B w w') : OwnV base w' ao xs := by
  rcases h with h | ⟨b, e, hb, h⟩
  · exact Or.inl h
  · exact Or.inr ⟨b, e, hb, h.below (Nat.lt_of_lt_of_le h.lt hB) hw⟩

theorem Own.set {w : World} {b : Nat} {xs : List Int} (h : Own w b xs) (k : Nat) (v : Int) : Own (w.setCell ⟨b, k, none⟩ (.int .i64 v)) b (xs.set k v) := by
  unfold Own at h ⊢
  simp only [World.setCell, Array.getElem?_modify, h]
  simp [rowC, List.map_set]
theorem Own.grown {w w' : World} {b c : Nat} {xs : List Int} (h : Own w b xs) (hg : w.grownBy w' (some c)) (hne : b ≠ c) : Own w' b xs :=
  (hg.block b h.lt (by simp; omega)).trans h
theorem grown_set {w w' : World} {b k : Nat} {v : Value} (hg : w.grownBy w' (some b)) : w.grownBy (w'.setCell ⟨b, k, none⟩ v) (some b) :=
  ⟨hg.os, hg.tape, hg.output, by simpa [World.setCell] using hg.size, fun q hq hne => by
    rw [Below.heap_setCell _ _ _ _ (by intro e; exact hne (by rw [e]))]; exact hg.block q hq hne⟩
theorem OwnV.grown {base c : Nat} {w w' : World} {ao : Option Addr} {xs : List Int} (h : OwnV base w ao xs) (hg : w.grownBy w' (some c)) (hc : c < base) : OwnV base w' ao xs := by
  rcases h with h | ⟨b, e, hb, h⟩
  · exact Or.inl h
  · exact Or.inr ⟨b, e, hb, h.grown hg (by omega)⟩
theorem Own.frozen {w : World} {b : Nat} {xs : List Int} (h : Own w b xs) (i : Nat) : w.frozen? ⟨b, i, none⟩ = false := by
  unfold Own at h; simp [World.frozen?, h]

/-- The row while it is being marked: the first k places hold k0, k0 + 1, .. -/
def marked (k0 : Int) (xs : List Int) (k : Nat) : List Int := tabL (fun i => k0 + i) k ++ xs.drop k
theorem marked_length (k0 : Int) (xs : List Int) (k : Nat) (h : k ≤ xs.length) : (marked k0 xs k).length = xs.length := by simp [marked, tabL_length]; omega
theorem marked_set (k0 : Int) (xs : List Int) (k : Nat) (h : k < xs.length) : (marked k0 xs k).set k (k0 + k) = marked k0 xs (k + 1) := by
  unfold marked
  rw [List.set_append_right _ _ (by rw [tabL_length]; exact Nat.le_refl _), tabL_length, Nat.sub_self, tabL_succ, List.append_assoc, List.drop_eq_getElem_cons h]
  rfl
theorem marked_all (k0 : Int) (xs : List Int) : marked k0 xs xs.length = tabL (fun i => k0 + i) xs.length := by simp [marked]

set_option maxHeartbeats 400000 in
theorem mark_own (b : Nat) (k0 : Int) (xs : List Int) (w : World) (ho : Own w b xs) (hn : xs.length ≤ 1048576) (h0 : 1 ≤ k0) (h1 : k0 ≤ 10000000) :
    Calls Try.prog 31 #[.slice (some ⟨b, 0, none⟩) xs.length xs.length, .int .i64 k0] w fun e w' => e = .returned (.int .i64 (k0 + xs.length)) ∧ Own w' b (tabL (fun i => k0 + i) xs.length) ∧ w.grownBy w' (some b) := by
  go_enter Try.func31, Try.ntmps31
  go_wp2
  go_loopw [1, 5] (fun kk i wr => ∃ k : Nat, k ≤ xs.length ∧ i = .int .i64 k ∧ kk = .int .i64 (k0 + k) ∧ Own wr b (marked k0 xs k) ∧ w.grownBy wr (some b)) (fun _ i _ => xs.length - (intOf i).toNat)
  case atStart => exact ⟨0, Nat.zero_le _, rfl, by simp, by simpa [marked, tabL] using ho, ⟨rfl, rfl, rfl, Nat.le_refl _, fun _ _ _ => rfl⟩⟩
  case round =>
    obtain ⟨k, hk, rfl, rfl, hown, hg⟩ := hrel
    by_cases hlt : k < xs.length
    · have hc := hown.seg.at k (by rw [marked_length _ _ _ hk]; exact hlt)
      have hf := hown.frozen k
      have R1 := hown.set k (k0 + k)
      rw [marked_set k0 xs k hlt] at R1
      have R2 := grown_set (k := k) (v := .int .i64 (k0 + k)) hg
      have HR := hideP (And.intro R1 R2)
      clear R1 R2 hown hg
      go_wp2
      go_roundw
      case rel => exact ⟨k + 1, by omega, by go_num, by go_num, HR.out.1, HR.out.2⟩
      case measure => simp [intOf]; omega
    · go_wp2
      go_ret
      obtain rfl : k = xs.length := by omega
      exact ⟨rfl, by rw [← marked_all]; exact hown, hg⟩

set_option maxHeartbeats 400000 in
theorem mark_nil (ao : Option Addr) (cap : Nat) (k0 : Int) (w : World) :
    Calls Try.prog 31 #[.slice ao 0 cap, .int .i64 k0] w fun e w' => e = .returned (.int .i64 k0) ∧ w' = w := by
  go_enter Try.func31, Try.ntmps31
  go_wp2
  refine wp_loop_rounds 1 ?_
  rw [rounds_succ]
  go_wp2
  go_ret
  exact ⟨rfl, rfl⟩

set_option maxHeartbeats 400000 in
theorem held_nil (ao : Option Addr) (cap : Nat) (k0 : Int) (w : World) :
    Calls Try.prog 33 #[.slice ao 0 cap, .int .i64 k0] w fun e w' => e = .returned (.int .i64 k0) ∧ w' = w := by
  go_enter Try.func33, Try.ntmps33
  go_wp2
  refine wp_loop_rounds 1 ?_
  rw [rounds_succ]
  go_wp2
  go_ret
  exact ⟨rfl, rfl⟩

set_option maxHeartbeats 400000 in
theorem held_own (b n : Nat) (k0 : Int) (w : World) (ho : Own w b (tabL (fun i => k0 + i) n)) (hn : n ≤ 1048576) (h0 : 1 ≤ k0) (h1 : k0 ≤ 10000000) :
    Calls Try.prog 33 #[.slice (some ⟨b, 0, none⟩) n n, .int .i64 k0] w fun e w' => e = .returned (.int .i64 (k0 + n)) ∧ w' = w := by
  go_enter Try.func33, Try.ntmps33
  go_wp2
  go_loop [1, 5] (fun kk i => ∃ k : Nat, k ≤ n ∧ i = .int .i64 k ∧ kk = .int .i64 (k0 + k)) (fun _ i => n - (intOf i).toNat)
  case atStart => exact ⟨0, Nat.zero_le _, rfl, by simp⟩
  case round =>
    obtain ⟨k, hk, rfl, rfl⟩ := hrel
    by_cases hlt : k < n
    · have hc := ho.seg.at k (by rw [tabL_length]; exact hlt)
      rw [tabL_getD _ _ _ hlt] at hc
      have hne : ((k0 + (k : Int)) != (k0 + (k : Int))) = false := by simp
      go_wp2
      go_round
      case rel => exact ⟨k + 1, by omega, by go_num, by go_num⟩
      case measure => simp [intOf]; omega
    · go_wp2
      go_ret
      obtain rfl : k = n := by omega
      exact ⟨rfl, rfl⟩

theorem markV (base : Nat) (ao : Option Addr) (k0 : Int) (xs : List Int) (w : World) (ho : OwnV base w ao xs) (hB : base ≤ w.heap.size) (hn : xs.length ≤ 1048576) (h0 : 1 ≤ k0) (h1 : k0 ≤ 10000000) :
    Calls Try.prog 31 #[.slice ao xs.length xs.length, .int .i64 k0] w fun e w' => e = .returned (.int .i64 (k0 + xs.length)) ∧ OwnV base w' ao (tabL (fun i => k0 + i) xs.length) ∧ Below base w w' := by
  rcases ho with rfl | ⟨b, rfl, hb, ho⟩
  · refine (mark_nil ao 0 k0 w).mono ?_
    rintro e w' ⟨rfl, rfl⟩
    exact ⟨ret_int (by simp), Or.inl rfl, Below.refl _ _⟩
  · refine (mark_own b k0 xs w ho hn h0 h1).mono ?_
    rintro e w' ⟨rfl, o, g⟩
    exact ⟨rfl, Or.inr ⟨b, rfl, hb, o⟩, (Below.refl _ _).grown g hB (fun k hk => by cases hk; exact hb)⟩

theorem heldV (base n : Nat) (ao : Option Addr) (k0 : Int) (w : World) (ho : OwnV base w ao (tabL (fun i => k0 + i) n)) (hn : n ≤ 1048576) (h0 : 1 ≤ k0) (h1 : k0 ≤ 10000000) :
    Calls Try.prog 33 #[.slice ao n n, .int .i64 k0] w fun e w' => e = .returned (.int .i64 (k0 + n)) ∧ w' = w := by
  rcases ho with h | ⟨b, rfl, hb, ho⟩
  · have : n = 0 := by have := congrArg List.length h; simpa [tabL_length] using this
    subst this
    refine (held_nil ao 0 k0 w).mono ?_
    rintro e w' ⟨rfl, rfl⟩
    exact ⟨ret_int (by simp), rfl⟩
  · exact held_own b n k0 w ho hn h0 h1

end Go.Proofs.Ythkaiienfkihmaa
