/-
  What an answer of hits goes through in the laws: it is kept, it is written over, it is held.
-/
import Derived.Test.YtodielfilhodeaaHMAZz
import Derived.Test.YtodielfilhodeaaHMarkZz
namespace Go.Proofs.Ytodielfilhodeaa
open Go Go.RowKit

theorem HOut.below {base : Nat} {w w' : World} {v : Value} {hs : List Ht} (h : HOut base w v hs) (hb : Below w.heap.size w w') : HOut base w' v hs :=
  h.imp id fun ⟨g, c, e, hr⟩ => ⟨g, c, e, hr.below (Nat.le_refl _) hb⟩
theorem HOut.kept {base q : Nat} {w w' : World} {v : Value} {hs : List Ht} (h : HOut base w v hs) (hg : w.grownBy w' (some q)) (hq : q < base) : HOut base w' v hs :=
  h.imp id fun ⟨g, c, e, hr⟩ => ⟨g, c, e, hr.kept hg (fun e => by injection e with e; have := hr.lt.1; omega)⟩
theorem markHS0 (k0 : Int) (w : World) :
    Calls Try.prog 53 #[.slice none 0 0, .int .i64 k0] w fun e w' => e = .returned (.int .i64 k0) ∧ w' = w := by
  go_enter Try.func53, Try.ntmps53
  go_wp2
  go_loop [1, 5] (fun kk i => i = .int .i64 0 ∧ kk = .int .i64 k0) (fun _ _ => 0)
  case atStart => exact ⟨rfl, rfl⟩
  case round =>
    obtain ⟨rfl, rfl⟩ := hrel
    go_wp2
    go_ret
    exact ⟨rfl, rfl⟩
theorem markOut (base c : Nat) (ao : Option Addr) (hs : List Ht) (w : World) (h : HOut base w (.slice ao hs.length c) hs) (hn : hs.length ≤ 4194304) :
    Calls Try.prog 53 #[.slice ao hs.length c, .int .i64 1] w fun e w' => e = .returned (.int .i64 (1 + 2 * (hs.length : Int))) ∧ HView w' ao (seqH 1 hs.length) ∧ ∃ r, w.grownBy w' r ∧ ∀ g, r = some g → base ≤ g := by
  rcases h with ⟨e, rfl⟩ | ⟨g, c', e, hr⟩
  · injection e with e1 e2 e3
    subst e1 e3
    refine (markHS0 1 w).mono ?_
    rintro e w' ⟨rfl, rfl⟩
    exact ⟨rfl, Or.inl rfl, none, grown_refl _ _, fun g hg => by cases hg⟩
  · injection e with e1 e2 e3
    subst e1 e3
    refine (markHS base g c 1 hs w hr hn (by omega) (by omega)).mono ?_
    rintro e w' ⟨rfl, hr', hg⟩
    exact ⟨rfl, hr'.view, some g, hg, fun q hq => by cases hq; exact hr.lt.1⟩
theorem merged_len (aa bb : List Ht) (k : Int) : (mergedL aa bb k).length ≤ 60 := by
  unfold mergedL
  split
  · rename_i h; simp [countB] at h; simp; omega
  · simp
theorem near_len (ms : List Mk) (q : List Int) (k : Int) : (nearL ms q k).length ≤ 60 := by
  unfold nearL
  split
  · rename_i h; simp [countB] at h; simp; omega
  · simp
theorem within_len (ms : List Mk) (q : List Int) (most : Int) : (withinL ms q most).length ≤ ms.length := by
  unfold withinL
  split
  · refine Nat.le_trans (List.length_filter_le _ _) ?_
    rw [sortL_length, hitsL_length]; exact Nat.le_refl _
  · simp
theorem below_far {w w1 w2 : World} {r : Option Nat} (h : Below w.heap.size w w1) (hg : w1.grownBy w2 r) (hr : ∀ g, r = some g → w.heap.size ≤ g) : Below w.heap.size w w2 := h.grown hg h.size hr

end Go.Proofs.Ytodielfilhodeaa
