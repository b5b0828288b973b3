/-
  Hits that are handed out: nothing, or a row of the call's own; what an answer goes through in the exact laws.
-/
import Derived.Test.YtfbhohpbhjlihaaGreatHMarkZz
import Derived.Test.YtfbhohpbhjlihaaGreatMMarkZz
namespace Go.Proofs.YtfbhohpbhjlihaaGreat
open Go Go.RowKit

/-- What is handed out: nothing, or a row of the call's own. -/
def HOut (base : Nat) (w : World) (v : Value) (hs : List Ht) : Prop := (v = .slice none 0 0 ∧ hs = []) ∨ ∃ g c, v = .slice (some ⟨g, 0, none⟩) hs.length c ∧ HRow base w g c hs
theorem HOut.view {base : Nat} {w : World} {v : Value} {hs : List Ht} (h : HOut base w v hs) : ∃ ao c, v = .slice ao hs.length c ∧ HView w ao hs := by
  rcases h with ⟨rfl, rfl⟩ | ⟨g, c, rfl, hr⟩
  · exact ⟨none, 0, rfl, Or.inl rfl⟩
  · exact ⟨_, c, rfl, hr.view⟩
theorem HOut.below {base : Nat} {w w' : World} {v : Value} {hs : List Ht} (h : HOut base w v hs) (hb : Below w.heap.size w w') : HOut base w' v hs :=
  h.imp id fun ⟨g, c, e, hr⟩ => ⟨g, c, e, hr.below (Nat.le_refl _) hb⟩
theorem HOut.kept {base q : Nat} {w w' : World} {v : Value} {hs : List Ht} (h : HOut base w v hs) (hg : w.grownBy w' (some q)) (hq : q < base) : HOut base w' v hs :=
  h.imp id fun ⟨g, c, e, hr⟩ => ⟨g, c, e, hr.kept hg (fun e => by injection e with e; have := hr.lt.1; omega)⟩
theorem markHS0 (k0 : Int) (w : World) :
    Calls Tryz.prog 76 #[.slice none 0 0, .int .i64 k0] w fun e w' => e = .returned (.int .i64 k0) ∧ w' = w := by
  go_enter Tryz.func76, Tryz.ntmps76
  go_wp2
  go_loop [1, 5] (fun kk i => i = .int .i64 0 ∧ kk = .int .i64 k0) (fun _ _ => 0)
  case atStart => exact ⟨rfl, rfl⟩
  case round =>
    obtain ⟨rfl, rfl⟩ := hrel
    go_wp2
    go_ret
    exact ⟨rfl, rfl⟩
theorem markOut (base c : Nat) (ao : Option Addr) (hs : List Ht) (w : World) (h : HOut base w (.slice ao hs.length c) hs) (hn : hs.length ≤ 4194304) :
    Calls Tryz.prog 76 #[.slice ao hs.length c, .int .i64 1] w fun e w' => e = .returned (.int .i64 (1 + 2 * (hs.length : Int))) ∧ HView w' ao (seqH 1 hs.length) ∧ ∃ r, w.grownBy w' r ∧ ∀ g, r = some g → base ≤ g := by
  rcases h with ⟨e, rfl⟩ | ⟨g, c', e, hr⟩
  · injection e with e1 e2 e3
    subst e1 e3
    refine (markHS0 1 w).mono ?_
    rintro e w' ⟨rfl, rfl⟩
    exact ⟨rfl, Or.inl rfl, none, grown_refl _ _, fun g hg => by cases hg⟩
  · injection e with e1 e2 e3
    subst e1 e3
    refine (markHS base g c 1 hs w hr hn (by omega) (by omega)).mono ?_
    rintro e w' ⟨rfl, hr', hg⟩
    exact ⟨rfl, hr'.view, some g, hg, fun q hq => by cases hq; exact hr.lt.1⟩
theorem below_far {w w1 w2 : World} {r : Option Nat} (h : Below w.heap.size w w1) (hg : w1.grownBy w2 r) (hr : ∀ g, r = some g → w.heap.size ≤ g) : Below w.heap.size w w2 := h.grown hg h.size hr

theorem GIn.row {lo hi base : Nat} {w w' : World} {g c : Nat} {hs : List Ht} (h : GIn lo hi w w') (hr : HRow base w g c hs) (hg : g < lo ∨ hi ≤ g) : HRow base w' g c hs := by
  have hl := hr.lt.2
  have hb := h.2.2.2.2 g hl hg
  obtain ⟨h1, h2 | ⟨g', c', cur, e, h3, h4, h5⟩⟩ := hr
  · exact ⟨h1, Or.inl h2⟩
  · refine ⟨h1, Or.inr ⟨g', c', cur, e, h3, ?_, h5⟩⟩
    injection e with e1 e2 e3
    have : g' = g := by simp at e1; omega
    subst this
    rw [hb]; exact h4

theorem GIn.out {lo hi base : Nat} {w w' : World} {v : Value} {hs : List Ht} (h : GIn lo hi w w') (ho : HOut base w v hs) (hb : hi ≤ base) : HOut base w' v hs :=
  ho.imp id fun ⟨g, c, e, hr⟩ => ⟨g, c, e, h.row hr (Or.inr (Nat.le_trans hb hr.lt.1))⟩
theorem HOut.slice {base c : Nat} {w : World} {ao : Option Addr} {hs : List Ht} {n : Nat} (h : HOut base w (.slice ao n c) hs) : HView w ao hs := by
  obtain ⟨a', c', e', h'⟩ := h.view
  injection e' with e1 e2 e3
  rw [e1]; exact h'

end Go.Proofs.YtfbhohpbhjlihaaGreat
