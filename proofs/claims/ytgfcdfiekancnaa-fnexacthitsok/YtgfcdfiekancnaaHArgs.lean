/-
  A slice of hits that came in, as the frame tells of it, read as a list of hits.
-/
import Derived.Test.YtgfcdfiekancnaaMArgs
import Derived.Test.YtgfcdfiekancnaaHCells
namespace Go.Proofs.Ytgfcdfiekancnaa
open Go Go.RowKit Go.Deep

def HWf (_hs : List Ht) : Prop := True
theorem hits_view {H : Type} {enc : TypeId × Value → H} {W : World} {n : Nat} {a : Option Addr} {len cap : Nat} {x : DataW H × List MemPlace} (h : DataW.trod enc Try.prog W 0 (fun _ => true) true n 47 [.slice a len cap] = some x) :
    ∃ hs : List Ht, len = hs.length ∧ HView W a hs ∧ hs.length ≤ maxLen ∧ HWf hs := by
  rcases open_slice_pairs Try.underlying47 Try.underlying80 (by kernel_rfl) (by kernel_rfl) (by kernel_rfl) (by kernel_rfl) (by kernel_rfl) h with ⟨hcs, _⟩ | ⟨A, l, c, m, k, V0, V1, D0, D1, P0, P1, hcs, _, hl, hm, hmm, _, hall⟩
  · simp at hcs
    obtain ⟨rfl, rfl, rfl⟩ := hcs
    exact ⟨[], rfl, Or.inl rfl, Nat.zero_le _, trivial⟩
  · simp at hcs
    obtain ⟨rfl, rfl, rfl⟩ := hcs
    simp at hmm
    subst hmm
    have each : ∀ i, i < len → ∃ q : Ht, W.cell? (A.add (i * 2)) = some (.int .i64 q.1) ∧ W.cell? (A.add (i * 2 + 1)) = some (.int .i64 q.2) := by
      intro i hi
      obtain ⟨e0, e1, t0, t1⟩ := hall i (by omega)
      obtain ⟨z, hz, _, _⟩ := DataW.trod_int Try.underlying2 t0
      obtain ⟨y, hy, _, _⟩ := DataW.trod_int Try.underlying2 t1
      simp at hz hy
      exact ⟨(z, y), by rw [e0, hz], by rw [e1, hy]⟩
    obtain ⟨q, hq⟩ := choose_lt each
    have hml : ((List.range len).map q).length = len := by simp
    have hnt : ∀ i, i < len → hnth ((List.range len).map q) i = q i := fun i hi => by simp [hnth, List.getD, hi]
    refine ⟨(List.range len).map q, hml.symm, ?_, by rw [hml]; omega, trivial⟩
    rcases Nat.eq_zero_or_pos len with h0 | h0
    · subst h0; exact Or.inl (by simp)
    · obtain ⟨b, off, spot⟩ := A
      have hc := (hq 0 h0).1
      have hspot : spot = none := by simpa [Addr.add] using World.cell?_spot hc
      subst hspot
      refine Or.inr ⟨b, off, rfl, by simpa [Addr.add] using cell_lt hc, fun i hi => ?_⟩
      rw [hml] at hi
      rw [hnt i hi]
      obtain ⟨e0, e1⟩ := hq i hi
      rw [Go.WideShapes.add_plain] at e0 e1
      exact ⟨e0, by rw [Nat.add_assoc]; exact e1⟩

end Go.Proofs.Ytgfcdfiekancnaa
