/-
  A slice of marks that came in, as the frame tells of it, read as a list of marks.
-/
import Derived.Test.YtaaagmgglolibaaGreatArgsZz
import Derived.Test.YtaaagmgglolibaaGreatMCopyZz
import Derived.Deep.SlicePairs
namespace Go.Proofs.YtaaagmgglolibaaGreat
open Go Go.RowKit Go.Deep

theorem row_view {H : Type} {enc : TypeId × Value → H} {W : World} {n : Nat} {v : Value} {x : DataW H × List MemPlace} (h : DataW.trod enc Tryz.prog W 0 (fun _ => true) true n 27 [v] = some x) :
    ∃ (xs : List Int) (ao : Option Addr) (cap : Nat), v = .slice ao xs.length cap ∧ View W ao xs ∧ xs.length ≤ maxLen := by
  rcases Go.ChangeShapes.open_ints Tryz.underlying27 Tryz.underlying2 (by kernel_rfl) h with ⟨hcs, _⟩ | ⟨a, l, c, zs, hcs, _, hl, hm, hz, _, hcell, hwz⟩
  · simp at hcs
    exact ⟨[], none, 0, hcs, Or.inl rfl, Nat.zero_le _⟩
  · simp at hcs
    have hr : IsRow .i64 W (some a) l c zs := .inr ⟨_, rfl, hl, hm, by simpa using hz, hcell, hwz⟩
    obtain ⟨xs, rfl, hv, hx⟩ := hr.view
    exact ⟨xs, some a, c, hcs, hv, hx⟩

theorem row_view1 {H : Type} {enc : TypeId × Value → H} {W : World} {n : Nat} {a : Option Addr} {len cap : Nat} {x : DataW H × List MemPlace} (h : DataW.trod enc Tryz.prog W 0 (fun _ => true) true n 27 [.slice a len cap] = some x) :
    ∃ xs : List Int, len = xs.length ∧ View W a xs ∧ xs.length ≤ maxLen := by
  obtain ⟨xs, ao, c, hv, h1, h2⟩ := row_view h
  injection hv with e1 e2 e3
  subst e1 e2 e3
  exact ⟨xs, rfl, h1, h2⟩

theorem marks_view {H : Type} {enc : TypeId × Value → H} {W : World} {n : Nat} {a : Option Addr} {len cap : Nat} {x : DataW H × List MemPlace} (h : DataW.trod enc Tryz.prog W 0 (fun _ => true) true n 102 [.slice a len cap] = some x) :
    ∃ ms : List Mk, len = ms.length ∧ MView W a ms ∧ ms.length ≤ maxLen ∧ ∀ i, (mat ms i).length ≤ maxLen := by
  rcases open_slice_pairs Tryz.underlying102 Tryz.underlying93 (by kernel_rfl) (by kernel_rfl) (by kernel_rfl) (by kernel_rfl) (by kernel_rfl) h with ⟨hcs, _⟩ | ⟨A, l, c, m, k, V0, V1, D0, D1, P0, P1, hcs, _, hl, hm, hmm, _, hall⟩
  · simp at hcs
    obtain ⟨rfl, rfl, rfl⟩ := hcs
    exact ⟨[], rfl, Or.inl rfl, Nat.zero_le _, fun i => by simp [mat]⟩
  · simp at hcs
    obtain ⟨rfl, rfl, rfl⟩ := hcs
    simp at hmm
    subst hmm
    have each : ∀ i, i < len → ∃ q : Mk, W.cell? (A.add (i * 2)) = some (.int .i64 q.1) ∧ (∃ ao ca, W.cell? (A.add (i * 2 + 1)) = some (.slice ao q.2.length ca) ∧ View W ao q.2) ∧ q.2.length ≤ maxLen := by
      intro i hi
      obtain ⟨e0, e1, t0, t1⟩ := hall i (by omega)
      obtain ⟨z, hz, _, _⟩ := DataW.trod_int Tryz.underlying2 t0
      simp at hz
      obtain ⟨xs, ao, ca, hv1, hv, hx⟩ := row_view t1
      exact ⟨(z, xs), by rw [e0, hz], ⟨ao, ca, by rw [e1, hv1], hv⟩, hx⟩
    obtain ⟨q, hq⟩ := choose_lt each
    have hml : ((List.range len).map q).length = len := by simp
    have hnth : ∀ i, i < len → mnth ((List.range len).map q) i = q i := fun i hi => by simp [mnth, List.getD, hi]
    refine ⟨(List.range len).map q, hml.symm, ?_, by rw [hml]; omega, fun i => ?_⟩
    · rcases Nat.eq_zero_or_pos len with h0 | h0
      · subst h0; exact Or.inl (by simp)
      · obtain ⟨b, off, spot⟩ := A
        have hc := (hq 0 h0).1
        have hspot : spot = none := by simpa [Addr.add] using World.cell?_spot hc
        subst hspot
        refine Or.inr ⟨b, off, rfl, by simpa [Addr.add] using cell_lt hc, fun i hi => ?_⟩
        rw [hml] at hi
        rw [hnth i hi]
        obtain ⟨e0, ⟨ao, ca, e1, hv⟩, _⟩ := hq i hi
        rw [Go.WideShapes.add_plain] at e0 e1
        exact ⟨e0, ao, ca, by rw [Nat.add_assoc]; exact e1, hv⟩
    · rcases Nat.lt_or_ge i len with hi | hi
      · rw [← mnth_2, hnth i hi]; exact (hq i hi).2.2
      · simp [mat, List.getD, hi]

end Go.Proofs.YtaaagmgglolibaaGreat
