/-
  A slice of sessions that came in, as the frame tells of it, read as a list of sessions.
-/
import Derived.Test.YtbmljcpeonopmaaMArgsZz
import Derived.Test.YtbmljcpeonopmaaAppendZz
namespace Go.Proofs.Ytbmljcpeonopmaa
open Go Go.RowKit Go.Deep Go.ChangeShapes Go.WideShapes

section
variable {H : Type} {enc : TypeId × Value → H} {P : Program} {w : World} {base : Nat} {spare : Nat → Bool} {held : Bool}
/-- A slice of structs of three fields of one cell each. -/
theorem open_slice_threeS7 {t e : TypeId} {f0 f1 f2 : Field} {fuel : Nat} {cs : List Value} {x : DataW H × List MemPlace} (ht : P.underlying t = some (.slice e)) (he : P.underlying e = some (.struct #[f0, f1, f2]))
    (ce : P.cellsOf e = 3) (o0 : f0.offset = 0) (o1 : f1.offset = 1) (o2 : f2.offset = 2) (c0 : P.cellsOf f0.type = 1) (c1 : P.cellsOf f1.type = 1) (c2 : P.cellsOf f2.type = 1)
    (h : DataW.trod enc P w base spare held fuel t cs = some x) :
    cs = [.slice none 0 0] ∨
    ∃ (a : Addr) (len cap m : Nat), cs = [.slice (some a) len cap] ∧ len ≤ cap ∧ cap ≤ maxLen ∧ m = (if spare a.block then cap else len) ∧
      ∀ i, i < m → ∃ (n : Nat) (v0 v1 v2 : Value) (y0 y1 y2 : DataW H × List MemPlace), w.cell? (a.add (i * 3)) = some v0 ∧ w.cell? (a.add (i * 3 + 1)) = some v1 ∧ w.cell? (a.add (i * 3 + 2)) = some v2 ∧
        DataW.trod enc P w base spare held n f0.type [v0] = some y0 ∧ DataW.trod enc P w base spare held n f1.type [v1] = some y1 ∧ DataW.trod enc P w base spare held n f2.type [v2] = some y2 := by
  rcases open_slice ht h with h0 | ⟨a, len, cap, m, n, D, Pl, rfl, hb, hl, hm, hmm, rfl, hx⟩
  · exact Or.inl h0.1
  right
  refine ⟨a, len, cap, m, rfl, hl, hm, hmm, fun i hi => ?_⟩
  obtain ⟨cs', h1, h2⟩ := hx i hi
  rw [ce] at h1
  obtain ⟨_, hlen, hcell⟩ := World.cells?_some h1
  obtain ⟨xs, k, hk, hxy, _, hxl, hf⟩ := DataW.trod_struct he h2
  match xs, hxl, cs', hlen with
  | [y0, y1, y2], _, [v0, v1, v2], _ =>
    have g0 := hf 0 f0 rfl
    have g1 := hf 1 f1 rfl
    have g2 := hf 2 f2 rfl
    simp [o0, o1, o2, c0, c1, c2] at g0 g1 g2
    have e0 := hcell 0 (by omega)
    have e1 := hcell 1 (by omega)
    have e2 := hcell 2 (by omega)
    rw [add_add] at e0 e1 e2
    exact ⟨k, v0, v1, v2, y0, y1, y2, by simpa using e0, by simpa using e1, by simpa using e2, g0, g1, g2⟩
end

theorem threads_viewS7 {H : Type} {enc : TypeId × Value → H} {W : World} {n : Nat} {a : Option Addr} {len cap : Nat} {x : DataW H × List MemPlace} (h : DataW.trod enc Try.prog W 0 (fun _ => true) true n 50 [.slice a len cap] = some x) :
    ∃ ts : List ThS7, len = ts.length ∧ TViewS7 W a ts ∧ ts.length ≤ maxLen := by
  rcases open_slice_threeS7 Try.underlying50 Try.underlying127 (by kernel_rfl) (by kernel_rfl) (by kernel_rfl) (by kernel_rfl) (by kernel_rfl) (by kernel_rfl) (by kernel_rfl) h with hcs | ⟨A, l, c, m, hcs, hl, hm, hmm, hall⟩
  · simp at hcs
    obtain ⟨rfl, rfl, rfl⟩ := hcs
    exact ⟨[], rfl, Or.inl rfl, Nat.zero_le _⟩
  · simp at hcs
    obtain ⟨rfl, rfl, rfl⟩ := hcs
    simp at hmm
    subst hmm
    have each : ∀ i, i < len → ∃ q : ThS7, W.cell? (A.add (i * 3)) = some (.int .i64 q.1) ∧ W.cell? (A.add (i * 3 + 1)) = some (.int .i64 q.2.1) ∧ W.cell? (A.add (i * 3 + 2)) = some (.int .i64 q.2.2) := by
      intro i hi
      obtain ⟨k, v0, v1, v2, y0, y1, y2, e0, e1, e2, t0, t1, t2⟩ := hall i (by omega)
      obtain ⟨z0, hz0, _, _⟩ := DataW.trod_int Try.underlying2 t0
      obtain ⟨z1, hz1, _, _⟩ := DataW.trod_int Try.underlying2 t1
      obtain ⟨z2, hz2, _, _⟩ := DataW.trod_int Try.underlying2 t2
      simp at hz0 hz1 hz2
      exact ⟨(z0, z1, z2), by rw [e0, hz0], by rw [e1, hz1], by rw [e2, hz2]⟩
    obtain ⟨q, hq⟩ := choose_lt each
    have hml : ((List.range len).map q).length = len := by simp
    have hnt : ∀ i, i < len → tnthS7 ((List.range len).map q) i = q i := fun i hi => by simp [tnthS7, List.getD, hi]
    refine ⟨(List.range len).map q, hml.symm, ?_, by rw [hml]; omega⟩
    rcases Nat.eq_zero_or_pos len with h0 | h0
    · subst h0; exact Or.inl (by simp)
    · obtain ⟨b, off, spot⟩ := A
      have hc := (hq 0 h0).1
      have hspot : spot = none := by simpa [Addr.add] using World.cell?_spot hc
      subst hspot
      refine Or.inr ⟨b, off, rfl, by simpa [Addr.add] using cell_lt hc, fun i hi => ?_⟩
      rw [hml] at hi
      rw [hnt i hi]
      obtain ⟨e0, e1, e2⟩ := hq i hi
      rw [Go.WideShapes.add_plain] at e0 e1 e2
      exact ⟨e0, by rw [Nat.add_assoc]; exact e1, by rw [Nat.add_assoc]; exact e2⟩

end Go.Proofs.Ytbmljcpeonopmaa
