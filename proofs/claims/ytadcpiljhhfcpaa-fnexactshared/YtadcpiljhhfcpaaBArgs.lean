/-
  A box that came in, as the frame tells of it, read as two lists.
-/
import Derived.Test.YtadcpiljhhfcpaaMArgs
import Derived.Test.YtadcpiljhhfcpaaBoxes
namespace Go.Proofs.Ytadcpiljhhfcpaa
open Go Go.RowKit Go.Deep

theorem okWide_two {W : World} {base : Nat} {v : Value} (h : Value.okWide Try.prog W .any base 24 v) : ∃ cs : Array Value, v = .agg cs ∧ cs.size = 2 := by
  unfold Value.okWide at h
  rw [Try.underlying24] at h
  obtain ⟨cs, rfl, hs, _⟩ := h
  exact ⟨cs, rfl, hs.trans (by kernel_rfl)⟩
theorem box_view {H : Type} {enc : TypeId × Value → H} {W : World} {n : Nat} {cs : Array Value} {x : DataW H × List MemPlace} (hs : cs.size = 2) (h : DataW.trod enc Try.prog W 0 (fun _ => true) true n 24 cs.toList = some x) :
    ∃ (lo hi : List Int) (a1 : Option Addr) (c1 : Nat) (a2 : Option Addr) (c2 : Nat), cs = #[.slice a1 lo.length c1, .slice a2 hi.length c2] ∧ View W a1 lo ∧ View W a2 hi ∧ lo.length ≤ maxLen ∧ hi.length ≤ maxLen := by
  obtain ⟨u, v, rfl⟩ : ∃ u v, cs = #[u, v] := by
    rcases cs with ⟨l⟩
    match l, hs with
    | [u, v], _ => exact ⟨u, v, rfl⟩
  obtain ⟨y0, y1, m, _, hl, t0, t1⟩ := Go.ChangeShapes.trod_struct2 Try.underlying24 h
  have e0 : Try.prog.cellsOf 22 = 1 := by kernel_rfl
  simp only [e0] at t0 t1
  obtain ⟨lo, a1, c1, hu, v1, m1⟩ := row_view (v := u) (by simpa using t0)
  obtain ⟨hi, a2, c2, hv, v2, m2⟩ := row_view (v := v) (by simpa using t1)
  exact ⟨lo, hi, a1, c1, a2, c2, by rw [hu, hv], v1, v2, m1, m2⟩

end Go.Proofs.Ytadcpiljhhfcpaa
