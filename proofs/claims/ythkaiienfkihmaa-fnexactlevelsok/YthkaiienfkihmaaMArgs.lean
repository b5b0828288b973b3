/-
  A slice of marks that came in, as the frame tells of it, read as a list of marks.
-/
import Derived.Test.YthkaiienfkihmaaArgs
import Derived.Test.YthkaiienfkihmaaMOk3
import Derived.Deep.SlicePairs
namespace Go.Proofs.Ythkaiienfkihmaa
open Go Go.RowKit Go.Deep

theorem row_view {H : Type} {enc : TypeId × Value → H} {W : World} {n : Nat} {v : Value} {x : DataW H × List MemPlace} (h : DataW.trod enc Try.prog W 0 (fun _ => true) true n 24 [v] = some x) :
    ∃ (xs : List Int) (ao : Option Addr) (cap : Nat), v = .slice ao xs.length cap ∧ View W ao xs ∧ xs.length ≤ maxLen := by
  rcases Go.ChangeShapes.open_ints Try.underlying24 Try.underlying2 (by kernel_rfl) h with ⟨hcs, _⟩ | ⟨a, l, c, zs, hcs, _, hl, hm, hz, _, hcell, hwz⟩
  · simp at hcs
    exact ⟨[], none, 0, hcs, Or.inl rfl, Nat.zero_le _⟩
  · simp at hcs
    have hr : IsRow .i64 W (some a) l c zs := .inr ⟨_, rfl, hl, hm, by simpa using hz, hcell, hwz⟩
    obtain ⟨xs, rfl, hv, hx⟩ := hr.view
    exact ⟨xs, some a, c, hcs, hv, hx⟩

theorem row_view1 {H : Type} {enc : TypeId × Value → H} {W : World} {n : Nat} {a : Option Addr} {len cap : Nat} {x : DataW H × List MemPlace} (h : DataW.trod enc Try.prog W 0 (fun _ => true) true n 24 [.slice a len cap] = some x) :
    ∃ xs : List Int, len = xs.length ∧ View W a xs ∧ xs.length ≤ maxLen := by
  obtain ⟨xs, ao, c, hv, h1, h2⟩ := row_view h
  injection hv with e1 e2 e3
  subst e1 e2 e3
  exact ⟨xs, rfl, h1, h2⟩

end Go.Proofs.Ythkaiienfkihmaa
