/-
  A slice of marks that came in, as the frame tells of it, read as a list of marks.
  A grid that came in, as the frame tells of it; a row of numbers with what its type says of each.
-/
import Derived.Test.YtodielfilhodeaaGreatArgsZz
import Derived.Test.YtodielfilhodeaaGreatMCopyZz
import Derived.Deep.SlicePairs
import Derived.Test.YtodielfilhodeaaGreatGMapZz
namespace Go.Proofs.YtodielfilhodeaaGreat
open Go Go.RowKit Go.Deep

theorem row_view {H : Type} {enc : TypeId × Value → H} {W : World} {n : Nat} {v : Value} {x : DataW H × List MemPlace} (h : DataW.trod enc Tryz.prog W 0 (fun _ => true) true n 28 [v] = some x) :
    ∃ (xs : List Int) (ao : Option Addr) (cap : Nat), v = .slice ao xs.length cap ∧ View W ao xs ∧ xs.length ≤ maxLen := by
  rcases Go.ChangeShapes.open_ints Tryz.underlying28 Tryz.underlying2 (by kernel_rfl) h with ⟨hcs, _⟩ | ⟨a, l, c, zs, hcs, _, hl, hm, hz, _, hcell, hwz⟩
  · simp at hcs
    exact ⟨[], none, 0, hcs, Or.inl rfl, Nat.zero_le _⟩
  · simp at hcs
    have hr : IsRow .i64 W (some a) l c zs := .inr ⟨_, rfl, hl, hm, by simpa using hz, hcell, hwz⟩
    obtain ⟨xs, rfl, hv, hx⟩ := hr.view
    exact ⟨xs, some a, c, hcs, hv, hx⟩

theorem row_view1 {H : Type} {enc : TypeId × Value → H} {W : World} {n : Nat} {a : Option Addr} {len cap : Nat} {x : DataW H × List MemPlace} (h : DataW.trod enc Tryz.prog W 0 (fun _ => true) true n 28 [.slice a len cap] = some x) :
    ∃ xs : List Int, len = xs.length ∧ View W a xs ∧ xs.length ≤ maxLen := by
  obtain ⟨xs, ao, c, hv, h1, h2⟩ := row_view h
  injection hv with e1 e2 e3
  subst e1 e2 e3
  exact ⟨xs, rfl, h1, h2⟩

end Go.Proofs.YtodielfilhodeaaGreat
namespace Go.Proofs.YtodielfilhodeaaGreat
open Go Go.RowKit Go.Deep

theorem row_view2 {H : Type} {enc : TypeId × Value → H} {W : World} {n : Nat} {a : Option Addr} {len cap : Nat} {x : DataW H × List MemPlace} (h : DataW.trod enc Tryz.prog W 0 (fun _ => true) true n 28 [.slice a len cap] = some x) :
    ∃ xs : List Int, len = xs.length ∧ View W a xs ∧ xs.length ≤ maxLen ∧ I64s xs := by
  obtain ⟨xs, hl, hv, hm⟩ := row_view1 h
  refine ⟨xs, hl, hv, hm, fun i => ?_⟩
  rcases Nat.lt_or_ge i xs.length with hi | hi
  · rcases Go.ChangeShapes.open_ints Tryz.underlying28 Tryz.underlying2 (by kernel_rfl) h with ⟨hcs, _⟩ | ⟨a', l, c, zs, hcs, _, hle, hmm, hz, _, hcell, hwz⟩
    · simp at hcs
      omega
    · simp at hcs
      obtain ⟨rfl, rfl, rfl⟩ := hcs
      rcases hv with h0 | ⟨b, off, e, hb, hs⟩
      · rw [h0] at hi; simp at hi
      · injection e with e
        subst e
        have c1 := hs i hi
        have c2 := hcell i (by simp at hz; omega)
        rw [Go.WideShapes.add_plain] at c2
        rw [c1] at c2
        have e2 : nth xs i = zs.getD i 0 := by injection c2 with c2; injection c2
        rw [e2]
        have hzi : i < zs.length := by simp at hz; omega
        have : zs.getD i 0 = zs[i] := by simp [List.getD, hzi]
        rw [this]
        exact hwz _ (List.getElem_mem hzi)
  · have : nth xs i = 0 := by simp [nth, List.getD, hi]
    rw [this]; decide
end Go.Proofs.YtodielfilhodeaaGreat
