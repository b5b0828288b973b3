/-
  A grid that came in, as the frame tells of it; a row of numbers with what its type says of each.
-/
import Derived.Test.YtodielfilhodeaaMArgsZz
import Derived.Test.YtodielfilhodeaaGMapZz
namespace Go.Proofs.Ytodielfilhodeaa
open Go Go.RowKit Go.Deep

theorem row_view2 {H : Type} {enc : TypeId × Value → H} {W : World} {n : Nat} {a : Option Addr} {len cap : Nat} {x : DataW H × List MemPlace} (h : DataW.trod enc Try.prog W 0 (fun _ => true) true n 24 [.slice a len cap] = some x) :
    ∃ xs : List Int, len = xs.length ∧ View W a xs ∧ xs.length ≤ maxLen ∧ I64s xs := by
  obtain ⟨xs, hl, hv, hm⟩ := row_view1 h
  refine ⟨xs, hl, hv, hm, fun i => ?_⟩
  rcases Nat.lt_or_ge i xs.length with hi | hi
  · rcases Go.ChangeShapes.open_ints Try.underlying24 Try.underlying2 (by kernel_rfl) h with ⟨hcs, _⟩ | ⟨a', l, c, zs, hcs, _, hle, hmm, hz, _, hcell, hwz⟩
    · simp at hcs
      omega
    · simp at hcs
      obtain ⟨rfl, rfl, rfl⟩ := hcs
      rcases hv with h0 | ⟨b, off, e, hb, hs⟩
      · rw [h0] at hi; simp at hi
      · injection e with e
        subst e
        have c1 := hs i hi
        have c2 := hcell i (by simp at hz; omega)
        rw [Go.WideShapes.add_plain] at c2
        rw [c1] at c2
        have e2 : nth xs i = zs.getD i 0 := by injection c2 with c2; injection c2
        rw [e2]
        have hzi : i < zs.length := by simp at hz; omega
        have : zs.getD i 0 = zs[i] := by simp [List.getD, hzi]
        rw [this]
        exact hwz _ (List.getElem_mem hzi)
  · have : nth xs i = 0 := by simp [nth, List.getD, hi]
    rw [this]; decide
set_option maxRecDepth 100000 in
theorem okWide_grid {W : World} {base : Nat} {v : Value} (h : Value.okWide Try.prog W .any base 67 v) : ∃ cs : Array Value, v = .agg cs ∧ cs.size = 2 := by
  unfold Value.okWide at h
  rw [Try.underlying67] at h
  obtain ⟨cs, rfl, hs, _⟩ := h
  exact ⟨cs, rfl, hs.trans (by kernel_rfl)⟩
theorem grid_view {H : Type} {enc : TypeId × Value → H} {W : World} {n : Nat} {cs : Array Value} {x : DataW H × List MemPlace} (hs : cs.size = 2) (h : DataW.trod enc Try.prog W 0 (fun _ => true) true n 67 cs.toList = some x) :
    ∃ (s : Int) (ms : List Mk) (a : Option Addr) (c : Nat), cs = #[.int .i64 s, .slice a ms.length c] ∧ MView W a ms ∧ ms.length ≤ maxLen ∧ ∀ i, (mat ms i).length ≤ maxLen := by
  obtain ⟨u, v, rfl⟩ : ∃ u v, cs = #[u, v] := by
    rcases cs with ⟨l⟩
    match l, hs with
    | [u, v], _ => exact ⟨u, v, rfl⟩
  obtain ⟨y0, y1, m, _, hl, t0, t1⟩ := Go.ChangeShapes.trod_struct2 Try.underlying67 h
  have e0 : Try.prog.cellsOf 2 = 1 := by kernel_rfl
  have e1 : Try.prog.cellsOf 65 = 1 := by kernel_rfl
  simp only [e0, e1] at t0 t1
  obtain ⟨z, hz, _, _⟩ := DataW.trod_int Try.underlying2 (by simpa using t0)
  simp at hz
  have t2 : DataW.trod enc Try.prog W 0 (fun _ => true) true m 65 [v] = some y1 := by simpa using t1
  obtain ⟨a, len, cap, rfl⟩ : ∃ a len cap, v = .slice a len cap := by
    rcases open_slice_pairs Try.underlying65 Try.underlying126 (by kernel_rfl) (by kernel_rfl) (by kernel_rfl) (by kernel_rfl) (by kernel_rfl) t2 with ⟨hcs, _⟩ | ⟨A, l, c, m, k, V0, V1, D0, D1, P0, P1, hcs, _⟩
    · simp at hcs; exact ⟨_, _, _, hcs⟩
    · simp at hcs; exact ⟨_, _, _, hcs⟩
  obtain ⟨ms, rfl, hv, hn, hat⟩ := marks_view t2
  exact ⟨z, ms, a, cap, by rw [hz], hv, hn, hat⟩

end Go.Proofs.Ytodielfilhodeaa
