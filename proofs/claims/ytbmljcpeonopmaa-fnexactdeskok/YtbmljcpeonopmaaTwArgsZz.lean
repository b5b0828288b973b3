/-
  A tower that came in, as the frame tells of it.
-/
import Derived.Test.YtbmljcpeonopmaaJRwZz
import Derived.Test.YtbmljcpeonopmaaFeHelpZz
namespace Go.Proofs.Ytbmljcpeonopmaa
open Go Go.RowKit Go.Deep

theorem one_marks {H : Type} {enc : TypeId × Value → H} {W : World} {n : Nat} {u : Value} {x : DataW H × List MemPlace} (h : DataW.trod enc Try.prog W 0 (fun _ => true) true n 22 [u] = some x) :
    ∃ (a : Option Addr) (c : Nat) (ms : List Mk), u = .slice a ms.length c ∧ MView W a ms ∧ ms.length ≤ maxLen ∧ ∀ i, (mat ms i).length ≤ maxLen := by
  obtain ⟨a, len, cap, rfl⟩ : ∃ a len cap, u = .slice a len cap := by
    rcases open_slice_pairs Try.underlying22 Try.underlying99 (by kernel_rfl) (by kernel_rfl) (by kernel_rfl) (by kernel_rfl) (by kernel_rfl) h with ⟨hcs, _⟩ | ⟨A, l, c, m, k, V0, V1, D0, D1, P0, P1, hcs, _⟩
    · simp at hcs; exact ⟨_, _, _, hcs⟩
    · simp at hcs; exact ⟨_, _, _, hcs⟩
  obtain ⟨ms, rfl, hv, hn, hat⟩ := marks_view h
  exact ⟨a, cap, ms, rfl, hv, hn, hat⟩
theorem one_rows {H : Type} {enc : TypeId × Value → H} {W : World} {n : Nat} {u : Value} {x : DataW H × List MemPlace} (h : DataW.trod enc Try.prog W 0 (fun _ => true) true n 103 [u] = some x) :
    ∃ (a : Option Addr) (c : Nat) (ls : List (List Int)), u = .slice a ls.length c ∧ CView W a ls ∧ ls.length ≤ maxLen ∧ ∀ i, (cn ls i).length ≤ maxLen := by
  obtain ⟨a, len, cap, rfl⟩ : ∃ a len cap, u = .slice a len cap := by
    rcases open_slice1 Try.underlying103 (by kernel_rfl) h with ⟨hcs, _⟩ | ⟨A, l, c, m, k, V, D, P0, hcs, _⟩
    · simp at hcs; exact ⟨_, _, _, hcs⟩
    · simp at hcs; exact ⟨_, _, _, hcs⟩
  obtain ⟨ls, rfl, hv, hn, hat⟩ := rows_view h
  exact ⟨a, cap, ls, rfl, hv, hn, hat⟩
def WbFit (ts : List Wb) : Prop := ts.length ≤ maxLen ∧ ∀ i, (wnth ts i).1.length ≤ maxLen ∧ (∀ j, (mat (wnth ts i).1 j).length ≤ maxLen) ∧ (wnth ts i).2.length ≤ maxLen ∧ ∀ j, (cn (wnth ts i).2 j).length ≤ maxLen

theorem webs_view {H : Type} {enc : TypeId × Value → H} {W : World} {n : Nat} {a : Option Addr} {len cap : Nat} {x : DataW H × List MemPlace} (h : DataW.trod enc Try.prog W 0 (fun _ => true) true n 23 [.slice a len cap] = some x) :
    ∃ ts : List Wb, len = ts.length ∧ WbView false W a ts ∧ WbFit ts := by
  rcases open_slice_pairs Try.underlying23 Try.underlying134 (by kernel_rfl) (by kernel_rfl) (by kernel_rfl) (by kernel_rfl) (by kernel_rfl) h with ⟨hcs, _⟩ | ⟨A, l, c, m, k, V0, V1, D0, D1, P0, P1, hcs, _, hl, hm, hmm, _, hall⟩
  · simp at hcs
    obtain ⟨rfl, rfl, rfl⟩ := hcs
    exact ⟨[], rfl, Or.inl rfl, Nat.zero_le _, fun i => by simp [wnth, mat, cn]⟩
  · simp at hcs
    obtain ⟨rfl, rfl, rfl⟩ := hcs
    simp at hmm
    subst hmm
    have each : ∀ i, i < len → ∃ q : Wb, (∃ am cm al cl, W.cell? (A.add (i * 2)) = some (.slice am q.1.length cm) ∧ W.cell? (A.add (i * 2 + 1)) = some (.slice al q.2.length cl) ∧ MView W am q.1 ∧ CView W al q.2) ∧ q.1.length ≤ maxLen ∧ (∀ j, (mat q.1 j).length ≤ maxLen) ∧ q.2.length ≤ maxLen ∧ ∀ j, (cn q.2 j).length ≤ maxLen := by
      intro i hi
      obtain ⟨e0, e1, t0, t1⟩ := hall i (by omega)
      obtain ⟨am, cm, ms, h1, h2, h3, h4⟩ := one_marks t0
      obtain ⟨al, cl, ls, g1, g2, g3, g4⟩ := one_rows t1
      exact ⟨(ms, ls), ⟨am, cm, al, cl, by rw [e0, h1], by rw [e1, g1], h2, g2⟩, h3, h4, g3, g4⟩
    obtain ⟨q, hq⟩ := choose_lt each
    have hml : ((List.range len).map q).length = len := by simp
    have hnth : ∀ i, i < len → wnth ((List.range len).map q) i = q i := fun i hi => by simp [wnth, List.getD, hi]
    refine ⟨(List.range len).map q, hml.symm, ?_, by rw [hml]; omega, fun i => ?_⟩
    · rcases Nat.eq_zero_or_pos len with h0 | h0
      · subst h0; exact Or.inl (by simp)
      · obtain ⟨b, off, spot⟩ := A
        obtain ⟨am, cm, al, cl, hc, -⟩ := (hq 0 h0).1
        have hspot : spot = none := by simpa [Addr.add] using World.cell?_spot hc
        subst hspot
        refine Or.inr ⟨b, off, rfl, by simpa [Addr.add] using cell_lt hc, fun i hi => ?_⟩
        rw [hml] at hi
        rw [hnth i hi]
        obtain ⟨am, cm, al, cl, e0, e1, v0, v1⟩ := (hq i hi).1
        rw [Go.WideShapes.add_plain] at e0 e1
        exact ⟨am, cm, al, cl, e0, by rw [Nat.add_assoc]; exact e1, v0, v1, fun h => by cases h⟩
    · rcases Nat.lt_or_ge i len with hi | hi
      · rw [hnth i hi]; exact (hq i hi).2
      · have e : wnth ((List.range len).map q) i = ([], []) := by simp [wnth, List.getD, hi]
        rw [e]; simp [mat, cn]

set_option maxRecDepth 100000 in
theorem okWide_tower {W : World} {base : Nat} {v : Value} (h : Value.okWide Try.prog W .any base 25 v) : ∃ cs : Array Value, v = .agg cs ∧ cs.size = 2 := by
  unfold Value.okWide at h
  rw [Try.underlying25] at h
  obtain ⟨cs, rfl, hs, _⟩ := h
  exact ⟨cs, rfl, hs.trans (by kernel_rfl)⟩
theorem tower_view {H : Type} {enc : TypeId × Value → H} {W : World} {n : Nat} {cs : Array Value} {x : DataW H × List MemPlace} (hs : cs.size = 2) (h : DataW.trod enc Try.prog W 0 (fun _ => true) true n 25 cs.toList = some x) :
    ∃ (d : Int) (ts : List Wb) (a : Option Addr) (c : Nat), cs = #[.int .i64 d, .slice a ts.length c] ∧ WbView false W a ts ∧ WbFit ts := by
  obtain ⟨u, v, rfl⟩ : ∃ u v, cs = #[u, v] := by
    rcases cs with ⟨l⟩
    match l, hs with
    | [u, v], _ => exact ⟨u, v, rfl⟩
  obtain ⟨y0, y1, m, _, hl, t0, t1⟩ := Go.ChangeShapes.trod_struct2 Try.underlying25 h
  have e0 : Try.prog.cellsOf 2 = 1 := by kernel_rfl
  have e1 : Try.prog.cellsOf 23 = 1 := by kernel_rfl
  simp only [e0, e1] at t0 t1
  obtain ⟨z, hz, _, _⟩ := DataW.trod_int Try.underlying2 (by simpa using t0)
  simp at hz
  have t3 : DataW.trod enc Try.prog W 0 (fun _ => true) true m 23 [v] = some y1 := by simpa using t1
  obtain ⟨a, len, cap, rfl⟩ : ∃ a len cap, v = .slice a len cap := by
    rcases open_slice_pairs Try.underlying23 Try.underlying134 (by kernel_rfl) (by kernel_rfl) (by kernel_rfl) (by kernel_rfl) (by kernel_rfl) t3 with ⟨hcs, _⟩ | ⟨A, l, c, m, k, V0, V1, D0, D1, P0, P1, hcs, _⟩
    · simp at hcs; exact ⟨_, _, _, hcs⟩
    · simp at hcs; exact ⟨_, _, _, hcs⟩
  obtain ⟨ts, rfl, hv, hf⟩ := webs_view t3
  exact ⟨z, ts, a, cap, by rw [hz], hv, hf⟩
end Go.Proofs.Ytbmljcpeonopmaa
