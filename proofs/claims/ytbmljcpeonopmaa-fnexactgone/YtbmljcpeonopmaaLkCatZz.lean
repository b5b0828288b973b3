/-
  slices.Concat over marks and over lists of links, of whatever length; slices.Clone of numbers.
-/
import Derived.Test.YtbmljcpeonopmaaNCatZz
import Derived.Test.YtbmljcpeonopmaaBMarkZz
import Derived.Test.YtbmljcpeonopmaaAppendZz
namespace Go.Proofs.Ytbmljcpeonopmaa
open Go Go.RowKit

theorem wrapB {y : Int} (h0 : 0 ≤ y) (h1 : y ≤ 4194304) : wrap64 y = y := by unfold wrap64; omega

/-- A row of one-cell values, of the call's own. -/
def VR (base : Nat) (w : World) (g c : Nat) (vs : List Value) : Prop := w.ownsRow base 41 1 (.slice (some ⟨g, 0, none⟩) vs.length c) vs.length vs
theorem VR.lt {base : Nat} {w : World} {g c : Nat} {vs : List Value} (h : VR base w g c vs) : base ≤ g ∧ g < w.heap.size := World.ownsRow.lt h g rfl
theorem VR.of15 {base : Nat} {w : World} {g c n : Nat} {vs xs : List Value} (h : w.ownsRow base 41 1 (.slice (some ⟨g, 0, none⟩) n c) n xs) (hn : n = vs.length) (hx : xs = vs) : VR base w g c vs := by
  subst hn hx; exact h
theorem Try.info41 : (Try.prog.info? 41).map (fun i => (i.zero, i.size, i.bytes)) = some (some (.slice none 0 0), 1, 24) := by kernel_rfl
theorem zeroL_size (n : Nat) : (Builtin.zeroCells #[.slice none 0 0] n).size = n * 1 := by simp [Builtin.zeroCells]
theorem srcV_next {w w' : World} {ao : Option Addr} {vs : List Value} (h : SrcAt w 1 ao vs.length vs) (hb : ∀ a, ao = some a → vs ≠ [] → a.block < w.heap.size) (L : Below w.heap.size w w') : SrcAt w' 1 ao vs.length vs := by
  obtain ⟨h1, h2, h3⟩ := h
  refine ⟨h1, h2, ?_⟩
  rcases h3 with h3 | ⟨a, e, h3⟩
  · exact Or.inl h3
  · refine Or.inr ⟨a, e, fun j u hu => ?_⟩
    have hbb := hb a e (fun e' => by rw [e'] at hu; simp at hu)
    rw [← h3 j u hu]
    refine World.cell?_of_block ?_
    have : ((a.add j).block) = a.block := by unfold Addr.add; split <;> rfl
    rw [this]
    exact L.block _ hbb
abbrev RwL := Option Addr × Nat × List Value
def catV (L : List RwL) : List Value := L.flatMap (·.2.2)
theorem catV_take {L : List RwL} {k : Nat} (h : k < L.length) : catV (L.take (k + 1)) = catV (L.take k) ++ L[k].2.2 := by
  unfold catV
  rw [List.take_add_one, List.getElem?_eq_getElem h, List.flatMap_append]
  congr 1
  simp
theorem catV_len {L : List RwL} {k : Nat} : (catV (L.take k)).length ≤ (catV L).length := by
  have e : catV L = catV (L.take k) ++ catV (L.drop k) := by
    unfold catV
    rw [← List.flatMap_append, List.take_append_drop]
  rw [e]; simp

end Go.Proofs.Ytbmljcpeonopmaa
