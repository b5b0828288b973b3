import Derived.Test.YtaaagmgglolibaaGreatHMarkZz
import Derived.Test.YtaaagmgglolibaaGreatMMarkZz
namespace Go.Proofs.YtaaagmgglolibaaGreat
open Go Go.RowKit
def Zb8 (base : Nat) (w : World) (v : Value) (hs : List Ht) : Prop := (v = .slice none 0 0 /\ hs = []) \/ ∃ g c, v = .slice (some ⟨g, 0, none⟩) hs.length c /\ Zy base w g c hs
theorem Zb8.view {base : Nat} {w : World} {v : Value} {hs : List Ht} (h : Zb8 base w v hs) : ∃ ao c, v = .slice ao hs.length c /\ Z6 w ao hs := by
 rcases h with ⟨rfl, rfl⟩ | ⟨g, c, rfl, hr⟩
 · exact ⟨none, 0, rfl, Or.inl rfl⟩
 · exact ⟨_, c, rfl, hr.view⟩
theorem Zb8.slice {base c : Nat} {w : World} {ao : Option Addr} {hs : List Ht} {n : Nat} (h : Zb8 base w (.slice ao n c) hs) : Z6 w ao hs := by
 obtain ⟨a', c', e', h'⟩ := h.view
 injection e' with e1 e2 e3
 rw [e1]; exact h'
end Go.Proofs.YtaaagmgglolibaaGreat
