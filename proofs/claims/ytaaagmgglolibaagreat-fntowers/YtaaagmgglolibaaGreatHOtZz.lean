import Derived.Test.YtaaagmgglolibaaGreatHMarkZz
import Derived.Test.YtaaagmgglolibaaGreatMMarkZz
namespace Go.Proofs.YtaaagmgglolibaaGreat
open Go Go.RowKit
def Zd5 (base : Nat) (w : World) (v : Value) (hs : List Ht) : Prop := (v = .slice none 0 0 /\ hs = []) \/ ∃ g c, v = .slice (some ⟨g, 0, none⟩) hs.length c /\ ZD base w g c hs
theorem Zd5.view {base : Nat} {w : World} {v : Value} {hs : List Ht} (h : Zd5 base w v hs) : ∃ ao c, v = .slice ao hs.length c /\ Zaq w ao hs := by
 rcases h with ⟨rfl, rfl⟩ | ⟨g, c, rfl, hr⟩
 · exact ⟨none, 0, rfl, Or.inl rfl⟩
 · exact ⟨_, c, rfl, hr.view⟩
end Go.Proofs.YtaaagmgglolibaaGreat
