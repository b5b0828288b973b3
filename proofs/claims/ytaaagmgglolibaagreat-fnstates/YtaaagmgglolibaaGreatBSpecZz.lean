import Derived.Test.YtaaagmgglolibaaGreatMathZz
import Derived.Test.YtaaagmgglolibaaGreatCopyZz
import Derived.Test.YtaaagmgglolibaaGreatArgsZz
import Derived.Test.YtaaagmgglolibaaGreatMCellsZz
namespace Go.Proofs.YtaaagmgglolibaaGreat
open Go Go.RowKit
theorem Zs.seg{w:World}{ao:Option Addr}{xs:List Int}(h:Zs w ao xs)(h0:0<xs.length):∃b off,ao=some ⟨b,off,none⟩/\b<w.heap.size/\Seg w b off xs:=by
 rcases h with h | h
 · subst h;simp at h0
 · exact h
end Go.Proofs.YtaaagmgglolibaaGreat
