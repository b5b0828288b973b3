import Derived.Test.YtilkaeclgmcolaaGreatMathZz
import Derived.Test.YtilkaeclgmcolaaGreatCopyZz
import Derived.Test.YtilkaeclgmcolaaGreatArgsZz
import Derived.Test.YtilkaeclgmcolaaGreatMCellsZz
namespace Go.Proofs.YtilkaeclgmcolaaGreat
open Go Go.RowKit
theorem Zy.seg{w:World}{ao:Option Addr}{xs:List Int}(h:Zy w ao xs)(h0:0<xs.length):∃b off,ao=some ⟨b,off,none⟩/\b<w.heap.size/\Seg w b off xs:=by
 rcases h with h | h
 · subst h;simp at h0
 · exact h
end Go.Proofs.YtilkaeclgmcolaaGreat
