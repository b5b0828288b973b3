import Derived.Test.YtilkaeclgmcolaaGreatHMarkZz
import Derived.Test.YtilkaeclgmcolaaGreatMMarkZz
namespace Go.Proofs.YtilkaeclgmcolaaGreat
open Go Go.RowKit
def HOut(base:Nat)(w:World)(v:Value)(hs:List Ht):Prop:=(v=.slice none 0 0/\hs=[])\/∃g c,v=.slice (some ⟨g,0,none⟩) hs.length c/\ZT base w g c hs
theorem HOut.view{base:Nat}{w:World}{v:Value}{hs:List Ht}(h:HOut base w v hs):∃ao c,v=.slice ao hs.length c/\Za7 w ao hs:=by
 rcases h with ⟨rfl,rfl⟩ | ⟨g,c,rfl,hr⟩
 · exact⟨none,0,rfl,Or.inl rfl⟩
 · exact⟨_,c,rfl,hr.view⟩
end Go.Proofs.YtilkaeclgmcolaaGreat
