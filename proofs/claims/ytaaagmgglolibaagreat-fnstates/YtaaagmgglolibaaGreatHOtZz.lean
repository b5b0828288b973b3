import Derived.Test.YtaaagmgglolibaaGreatHMarkZz
import Derived.Test.YtaaagmgglolibaaGreatMMarkZz
namespace Go.Proofs.YtaaagmgglolibaaGreat
open Go Go.RowKit
def ZiF(base:Nat)(w:World)(v:Value)(hs:List Ht):Prop:=(v=.slice none 0 0/\hs=[])\/∃g c,v=.slice (some ⟨g,0,none⟩) hs.length c/\ZN base w g c hs
theorem ZiF.view{base:Nat}{w:World}{v:Value}{hs:List Ht}(h:ZiF base w v hs):∃ao c,v=.slice ao hs.length c/\Za3 w ao hs:=by
 rcases h with ⟨rfl,rfl⟩ | ⟨g,c,rfl,hr⟩
 · exact⟨none,0,rfl,Or.inl rfl⟩
 · exact⟨_,c,rfl,hr.view⟩
end Go.Proofs.YtaaagmgglolibaaGreat
