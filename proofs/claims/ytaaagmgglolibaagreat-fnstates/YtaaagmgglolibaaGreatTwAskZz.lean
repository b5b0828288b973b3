import Derived.Test.YtaaagmgglolibaaGreatTwOkZz
import Derived.Test.YtaaagmgglolibaaGreatMathZz
import Derived.Test.YtaaagmgglolibaaGreatFeBmZz
import Derived.Deep.CutRange
import Derived.Deep.CutBlock
import Derived.Test.YtaaagmgglolibaaGreatFgRowZz
import Derived.Test.YtaaagmgglolibaaGreatKSuitZz
import Derived.Test.YtaaagmgglolibaaGreatLastZz
namespace Go.Proofs.YtaaagmgglolibaaGreat
open Go Go.RowKit
theorem Zej{lo hi:List Mk}(h:Zan lo hi=true){k:Nat}(hk:k<hi.length):0<=Zv lo (mid hi k)/\mat lo (Zy lo (mid hi k))=mat hi k:=by
 rw [Zan,List.all_eq_true] at h
 exact Zbg.1 (h _ (ZdF hk))
theorem Zkj{lo hi:List Mk}{q:List Int}(h:Zan lo hi=true)(hm:Zn hi=true)(ht:Zap lo q=true):Zap hi q=true:=by
 simp only [Zap,Bool.and_eq_true,Bool.or_eq_true,decide_eq_true_eq] at ht ⊢
 refine⟨⟨hm,ht.1.2⟩,?_⟩
 rcases Nat.eq_zero_or_pos hi.length with e | e
 · exact Or.inl e
 · right
   obtain⟨h1,h2⟩:=Zej h e
   have h3:=(ZQ h1).1
   rw [<-h2,((ZG _ _).1 (ZM ht.1.1 h3)).2.2.2.1]
   rcases ht.2 with h4 | h4
   · omega
   · exact h4
end Go.Proofs.YtaaagmgglolibaaGreat
