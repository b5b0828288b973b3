import Derived.Test.YtaaagmgglolibaaGreatTwArgsZz
import Derived.Test.YtaaagmgglolibaaGreatFeWalkZz
import Derived.Laws.ByValue
import Derived.Test.YtaaagmgglolibaaGreatKSuitZz
import Derived.Test.YtaaagmgglolibaaGreatTwAskZz
namespace Go.Proofs.YtaaagmgglolibaaGreat
open Go Go.RowKit
theorem ZiO{ms:List Mk}{id:Int}(h:∀j,j<ms.length->mid ms j≠id):decide (0<=Zv ms id)=false:=by
 refine decide_eq_false (fun h0=>?_)
 obtain⟨h1,_,h3⟩:=ZQ h0
 exact h _ h1 h3
theorem ZhJ{wd:Int}{ms:List Mk}{d:Int}{ts:List Wb}{nx:Int}{q:List Int}(h:stB wd ms d ts nx=true)(hq:okB q=true)(hl:(q.length:Int)=wd):Zap (Zl ts 0).1 q=true:=by
 obtain⟨_,h2,h3,_⟩:=ZaD h
 have hm:Zn (Zl ts 0).1=true:=ZJ (Zcd h2 (n:=0) (by omega))
 rw [Zap,hm,hq]
 rcases Nat.eq_zero_or_pos (Zl ts 0).1.length with h0 | h0
 · simp [h0]
 · have:=(ZiP h3 h0).1
   have e:decide ((mat (Zl ts 0).1 0).length=q.length)=true:=decide_eq_true (by omega)
   rw [e];simp
end Go.Proofs.YtaaagmgglolibaaGreat
