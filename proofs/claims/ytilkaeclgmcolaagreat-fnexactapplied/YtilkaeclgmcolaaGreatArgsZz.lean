import Derived.Test.YtilkaeclgmcolaaGreatRows
import Derived.WalkKit
import Derived.ProofKit
import Derived.OpenShut
import Derived.ShutString
import Derived.ChangeOld
import Derived.Below
import Derived.Test.YtilkaeclgmcolaaGreatCopyZz
namespace Go.Proofs.YtilkaeclgmcolaaGreat
open Go Go.RowKit
theorem Zcn{w:World}{a:Addr}{v:Value}(h:w.cell? a=some v):a.block<w.heap.size:=by
 rcases Nat.lt_or_ge a.block w.heap.size with h1 | h1
 · exact h1
 · simp [World.cell?,Array.getElem?_eq_none h1] at h
def ZlJ(k:IntKind)(w:World)(a:Option Addr)(len cap:Nat)(zs:List Int):Prop:=
 (a=none/\len=0/\cap=0/\zs=[])\/
 ∃x,a=some x/\len<=cap/\cap<=maxLen/\zs.length=cap/\(∀i,i<zs.length->w.cell? (x.add i)=some (.int k (zs.getD i 0)))/\∀n∈zs,(Lit.int k n).wf=true
theorem ZlJ.view{w:World}{a:Option Addr}{len cap:Nat}{zs:List Int}(h:ZlJ .i64 w a len cap zs):∃xs,len=xs.length/\Zy w a xs/\len<=maxLen:=by
 rcases h with ⟨rfl,rfl,rfl,rfl⟩ | ⟨x,rfl,hl,hm,hz,hcell,hwz⟩
 · exact⟨[],rfl,Or.inl rfl,Nat.zero_le _⟩
 · refine⟨zs.take len,by simp;omega,?_,by omega⟩
   rcases Nat.eq_zero_or_pos len with h0 | h0
   · subst h0;exact Or.inl (by simp)
   · obtain⟨b,f,e⟩:=x
     have g:=hcell 0 (by omega)
     have c:e=none:=by simpa [Addr.add] using World.cell?_spot g
     subst c
     refine Or.inr ⟨b,f,rfl,by simpa [Addr.add] using Zcn g,fun i j=>?_⟩
     have d:i<len/\i<zs.length:=by simp at j;omega
     have:=hcell i d.2
     by_cases h0:i=0
     · subst h0;simpa [Addr.add,nth,List.getD,List.getElem?_take,d.1] using this
     · simpa [Addr.add,h0,nth,List.getD,List.getElem?_take,d.1] using this
theorem Zb{w w1 w2:World}(h:Below w.heap.size w w1)(k:Below w1.heap.size w1 w2):Below w.heap.size w w2:=h.trans (k.mono h.size)
end Go.Proofs.YtilkaeclgmcolaaGreat
