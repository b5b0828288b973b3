import Derived.Test.YtilkaeclgmcolaaGreatArgsZz
import Derived.Test.YtilkaeclgmcolaaGreatMCopyZz
import Derived.Deep.SlicePairs
import Derived.Test.YtilkaeclgmcolaaGreatAppendZz
namespace Go.Proofs.YtilkaeclgmcolaaGreat
open Go Go.RowKit Go.Deep
theorem Zfp{H:Type}{enc:TypeId×Value->H}{W:World}{n:Nat}{v:Value}{x:DataW H×List MemPlace}(h:DataW.trod enc Tryz.prog W 0 (fun _=>true) true n 31 [v]=some x):
 ∃(xs:List Int) (ao:Option Addr) (cap:Nat),v=.slice ao xs.length cap/\Zy W ao xs/\xs.length<=maxLen:=by
 rcases Go.ChangeShapes.open_ints Tryz.underlying31 Tryz.underlying2 (by kernel_rfl) h with ⟨hcs,_⟩ | ⟨a,l,c,zs,hcs,_,hl,hm,hz,_,hcell,hwz⟩
 · simp at hcs
   exact⟨[],none,0,hcs,Or.inl rfl,Nat.zero_le _⟩
 · simp at hcs
   have e:ZlJ .i64 W (some a) l c zs:=.inr ⟨_,rfl,hl,hm,by simpa using hz,hcell,hwz⟩
   obtain⟨xs,rfl,b,d⟩:=e.view
   exact⟨xs,some a,c,hcs,b,d⟩
theorem Zjx{H:Type}{enc:TypeId×Value->H}{W:World}{n:Nat}{a:Option Addr}{len cap:Nat}{x:DataW H×List MemPlace}(h:DataW.trod enc Tryz.prog W 0 (fun _=>true) true n 22 [.slice a len cap]=some x):
 ∃ms:List Mk,len=ms.length/\Zo W a ms/\ms.length<=maxLen/\∀i,(mat ms i).length<=maxLen:=by
 rcases open_slice_pairs Tryz.underlying22 Tryz.underlying166 (by kernel_rfl) (by kernel_rfl) (by kernel_rfl) (by kernel_rfl) (by kernel_rfl) h with ⟨hcs,_⟩ | ⟨A,l,c,m,k,V0,V1,D0,D1,P0,P1,hcs,_,hl,hm,hmm,_,hall⟩
 · simp at hcs
   obtain⟨rfl,rfl,rfl⟩:=hcs
   exact⟨[],rfl,Or.inl rfl,Nat.zero_le _,fun i=>by simp [mat]⟩
 · simp at hcs
   obtain⟨rfl,rfl,rfl⟩:=hcs
   simp at hmm
   subst hmm
   have o:∀i,i<len->∃q:Mk,W.cell? (A.add (i*2))=some (.int .i64 q.1)/\(∃g p,W.cell? (A.add (i*2+1))=some (.slice g q.2.length p)/\Zy W g q.2)/\q.2.length<=maxLen:=by
    intro i d
    obtain⟨s,r,F,C⟩:=hall i (by omega)
    obtain⟨z,y,_,_⟩:=DataW.trod_int Tryz.underlying2 F
    simp at y
    obtain⟨D,g,p,u,v,E⟩:=Zfp C
    exact⟨(z,D),by rw [s,y],⟨g,p,by rw [r,u],v⟩,E⟩
   obtain⟨q,t⟩:=choose_lt o
   have e:((List.range len).map q).length=len:=by simp
   have Zx:∀i,i<len->ZJ ((List.range len).map q) i=q i:=fun i d=>by simp [ZJ,List.getD,d]
   refine⟨(List.range len).map q,e.symm,?_,by rw [e];omega,fun i=>?_⟩
   · rcases Nat.eq_zero_or_pos len with h0 | h0
     · subst h0;exact Or.inl (by simp)
     · obtain⟨b,w,j⟩:=A
       have B:=(t 0 h0).1
       have f:j=none:=by simpa [Addr.add] using World.cell?_spot B
       subst f
       refine Or.inr ⟨b,w,rfl,by simpa [Addr.add] using Zcn B,fun i d=>?_⟩
       rw [e] at d
       rw [Zx i d]
       obtain⟨s,⟨g,p,r,v⟩,_⟩:=t i d
       rw [Go.WideShapes.add_plain] at s r
       exact⟨s,g,p,by rw [Nat.add_assoc];exact r,v⟩
   · rcases Nat.lt_or_ge i len with d | d
     · rw [<-Zpx,Zx i d];exact (t i d).2.2
     · simp [mat,List.getD,d]
end Go.Proofs.YtilkaeclgmcolaaGreat
namespace Go.Proofs.YtilkaeclgmcolaaGreat
open Go Go.RowKit Go.Deep Go.ChangeShapes Go.WideShapes
section
variable {H:Type} {enc:TypeId×Value->H} {P:Program} {w:World} {base:Nat} {spare:Nat->Bool} {held:Bool}
theorem ZdP{t e:TypeId}{f0 f1 f2:Field}{fuel:Nat}{cs:List Value}{x:DataW H×List MemPlace}(ht:P.underlying t=some (.slice e))(he:P.underlying e=some (.struct #[f0,f1,f2]))
 (ce:P.cellsOf e=3) (o0:f0.offset=0) (o1:f1.offset=1) (o2:f2.offset=2) (c0:P.cellsOf f0.type=1) (c1:P.cellsOf f1.type=1) (c2:P.cellsOf f2.type=1)
 (h:DataW.trod enc P w base spare held fuel t cs=some x):
 cs=[.slice none 0 0]\/
 ∃(a:Addr) (len cap m:Nat),cs=[.slice (some a) len cap]/\len<=cap/\cap<=maxLen/\m=(if spare a.block then cap else len)/\
  ∀i,i<m->∃(n:Nat) (v0 v1 v2:Value) (y0 y1 y2:DataW H×List MemPlace),w.cell? (a.add (i*3))=some v0/\w.cell? (a.add (i*3+1))=some v1/\w.cell? (a.add (i*3+2))=some v2/\
   DataW.trod enc P w base spare held n f0.type [v0]=some y0/\DataW.trod enc P w base spare held n f1.type [v1]=some y1/\DataW.trod enc P w base spare held n f2.type [v2]=some y2:=by
 rcases open_slice ht h with h0 | ⟨a,len,cap,m,n,D,Pl,rfl,hb,hl,hm,hmm,rfl,hx⟩
 · exact Or.inl h0.1
 right
 refine⟨a,len,cap,m,rfl,hl,hm,hmm,fun i u=>?_⟩
 obtain⟨f,l,y⟩:=hx i u
 rw [ce] at l
 obtain⟨_,c,b⟩:=World.cells?_some l
 obtain⟨v,k,A,z,_,g,d⟩:=DataW.trod_struct he y
 match v,g,f,c with
 | [y0,y1,y2],_,[v0,v1,v2],_=>
   have o:=d 0 f0 rfl
   have j:=d 1 f1 rfl
   have s:=d 2 f2 rfl
   simp [o0,o1,o2,c0,c1,c2] at o j s
   have r:=b 0 (by omega)
   have q:=b 1 (by omega)
   have p:=b 2 (by omega)
   rw [add_add] at r q p
   exact⟨k,v0,v1,v2,y0,y1,y2,by simpa using r,by simpa using q,by simpa using p,o,j,s⟩
end
theorem Zft{H:Type}{enc:TypeId×Value->H}{W:World}{n:Nat}{a:Option Addr}{len cap:Nat}{x:DataW H×List MemPlace}(h:DataW.trod enc Tryz.prog W 0 (fun _=>true) true n 28 [.slice a len cap]=some x):
 ∃ts:List Zv,len=ts.length/\Zm W a ts/\ts.length<=maxLen:=by
 rcases ZdP Tryz.underlying28 Tryz.underlying124 (by kernel_rfl) (by kernel_rfl) (by kernel_rfl) (by kernel_rfl) (by kernel_rfl) (by kernel_rfl) (by kernel_rfl) h with hcs | ⟨A,l,c,m,hcs,hl,hm,hmm,hall⟩
 · simp at hcs
   obtain⟨rfl,rfl,rfl⟩:=hcs
   exact⟨[],rfl,Or.inl rfl,Nat.zero_le _⟩
 · simp at hcs
   obtain⟨rfl,rfl,rfl⟩:=hcs
   simp at hmm
   subst hmm
   have p:∀i,i<len->∃q:Zv,W.cell? (A.add (i*3))=some (.int .i64 q.1)/\W.cell? (A.add (i*3+1))=some (.int .i64 q.2.1)/\W.cell? (A.add (i*3+2))=some (.int .i64 q.2.2):=by
    intro i f
    obtain⟨k,N,K,M,I,L,J,u,s,t,G,B,D⟩:=hall i (by omega)
    obtain⟨F,r,_,_⟩:=DataW.trod_int Tryz.underlying2 G
    obtain⟨C,g,_,_⟩:=DataW.trod_int Tryz.underlying2 B
    obtain⟨E,o,_,_⟩:=DataW.trod_int Tryz.underlying2 D
    simp at r g o
    exact⟨(F,C,E),by rw [u,r],by rw [s,g],by rw [t,o]⟩
   obtain⟨q,y⟩:=choose_lt p
   have d:((List.range len).map q).length=len:=by simp
   have v:∀i,i<len->Zr ((List.range len).map q) i=q i:=fun i f=>by simp [Zr,List.getD,f]
   refine⟨(List.range len).map q,d.symm,?_,by rw [d];omega⟩
   rcases Nat.eq_zero_or_pos len with h0 | h0
   · subst h0;exact Or.inl (by simp)
   · obtain⟨b,w,j⟩:=A
     have z:=(y 0 h0).1
     have e:j=none:=by simpa [Addr.add] using World.cell?_spot z
     subst e
     refine Or.inr ⟨b,w,rfl,by simpa [Addr.add] using Zcn z,fun i f=>?_⟩
     rw [d] at f
     rw [v i f]
     obtain⟨u,s,t⟩:=y i f
     rw [Go.WideShapes.add_plain] at u s t
     exact⟨u,by rw [Nat.add_assoc];exact s,by rw [Nat.add_assoc];exact t⟩
end Go.Proofs.YtilkaeclgmcolaaGreat
