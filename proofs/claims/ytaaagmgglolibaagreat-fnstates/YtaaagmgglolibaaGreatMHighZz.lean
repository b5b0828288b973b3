import Derived.Test.YtaaagmgglolibaaGreatMRowZz
import Derived.Test.YtaaagmgglolibaaGreatMCellsZz
namespace Go.Proofs.YtaaagmgglolibaaGreat
open Go Go.RowKit
def ZbH(base:Nat)(w:World)(g:Nat)(ms:List Mk)(skip:Nat):Prop:=
 base<=g/\g<w.heap.size/\(∀i,i<ms.length->w.cell? ⟨g,i*2,none⟩=some (.int .i64 (mid ms i))/\(∃v,w.cell? ⟨g,i*2+1,none⟩=some v))/\
 ∀i,i<ms.length->i≠skip->∃b cap,w.cell? ⟨g,i*2+1,none⟩=some (.slice (some ⟨b,0,none⟩) (mat ms i).length cap)/\base<=b/\b<w.heap.size/\b≠g/\Seg w b 0 (mat ms i)
theorem ZbH.kept{base:Nat}{w w':World}{g skip:Nat}{ms:List Mk}{r:Option Nat}(h:ZbH base w g ms skip)(hg:w.grownBy w' r)(hr:∀q,r=some q->q<base):ZbH base w' g ms skip:=by
 have hne:∀k,base<=k->some k≠r:=fun k hk e=>by have:=hr k e.symm;omega
 obtain⟨h1,h2,h3,h4⟩:=h
 refine⟨h1,Nat.lt_of_lt_of_le h2 hg.size,fun i hi=>?_,fun i hi his=>?_⟩
 · rw [ZdB h2 hg (hne g h1),ZdB h2 hg (hne g h1)];exact h3 i hi
 · obtain⟨b,cap,e,hb,hbs,hbg,hs⟩:=h4 i hi his
   exact⟨b,cap,by rw [ZdB h2 hg (hne g h1)];exact e,hb,Nat.lt_of_lt_of_le hbs hg.size,hbg,ZkA hs hbs hg (hne b hb)⟩
theorem ZbH.view{base:Nat}{w:World}{g skip:Nat}{ms:List Mk}(h:ZbH base w g ms skip)(hs:ms.length<=skip):Zq w (some ⟨g,0,none⟩) ms:=
 Or.inr ⟨g,0,rfl,h.2.1,fun i hi=>by
  rw [Nat.zero_add]
  obtain⟨b,cap,e,_,hb,_,hv⟩:=h.2.2.2 i hi (by omega)
  exact⟨(h.2.2.1 i hi).1,_,cap,e,Or.inr ⟨b,0,rfl,hb,hv⟩⟩⟩
theorem ZiZ(ds:List Dm)(i:Nat)(h:i<ds.length):mid (Zj ds) i=(Zk ds i).1:=by rw [<-Zlg,ZaS ds i h]
theorem Zi0(ds:List Dm)(i:Nat)(h:i<ds.length):mat (Zj ds) i=(Zk ds i).2.2.2:=by rw [<-ZkZ,ZaS ds i h]
theorem ZL.high{base:Nat}{w:World}{g c:Nat}{ds:List Dm}(h:ZL base w g c ds)(skip:Nat):ZbH base w g (Zj ds) skip:=by
 refine⟨h.lt.1,h.lt.2,fun i hi=>?_,fun i hi _=>?_⟩
 · rw [Zp] at hi
   rw [ZiZ ds i hi]
   exact⟨(h.cells i hi).1,_,(h.cells i hi).2⟩
 · rw [Zp] at hi
   rw [Zi0 ds i hi]
   obtain⟨hr,hne⟩:=h.2.1 _ (Za4 ds i hi)
   exact⟨_,_,(h.cells i hi).2,hr.lt2.1,hr.lt2.2,hne,hr.seg⟩
theorem Znl(ms:List Mk)(y i:Nat)(m:Mk)(hi:i<ms.length):mid (ms.set y m) i=if i=y then m.1 else mid ms i:=by
 unfold mid
 by_cases h:i=y
 · subst h;simp [List.getD,hi]
 · simp [List.getD,h,Ne.symm h]
theorem Zjm(ms:List Mk)(y i:Nat)(m:Mk)(hi:i<ms.length):mat (ms.set y m) i=if i=y then m.2 else mat ms i:=by
 unfold mat
 by_cases h:i=y
 · subst h;simp [List.getD,hi]
 · simp [List.getD,h,Ne.symm h]
theorem ZgR{w:World}{b off:Nat}{xs:List Int}(h:Seg w b off xs){a:Addr}(ha:b≠a.block)(v:Value):Seg (w.setCell a v) b off xs:=fun i hi=>
 (World.cell?_of_block (w:=w) (a:=⟨b,off+i,none⟩) (Below.heap_setCell w a v b ha)).trans (h i hi)
theorem ZbH.setId{base:Nat}{w:World}{g skip y:Nat}{ms:List Mk}(h:ZbH base w g ms skip)(hy:y<ms.length)(v:Int):
 ZbH base (w.setCell ⟨g,y*2,none⟩ (.int .i64 v)) g (ms.set y (v,mat ms y)) skip:=by
 obtain⟨h1,h2,h3,h4⟩:=h
 refine⟨h1,by rw [Zb];exact h2,fun i hi=>?_,fun i hi his=>?_⟩
 · rw [List.length_set] at hi
   rw [Znl ms y i _ hi,Zba _ _ _ _ _ (by omega:y*2≠i*2+1)]
   refine⟨?_,(h3 i hi).2⟩
   by_cases e:i=y
   · subst e;rw [if_pos rfl];exact World.cell?_setCell_same _ _ _ (h3 i hi).1
   · rw [if_neg e,Zba _ _ _ _ _ (by omega)];exact (h3 i hi).1
 · rw [List.length_set] at hi
   obtain⟨b,cap,e,hb,hbs,hbg,hs⟩:=h4 i hi his
   have hm:mat (ms.set y (v,mat ms y)) i=mat ms i:=by rw [Zjm ms y i _ hi];split <;> simp_all
   rw [hm,Zba _ _ _ _ _ (by omega:y*2≠i*2+1)]
   exact⟨b,cap,e,hb,by rw [Zb];exact hbs,hbg,ZgR hs hbg _⟩
end Go.Proofs.YtaaagmgglolibaaGreat
