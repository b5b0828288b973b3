import Derived.Test.YtilkaeclgmcolaaGreatFeHelpZz
import Derived.Test.YtilkaeclgmcolaaGreatMRowZz
import Derived.Test.YtilkaeclgmcolaaGreatBMarkZz
set_option maxHeartbeats 2000000
namespace Go.Proofs.YtilkaeclgmcolaaGreat
open Go Go.RowKit
theorem Zi7(ds:List Dm)(j:Nat)(h:j<ds.length)(id:Int)(xs:List Int)(hl:xs.length=(Zu ds j).2.2.2.length):
 ZG (ds.set j (id,(Zu ds j).2.1,(Zu ds j).2.2.1,xs))=(ZG ds).set (j*2) (.int .i64 id):=by
 induction ds generalizing j with
 | nil=>simp at h
 | cons d ds ih=>
   cases j with
   | zero=>
     have e:Zu (d::ds) 0=d:=rfl
     rw [e] at hl ⊢
     simp [ZG,hl]
   | succ j=>
     have a:j<ds.length:=by simpa using h
     have e:=ih j a hl
     rw [show (j+1)*2=j*2+1+1 by omega]
     show ZG (d::ds.set j _)=_
     simp only [ZG,List.set_cons_succ]
     first
      | (rw [<-e];rfl)
      | (simp only [List.cons_append,List.nil_append,List.set_cons_succ];rw [<-e];rfl)
theorem Zbx(ds:List Dm)(j:Nat)(h:j<ds.length)(d:Dm)(i:Nat):Zu (ds.set j d) i=if i=j then d else Zu ds i:=by
 by_cases e:i=j
 · subst e;simp [Zu,List.getD,h]
 · simp [Zu,List.getD,e,List.getElem?_set_ne (fun a=>e a.symm)]
structure ZbT(base:Nat)(w:World)(g c:Nat)(ds:List Dm):Prop where
 row:w.ownsRow base 161 2 (.slice (some ⟨g,0,none⟩) ds.length c) ds.length (ZG ds)
 rows:∀i,i<ds.length->ZQ base w (Zu ds i).2.1 (Zu ds i).2.2.1 (Zu ds i).2.2.2
 off:∀i,i<ds.length->(Zu ds i).2.1≠g
 apart:∀i j,i<ds.length->j<ds.length->i≠j->(Zu ds i).2.1≠(Zu ds j).2.1
theorem ZbT.lt{base:Nat}{w:World}{g c:Nat}{ds:List Dm}(h:ZbT base w g c ds):base<=g/\g<w.heap.size:=World.ownsRow.lt h.row g rfl
theorem ZbT.cells{base:Nat}{w:World}{g c:Nat}{ds:List Dm}(h:ZbT base w g c ds)(i:Nat)(hi:i<ds.length):
 w.cell? ⟨g,i*2,none⟩=some (.int .i64 (Zu ds i).1)/\w.cell? ⟨g,i*2+1,none⟩=some (.slice (some ⟨(Zu ds i).2.1,0,none⟩) (Zu ds i).2.2.2.length (Zu ds i).2.2.1):=by
 have:=Zcz ds i hi
 rw [World.ownsRow.cellAt h.row _ (by omega),World.ownsRow.cellAt h.row _ (by omega)]
 exact this
theorem ZbT.view{base:Nat}{w:World}{g c:Nat}{ds:List Dm}(h:ZbT base w g c ds):Zo w (some ⟨g,0,none⟩) (Zs ds):=
 Or.inr ⟨g,0,rfl,h.lt.2,fun i hi=>by
  rw [ZI] at hi
  rw [Nat.zero_add,Zb8 ds i hi]
  exact⟨(h.cells i hi).1,_,_,(h.cells i hi).2,(h.rows i hi).view⟩⟩
theorem ZbT.over{base:Nat}{w w2:World}{g c:Nat}{ds:List Dm}(h:ZbT base w g c ds)(j:Nat)(hj:j<ds.length)(id:Int)(xs:List Int)(hl:xs.length=(Zu ds j).2.2.2.length)
 (hg:(w.setCell ⟨g,j*2,none⟩ (.int .i64 id)).grownBy w2 (some (Zu ds j).2.1)) (hr:ZQ base w2 (Zu ds j).2.1 (Zu ds j).2.2.1 xs):ZbT base w2 g c (ds.set j (id,(Zu ds j).2.1,(Zu ds j).2.2.1,xs)):=by
 have b:=h.off j hj
 have n:=(World.ownsRow.stored h.row (j*2) (.int .i64 id)).1
 have f:∀i,i<ds.length->i≠j->(w2.heap[(Zu ds i).2.1]? =w.heap[(Zu ds i).2.1]?):=fun i a e=>by
  have m:=(h.rows i a).lt
  refine (hg.block _ (by rw [Ze];exact m.2) (fun d=>?_)).trans (Below.heap_setCell w ⟨g,j*2,none⟩ _ _ (fun d=>h.off i a d))
  injection d with d
  exact h.apart i j a hj e d
 refine⟨?_,fun i a=>?_,fun i a=>?_,fun i k a l e=>?_⟩
 · rw [List.length_set,Zi7 ds j hj id xs hl]
   exact World.ownsRow.kept n hg (Or.inr (by simp [Value.ownBlock];exact fun e=>b e.symm))
 · rw [List.length_set] at a
   rw [Zbx ds j hj]
   by_cases e:i=j
   · rw [if_pos e];exact hr
   · rw [if_neg e];exact (h.rows i a).same (f i a e)
 · rw [List.length_set] at a
   rw [Zbx ds j hj]
   by_cases e:i=j
   · rw [if_pos e];exact b
   · rw [if_neg e];exact h.off i a
 · rw [List.length_set] at a l
   rw [Zbx ds j hj,Zbx ds j hj]
   by_cases e1:i=j
   · rw [if_pos e1,if_neg (by omega)];exact h.apart j k hj l (by omega)
   · rw [if_neg e1]
     by_cases e2:k=j
     · rw [if_pos e2];exact h.apart i j a hj e1
     · rw [if_neg e2];exact h.apart i k a l e
structure ZhT(g:Nat)(ds:List Dm)(w w':World):Prop where
 os:w'.os=w.os
 tape:w'.tape=w.tape
 output:w'.output=w.output
 size:w.heap.size<=w'.heap.size
 block:∀b,b<w.heap.size->b≠g->(∀i,i<ds.length->b≠(Zu ds i).2.1)->w'.heap[b]? =w.heap[b]?
theorem ZhT.refl(g:Nat)(ds:List Dm)(w:World):ZhT g ds w w:=⟨rfl,rfl,rfl,Nat.le_refl _,fun _ _ _ _=>rfl⟩
theorem ZhT.step{g:Nat}{ds:List Dm}{w w1 w2:World}(h:ZhT g ds w w1)(k j:Nat)(v:Value)(hj:j<ds.length)(hg:(w1.setCell ⟨g,k,none⟩ v).grownBy w2 (some (Zu ds j).2.1)):ZhT g ds w w2:=
 ⟨hg.os.trans h.os,hg.tape.trans h.tape,hg.output.trans h.output,Nat.le_trans h.size (by have:=hg.size;rw [Ze] at this;exact this),fun b hb h1 h2=>by
  refine (hg.block b (by rw [Ze];exact Nat.lt_of_lt_of_le hb h.size) (fun e=>?_)).trans ((Below.heap_setCell w1 ⟨g,k,none⟩ _ b (fun e=>h1 e)).trans (h.block b hb h1 h2))
  injection e with e
  exact h2 j hj e⟩
structure MkTo(base g c:Nat)(ds:List Dm)(k0:Int)(w wr:World)(j:Nat)(es:List Dm):Prop where
 own:ZbT base wr g c es
 len:es.length=ds.length
 done:∀i,i<j->ZJ (Zs es) i=ZJ (mkM k0 (Zs ds)) i
 rest:∀i,j<=i->Zu es i=Zu ds i
 blk:∀i,i<ds.length->(Zu es i).2.1=(Zu ds i).2.1
 chg:ZhT g ds w wr
theorem Zmj{a b:List Mk}(hl:a.length=b.length)(h:∀i,i<a.length->ZJ a i=ZJ b i):a=b:=by
 refine List.ext_getElem hl (fun i c d=>?_)
 have e:=h i c
 simpa [ZJ,List.getD,c,d] using e
theorem Zo8(base g c:Nat)(ds:List Dm)(k0:Int)(w:World)(hm:ZbT base w g c ds)(hn:ds.length<=60)(hat:∀x∈Zs ds,x.2.length<=4)(h0:1<=k0)(h1:k0<=1000000):
 Calls Tryz.prog 93 #[.slice (some ⟨g,0,none⟩) ds.length c,.int .i64 k0] w fun e w'=>e=.returned (.int .i64 (k0+Z8 (Zs ds)))/\(∃es,ZbT base w' g c es/\es.length=ds.length/\Zs es=mkM k0 (Zs ds)/\∀i,i<ds.length->(Zu es i).2.1=(Zu ds i).2.1)/\ZhT g ds w w':=by
 have l:=Za hat
 have J:=Za hm
 clear hat hm
 go_enter Tryz.func93,Tryz.ntmps93
 go_wp2_with fail
 go_loopw [1,5] (fun z i wr=>∃(j:Nat) (es:List Dm),j<=ds.length/\i=.int .i64 j/\z=.int .i64 (k0+Z8 ((Zs ds).take j))/\MkTo base g c ds k0 w wr j es) (fun _ i _=>ds.length-(intOf i).toNat)
 case atStart=>exact⟨0,ds,Nat.zero_le _,rfl,by simp [Z8],⟨J.out,rfl,fun i f=>absurd f (by omega),fun i _=>rfl,fun i _=>rfl,ZhT.refl _ _ _⟩⟩
 case round=>
  obtain⟨j,es,L,rfl,rfl,I⟩:=hrel
  by_cases hlt:j<ds.length
  · have a:j<es.length:=by rw [I.len];exact hlt
    have d:j<(Zs ds).length:=by rw [ZI];exact hlt
    obtain⟨c0,c1⟩:=I.own.cells j a
    have N:wr.frozen? ⟨g,j*2,none⟩=false:=World.ownsRow.frozenAt I.own.row (j*2)
    have s:=I.rest j (Nat.le_refl _)
    have u:(ZJ (Zs ds) j).2.length<=4:=by
     have:ZJ (Zs ds) j=(Zs ds)[j]:=by simp [ZJ,List.getD,d]
     rw [this];exact l.out _ (List.getElem_mem d)
    have v:=ZcJ ((Zs ds).take j) 60 4 (by rw [List.length_take,ZI];omega) (fun x F=>l.out x (List.mem_of_mem_take F))
    have q:=Za (Zek (Zs ds) j d)
    have o:=Za (Zl4 k0 (Zs ds) j d)
    have A:=Za (Zb8 ds j hlt)
    have D:=Za I
    have b:(Zu es j).2.2.2.length=(ZJ (Zs ds) j).2.length:=by rw [s,Zb8 ds j hlt]
    rw [b] at c1
    have n:=Za b
    have E:Hid (Calls Tryz.prog 25 #[.slice (some ⟨(Zu es j).2.1,0,none⟩) (ZJ (Zs ds) j).2.length (Zu es j).2.2.1,.int .i64 (k0+Z8 ((Zs ds).take j)+1)] (wr.setCell ⟨g,j*2,none⟩ (.int .i64 (k0+Z8 ((Zs ds).take j)))) fun e w'=>e=.returned (.int .i64 (k0+Z8 ((Zs ds).take j)+1+(ZJ (Zs ds) j).2.length))/\ZQ base w' (Zu es j).2.1 (Zu es j).2.2.1 (ZaE (fun i=>k0+Z8 ((Zs ds).take j)+1+i) (ZJ (Zs ds) j).2.length)/\(wr.setCell ⟨g,j*2,none⟩ (.int .i64 (k0+Z8 ((Zs ds).take j)))).grownBy w' (some (Zu es j).2.1)):=by
     have:=ZoG base (Zu es j).2.1 (Zu es j).2.2.1 (k0+Z8 ((Zs ds).take j)+1) (Zu es j).2.2.2 (wr.setCell ⟨g,j*2,none⟩ (.int .i64 (k0+Z8 ((Zs ds).take j)))) ((I.own.rows j a).same (Below.heap_setCell wr ⟨g,j*2,none⟩ _ _ (fun e=>I.own.off j a e))) (by omega) (by omega) (by omega)
     rw [b] at this
     exact this
    have H:=n0Z j
    have y:(j:Int)<(ds.length:Int):=by omega
    clear s b I
    generalize hM:(ZJ (Zs ds) j).2.length=m at *
    generalize hT:Z8 ((Zs ds).take j)=T at *
    generalize hG:(Zu es j).2.1=gb at *
    generalize hC:(Zu es j).2.2.1=cb at *
    have C:=Za (And.intro hM (And.intro hT (And.intro hG hC)))
    clear hM hT hG hC
    go_wp2_with fail
    refine E.out.mono ?_
    rintro e M ⟨rfl,k,h⟩
    have r:=Za (And.intro k h)
    clear k h
    go_wp2_with fail
    go_roundw
    case rel=>
     obtain⟨O,K,G,B⟩:=C.out
     have I:=D.out
     have k:=r.out.1
     have h:=r.out.2
     rw [<-G] at k h
     rw [<-B] at k
     have p:(ZaE (fun i=>k0+(T:Int)+1+i) m).length=(Zu es j).2.2.2.length:=by rw [ZE,n.out]
     have t:=I.blk j hlt
     refine⟨j+1,es.set j (k0+T,(Zu es j).2.1,(Zu es j).2.2.1,ZaE (fun i=>k0+(T:Int)+1+i) m),by omega,by go_num,by rw [q.out];congr 1;omega,?_⟩
     refine⟨I.own.over j a _ _ p h k,by rw [List.length_set];exact I.len,fun i f=>?_,fun i f=>?_,fun i f=>?_,I.chg.step _ j _ hlt (by rw [<-t];exact h)⟩
     · rw [Zb8 _ _ (by rw [List.length_set];omega),Zbx es j a]
       by_cases e:i=j
       · subst e
         rw [if_pos rfl,o.out]
       · rw [if_neg e,<-Zb8 _ _ (by omega)]
         exact I.done i (by omega)
     · rw [Zbx es j a,if_neg (by omega)]
       exact I.rest i (by omega)
     · rw [Zbx es j a]
       by_cases e:i=j
       · subst e;rw [if_pos rfl];exact t
       · rw [if_neg e];exact I.blk i f
    case measure=>simp [intOf];omega
  · obtain rfl:j=ds.length:=by omega
    go_wp2_with fail
    go_ret
    refine⟨ZK (by rw [<-ZI,List.take_length]),⟨es,I.own,I.len,Zmj (by rw [ZI,ZdG,ZI];exact I.len) (fun i f=>I.done i (by rw [ZI,I.len] at f;exact f)),I.blk⟩,I.chg⟩
end Go.Proofs.YtilkaeclgmcolaaGreat
